/-
  Fields of package text: it returns what chapter 2 says, in a slice of its own; of what was there nothing has turned.
-/
import Derived.Test.YtanjmljlpdhlnaaGreatDoorTLines
namespace Go.Proofs.YtanjmljlpdhlnaaGreatDoor
open Go Go.RowKit Go.Sort Wire Txt

set_option maxRecDepth 100000 in
theorem whiteFn_c (b : Nat) (s : List UInt8) (k : Nat) (c : UInt8) (hc : s[k]? = some c) (hs : s.length ≤ 1000000) (w : World) (hw : w.cell? ⟨b, 0, none⟩ = some (.string ⟨s.toArray⟩)) :
    Calls Tryz.prog 38 #[.int .i64 k, .pointer (some ⟨b, 0, none⟩)] w fun e w' => e = .returned (.bool (white c)) ∧ w = w' := by
  have hk := (List.getElem?_eq_some_iff.1 hc).1
  have ei := at_k s k c hc (by rw [ba_size]; exact hk)
  have hk' : (k : Int) < (s.length : Int) := by omega
  clear hc
  by_cases h1 : c.toNat = 32
  · have HR := Lib.hid (show white c = true by simp [white, h1])
    have b1 : ((c.toNat : Int) == 32) = true := by rw [h1]; rfl
    clear h1
    go_enter Tryz.func38, Tryz.ntmps38
    go_wp2_with fail
    go_ret
    exact ⟨ret_bool HR.out.symm, rfl⟩
  · have b1 : ((c.toNat : Int) == 32) = false := beq_no (by omega)
    by_cases h2 : c.toNat = 9
    · have HR := Lib.hid (show white c = true by simp [white, h2])
      have b2 : ((c.toNat : Int) == 9) = true := by rw [h2]; rfl
      clear h1 h2
      go_enter Tryz.func38, Tryz.ntmps38
      go_wp2_with fail
      go_ret
      exact ⟨ret_bool HR.out.symm, rfl⟩
    · have b2 : ((c.toNat : Int) == 9) = false := beq_no (by omega)
      by_cases h3 : c.toNat = 10
      · have HR := Lib.hid (show white c = true by simp [white, h3])
        have b3 : ((c.toNat : Int) == 10) = true := by rw [h3]; rfl
        clear h1 h2 h3
        go_enter Tryz.func38, Tryz.ntmps38
        go_wp2_with fail
        go_ret
        exact ⟨ret_bool HR.out.symm, rfl⟩
      · have HR := Lib.hid (show white c = false by simp [white, h1, h2, h3])
        have b3 : ((c.toNat : Int) == 10) = false := beq_no (by omega)
        clear h1 h2 h3
        go_enter Tryz.func38, Tryz.ntmps38
        go_wp2_with fail
        go_ret
        exact ⟨ret_bool HR.out.symm, rfl⟩

theorem mid_step (s : List UInt8) (a k : Nat) (c : UInt8) (h : s[k]? = some c) (ha : a ≤ k) : (s.take (k + 1)).drop a = (s.take k).drop a ++ [c] := by
  have hk := (List.getElem?_eq_some_iff.1 h).1
  rw [List.take_add_one, h, List.drop_append_of_le_length (by rw [List.length_take]; omega)]
  rfl
theorem go_no (s : List UInt8) (a k : Nat) (c : UInt8) (h : s[k]? = some c) (ha : a ≤ k) (hw : white c = false) : fieldsGo ((s.take k).drop a) (s.drop k) = fieldsGo ((s.take (k + 1)).drop a) (s.drop (k + 1)) := by
  have hk := (List.getElem?_eq_some_iff.1 h).1
  rw [List.drop_eq_getElem_cons hk, (List.getElem?_eq_some_iff.1 h).2, fieldsGo, if_neg (by simp [hw]), mid_step s a k c h ha]
theorem go_white (s : List UInt8) (a k : Nat) (c : UInt8) (h : s[k]? = some c) (ha : a ≤ k) (hw : white c = true) : fieldsGo ((s.take k).drop a) (s.drop k) = if a < k then (s.take k).drop a :: fieldsGo ((s.take (k + 1)).drop (k + 1)) (s.drop (k + 1)) else fieldsGo ((s.take (k + 1)).drop (k + 1)) (s.drop (k + 1)) := by
  have hk := (List.getElem?_eq_some_iff.1 h).1
  have he : (s.take (k + 1)).drop (k + 1) = [] := List.drop_eq_nil_of_le (by rw [List.length_take]; omega)
  have hl : ((s.take k).drop a).length = k - a := by rw [List.length_drop, List.length_take]; omega
  rw [List.drop_eq_getElem_cons hk, (List.getElem?_eq_some_iff.1 h).2, fieldsGo, if_pos hw, he]
  by_cases hlt : a < k
  · rw [if_pos hlt, if_neg (by intro h0; rw [h0] at hl; simp at hl; omega)]
  · rw [if_neg hlt, if_pos (List.eq_nil_of_length_eq_zero (by omega))]
theorem go_end (s : List UInt8) (a : Nat) (ha : a ≤ s.length) : fieldsGo ((s.take s.length).drop a) (s.drop s.length) = if a < s.length then [s.drop a] else [] := by
  rw [List.take_length, List.drop_length, fieldsGo]
  by_cases h : a < s.length
  · rw [if_pos h, if_neg (by rw [List.drop_eq_nil_iff]; omega)]
  · rw [if_neg h, if_pos (by rw [List.drop_eq_nil_iff]; omega)]

theorem own_base {B B' : Nat} {v : Value} {l : List (List UInt8)} {w : World} (h : OwnStrs B' v l w) (hB : B ≤ B') : OwnStrs B v l w := by
  refine ⟨h.1, ?_⟩
  rcases h.2 with h0 | ⟨g, cap, cur, hv, hb, hr⟩
  · exact Or.inl h0
  · exact Or.inr ⟨g, cap, cur, hv, Nat.le_trans hB hb, hr⟩

set_option maxHeartbeats 2000000 in
set_option maxRecDepth 100000 in
theorem fields_c (s : List UInt8) (hs : s.length ≤ 1000000) (w : World) :
    Calls Tryz.prog 18 #[.string ⟨s.toArray⟩] w fun e w' => ∃ v, e = .returned v ∧ OwnStrs w.heap.size v (fields s) w' ∧ Below w.heap.size w w' := by
  obtain ⟨i0, hi, hz0, hz1, hz2⟩ := info_parts infoString
  go_enter Tryz.func18, Tryz.ntmps18
  go_wp2_with fail
  go_loopw [4, 5, 10] (fun v st i wr => ∃ (k a : Nat) (l : List (List UInt8)), k ≤ s.length ∧ a ≤ k ∧ l.length ≤ a ∧ i = .int .i64 k ∧ st = .int .i64 a ∧ Hid (fields s = l ++ fieldsGo ((s.take k).drop a) (s.drop k)) ∧ wr.ownsRow (w.heap.size + 1) 9 1 v l.length (strs l) ∧ Below (w.heap.size + 1) (w.alloc (.cells #[.string ⟨s.toArray⟩] 9)) wr) (fun _ _ i _ => s.length - (intOf i).toNat)
  case atStart => exact ⟨0, 0, [], Nat.zero_le _, Nat.le_refl _, Nat.le_refl _, rfl, rfl, Lib.hid rfl, World.ownsRow_nil _ _ _ _, Below.refl _ _⟩
  case round =>
    obtain ⟨k, a, l, hk, ha, hla, rfl, rfl, HF, hown, hb⟩ := hrel
    have hz : w.heap.size + 1 ≤ wr.heap.size := by have := hb.size; simpa using this
    have hbox : wr.cell? ⟨w.heap.size, 0, none⟩ = some (.string ⟨s.toArray⟩) := by
      rw [hb.cell (show w.heap.size < w.heap.size + 1 by omega), Lib.cell_of_heap (heap_alloc_new w _)]
      rfl
    by_cases hlt : k < s.length
    · obtain ⟨c, hc⟩ : ∃ c, s[k]? = some c := ⟨s[k], List.getElem?_eq_getElem hlt⟩
      have HC := Lib.hid hc
      clear hc
      cases hw : white c with
      | false =>
        have HN := Lib.hid (go_no s a k c HC.out ha hw)
        have HW := Lib.hid hw
        clear hw
        go_wp2_with fail
        refine (whiteFn_c w.heap.size s k c HC.out hs _ hbox).mono ?_
        rw [HW.out]
        rintro e w2 ⟨rfl, rfl⟩
        go_wp2_with fail
        go_roundw
        case rel => exact ⟨k + 1, a, l, by omega, by omega, hla, by go_num, rfl, Lib.hid (by rw [HF.out, HN.out]), hown, hb⟩
        case measure => simp [intOf]; omega
      | true =>
        have HN := Lib.hid (go_white s a k c HC.out ha hw)
        have HW := Lib.hid hw
        clear hw
        by_cases hak : a < k
        · have hsl := slice_mid s a k (by omega) (by omega) (by omega)
          go_wp2_with fail
          refine (whiteFn_c w.heap.size s k c HC.out hs _ hbox).mono ?_
          rw [HW.out]
          rintro e w2 ⟨rfl, rfl⟩
          go_wp2_with (at_builtin; refine wpList_append_own _ rfl _ _ 22 rfl (w.heap.size + 1) 9 i0 (.string ⟨#[]⟩) 1 16 Tryz.underlying22 hi hz0 hz1 hz2 rfl (by decide) _ _ _ rfl (hown.alloc _) ⟨wr.heap.size, 0, none⟩ 1 1 [.string ⟨((s.take k).drop a).toArray⟩] rfl rfl ?c1 ?c2 ?c3 ?c4 ?c5 ?_)
          case c1 =>
            intro j u hj
            match j, hj with
            | 0, hj => simp at hj; subst hj; simp [Addr.add]
          case c2 => intro u hu; simp at hu; subst hu; rfl
          case c3 => unfold maxLen; omega
          case c4 => omega
          case c5 => simp; omega
          intro v' w3 hown3 hgrow _
          have hb3 : Below (w.heap.size + 1) (w.alloc (.cells #[.string ⟨s.toArray⟩] 9)) w3 := (hb.alloc hz _).grown hgrow (by simp; omega) (fun k hk => (hown.lt k hk).1)
          go_wp2_with fail
          go_roundw
          case rel => exact ⟨k + 1, k + 1, l ++ [(s.take k).drop a], by omega, by omega, by simp; omega, by go_num, by go_num, Lib.hid (by rw [HF.out, HN.out, if_pos hak]; simp), by simpa [strs] using hown3, hb3⟩
          case measure => simp [intOf]; omega
        · go_wp2_with fail
          refine (whiteFn_c w.heap.size s k c HC.out hs _ hbox).mono ?_
          rw [HW.out]
          rintro e w2 ⟨rfl, rfl⟩
          go_wp2_with fail
          go_roundw
          case rel => exact ⟨k + 1, k + 1, l, by omega, by omega, by omega, by go_num, by go_num, Lib.hid (by rw [HF.out, HN.out, if_neg hak]), hown, hb⟩
          case measure => simp [intOf]; omega
    · obtain rfl : k = s.length := by omega
      have HE := Lib.hid (go_end s a ha)
      have hbw : Below w.heap.size w (w.alloc (.cells #[.string ⟨s.toArray⟩] 9)) := (Below.refl _ _).alloc (Nat.le_refl _) _
      by_cases hak : a < s.length
      · have hd := ba_drop s a
        go_wp2_with (at_builtin; refine wpList_append_own _ rfl _ _ 22 rfl (w.heap.size + 1) 9 i0 (.string ⟨#[]⟩) 1 16 Tryz.underlying22 hi hz0 hz1 hz2 rfl (by decide) _ _ _ rfl (hown.alloc _) ⟨wr.heap.size, 0, none⟩ 1 1 [.string ⟨(s.drop a).toArray⟩] rfl rfl ?c1 ?c2 ?c3 ?c4 ?c5 ?_)
        case c1 =>
          intro j u hj
          match j, hj with
          | 0, hj => simp at hj; subst hj; simp [Addr.add]
        case c2 => intro u hu; simp at hu; subst hu; rfl
        case c3 => unfold maxLen; omega
        case c4 => omega
        case c5 => simp; omega
        intro v' w3 hown3 hgrow _
        have hb3 : Below (w.heap.size + 1) (w.alloc (.cells #[.string ⟨s.toArray⟩] 9)) w3 := (hb.alloc hz _).grown hgrow (by simp; omega) (fun k hk => (hown.lt k hk).1)
        clear hd
        go_wp2_with fail
        go_ret
        exact ⟨_, rfl, own_base (show OwnStrs (w.heap.size + 1) v' (fields s) w3 by rw [HF.out, HE.out, if_pos hak]; simpa [OwnStrs, strs] using hown3) (by omega), hbw.trans (hb3.mono (by omega))⟩
      · go_wp2_with fail
        go_ret
        exact ⟨_, rfl, own_base (show OwnStrs (w.heap.size + 1) _ (fields s) wr by rw [HF.out, HE.out, if_neg hak]; simpa [OwnStrs] using hown) (by omega), hbw.trans (hb.mono (by omega))⟩
end Go.Proofs.YtanjmljlpdhlnaaGreatDoor
