/-
  The reference's Lines, Unlines and Fields: each returns what chapter 2 says; of what was there nothing has turned.
-/
import Derived.Test.YtanjmljlpdhlnaaGreatDoorTRefD
import Derived.Test.YtanjmljlpdhlnaaGreatDoorTLines
import Derived.Test.YtanjmljlpdhlnaaGreatDoorTFields
namespace Go.Proofs.YtanjmljlpdhlnaaGreatDoor
open Go Go.RowKit Go.Sort Wire Txt

theorem mid_split (s : List UInt8) (a k : Nat) (c : UInt8) (h : s[k]? = some c) (ha : a ≤ k) : s.drop a = (s.take k).drop a ++ c :: s.drop (k + 1) := by
  have hk := (List.getElem?_eq_some_iff.1 h).1
  have h1 : s = s.take k ++ c :: s.drop (k + 1) := by
    have := List.drop_eq_getElem_cons hk
    rw [(List.getElem?_eq_some_iff.1 h).2] at this
    rw [← this, List.take_append_drop]
  conv => lhs; rw [h1]
  rw [List.drop_append_of_le_length (by rw [List.length_take]; omega)]
theorem mid_one (s : List UInt8) (k : Nat) (c : UInt8) (h : s[k]? = some c) : (s.take (k + 1)).drop k = [c] := by
  have hk := (List.getElem?_eq_some_iff.1 h).1
  rw [mid_step s k k c h (Nat.le_refl _), List.drop_eq_nil_of_le (by rw [List.length_take]; omega)]
  rfl

set_option maxHeartbeats 2000000 in
set_option maxRecDepth 100000 in
theorem linesR_c (s : List UInt8) (hs : s.length ≤ 1000000) (w : World) :
    Calls Tryz.prog 15 #[.string ⟨s.toArray⟩] w fun e w' => ∃ v, e = .returned v ∧ OwnStrs w.heap.size v (lines s) w' ∧ Below w.heap.size w w' := by
  obtain ⟨i0, hi, hz0, hz1, hz2⟩ := info_parts infoString
  go_enter Tryz.func15, Tryz.ntmps15
  go_wp2_with fail
  go_loopg [3, 4, 5] s.length (fun g v st i wr => ∃ (k a : Nat) (l : List (List UInt8)), k ≤ s.length ∧ g = s.length - k ∧ a ≤ k ∧ l.length ≤ a ∧ i = .int .i64 k ∧ st = .int .i64 a ∧ Hid (lines s = l ++ lines (s.drop a)) ∧ Hid ((10 : UInt8) ∉ (s.take k).drop a) ∧ OwnStrs w.heap.size v l wr ∧ Below w.heap.size w wr)
  case atStart => exact ⟨0, 0, [], Nat.zero_le _, rfl, Nat.le_refl _, Nat.le_refl _, rfl, rfl, Lib.hid rfl, Lib.hid (by simp), World.ownsRow_nil _ _ _ _, Below.refl _ _⟩
  case round =>
    obtain ⟨k, a, l, hk, rfl, ha, hla, rfl, rfl, HF, HM, hown, hb⟩ := hrel
    have hz := hb.size
    by_cases hlt : k < s.length
    · obtain ⟨c, hc⟩ : ∃ c, s[k]? = some c := ⟨s[k], List.getElem?_eq_getElem hlt⟩
      have ei := at_k s k c hc (by rw [ba_size]; exact hlt)
      have HC := Lib.hid hc
      clear hc
      by_cases h10 : c.toNat = 10
      · have b10 : ((c.toNat : Int) == 10) = true := by rw [h10]; rfl
        obtain rfl : c = 10 := byte_of c 10 h10
        have HN := Lib.hid (show lines s = (l ++ [(s.take k).drop a]) ++ lines (s.drop (k + 1)) by
          rw [HF.out, mid_split s a k 10 HC.out ha, lines_lf _ _ HM.out]
          simp)
        have hsl := slice_mid s a k (by omega) (by omega) (by omega)
        clear h10
        go_wp2_with (at_builtin; refine wpList_append_own _ rfl _ _ 22 rfl (w.heap.size) 9 i0 (.string ⟨#[]⟩) 1 16 Tryz.underlying22 hi hz0 hz1 hz2 rfl (by decide) _ _ _ rfl (hown.alloc _) ⟨wr.heap.size, 0, none⟩ 1 1 [.string ⟨((s.take k).drop a).toArray⟩] rfl rfl ?c1 ?c2 ?c3 ?c4 ?c5 ?_)
        case c1 =>
          intro j u hj
          match j, hj with
          | 0, hj => simp at hj; subst hj; simp [Addr.add]
        case c2 => intro u hu; simp at hu; subst hu; rfl
        case c3 => unfold maxLen; omega
        case c4 => omega
        case c5 => first | omega | (simp; omega)
        intro v' w3 hown3 hgrow _
        have hb3 : Below w.heap.size w w3 := (hb.alloc hz _).grown hgrow (by simp; omega) (fun k hk => (hown.lt k hk).1)
        have hown4 : OwnStrs w.heap.size v' (l ++ [(s.take k).drop a]) w3 := by simpa [OwnStrs, strs] using hown3
        clear hgrow hown3
        go_wp2_with fail
        go_roundg (s.length - (k + 1))
        case measure => omega
        case rel => exact ⟨k + 1, k + 1, l ++ [(s.take k).drop a], by omega, rfl, by omega, by simp; omega, by go_num, by go_num, HN, Lib.hid (by rw [List.drop_eq_nil_of_le (by rw [List.length_take]; omega)]; simp), hown4, hb3⟩
      · have b10 : ((c.toNat : Int) == 10) = false := beq_no (by omega)
        have HM2 := Lib.hid (show (10 : UInt8) ∉ (s.take (k + 1)).drop a by
          rw [mid_step s a k c HC.out ha, List.mem_append, not_or]
          refine ⟨HM.out, ?_⟩
          simp only [List.mem_singleton]
          rintro rfl
          exact h10 rfl)
        clear h10
        go_wp2_with fail
        go_roundg (s.length - (k + 1))
        case measure => omega
        case rel => exact ⟨k + 1, a, l, by omega, rfl, by omega, hla, by go_num, rfl, HF, HM2, hown, hb⟩
    · obtain rfl : k = s.length := by omega
      have HE := Lib.hid (show lines (s.drop a) = if s.drop a = [] then [] else [s.drop a] from lines_none _ (by have := HM.out; rw [List.take_length] at this; exact this))
      by_cases hak : a < s.length
      · have HN := Lib.hid (show lines s = l ++ [s.drop a] by
          rw [HF.out, HE.out, if_neg (by rw [List.drop_eq_nil_iff]; omega)])
        have hd := ba_drop s a
        go_wp2_with (at_builtin; refine wpList_append_own _ rfl _ _ 22 rfl (w.heap.size) 9 i0 (.string ⟨#[]⟩) 1 16 Tryz.underlying22 hi hz0 hz1 hz2 rfl (by decide) _ _ _ rfl (hown.alloc _) ⟨wr.heap.size, 0, none⟩ 1 1 [.string ⟨(s.drop a).toArray⟩] rfl rfl ?c1 ?c2 ?c3 ?c4 ?c5 ?_)
        case c1 =>
          intro j u hj
          match j, hj with
          | 0, hj => simp at hj; subst hj; simp [Addr.add]
        case c2 => intro u hu; simp at hu; subst hu; rfl
        case c3 => unfold maxLen; omega
        case c4 => omega
        case c5 => first | omega | (simp; omega)
        intro v' w3 hown3 hgrow _
        have hb3 : Below w.heap.size w w3 := (hb.alloc hz _).grown hgrow (by simp; omega) (fun k hk => (hown.lt k hk).1)
        have hown4 : OwnStrs w.heap.size v' (l ++ [s.drop a]) w3 := by simpa [OwnStrs, strs] using hown3
        clear hgrow hown3
        go_wp2_with fail
        go_ret
        exact ⟨_, rfl, by rw [HN.out]; exact hown4, hb3⟩
      · have HN := Lib.hid (show lines s = l by
          rw [HF.out, HE.out, if_pos (by rw [List.drop_eq_nil_iff]; omega), List.append_nil])
        go_wp2_with fail
        go_ret
        exact ⟨_, rfl, by rw [HN.out]; exact hown, hb⟩

set_option maxHeartbeats 2000000 in
set_option maxRecDepth 100000 in
theorem fieldsR_c (s : List UInt8) (hs : s.length ≤ 1000000) (w : World) :
    Calls Tryz.prog 19 #[.string ⟨s.toArray⟩] w fun e w' => ∃ v, e = .returned v ∧ OwnStrs w.heap.size v (fields s) w' ∧ Below w.heap.size w w' := by
  obtain ⟨i0, hi, hz0, hz1, hz2⟩ := info_parts infoString
  go_enter Tryz.func19, Tryz.ntmps19
  go_wp2_with fail
  go_loopg [3, 4, 5] s.length (fun g v st i wr => ∃ (k : Nat) (now : List UInt8) (l : List (List UInt8)), k ≤ s.length ∧ g = s.length - k ∧ l.length ≤ k ∧ now.length ≤ k ∧ i = .int .i64 k ∧ st = .string ⟨now.toArray⟩ ∧ Hid (fields s = l ++ fieldsGo now (s.drop k)) ∧ OwnStrs w.heap.size v l wr ∧ Below w.heap.size w wr)
  case atStart => exact ⟨0, [], [], Nat.zero_le _, rfl, Nat.le_refl _, Nat.le_refl _, rfl, rfl, Lib.hid rfl, World.ownsRow_nil _ _ _ _, Below.refl _ _⟩
  case round =>
    obtain ⟨k, now, l, hk, rfl, hlk, hnk, rfl, rfl, HF, hown, hb⟩ := hrel
    have hz := hb.size
    by_cases hlt : k < s.length
    · obtain ⟨c, hc⟩ : ∃ c, s[k]? = some c := ⟨s[k], List.getElem?_eq_getElem hlt⟩
      have ei := at_k s k c hc (by rw [ba_size]; exact hlt)
      have HD := Lib.hid (show s.drop k = c :: s.drop (k + 1) by rw [List.drop_eq_getElem_cons hlt, (List.getElem?_eq_some_iff.1 hc).2])
      have HC := Lib.hid hc
      clear hc
      cases hw : white c with
      | false =>
        have HN := Lib.hid (show fields s = l ++ fieldsGo (now ++ [c]) (s.drop (k + 1)) by rw [HF.out, HD.out, fieldsGo, if_neg (by simp [hw])])
        simp only [white, Bool.or_eq_false_iff, beq_eq_false_iff_ne] at hw
        have b1 : ((c.toNat : Int) != 32) = true := by rw [bne_iff_ne]; omega
        have b2 : ((c.toNat : Int) != 9) = true := by rw [bne_iff_ne]; omega
        have b3 : ((c.toNat : Int) != 10) = true := by rw [bne_iff_ne]; omega
        have hsl := slice_mid s k ((k : Int) + 1) (by omega) (by omega) (by omega)
        rw [show ((s.take ((k : Int) + 1).toNat).drop (k : Int).toNat) = [c] from mid_one s k c HC.out] at hsl
        clear hw
        go_wp2_with fail
        go_roundg (s.length - (k + 1))
        case measure => omega
        case rel => exact ⟨k + 1, now ++ [c], l, by omega, rfl, by omega, by rw [List.length_append, List.length_singleton]; omega, by go_num, congrArg Value.string (str_add _ _), HN, hown, hb⟩
      | true =>
        have HW := Lib.hid hw
        simp only [white, Bool.or_eq_true, beq_iff_eq] at hw
        have hcase : ((c.toNat : Int) != 32) = false ∨ (((c.toNat : Int) != 32) = true ∧ ((c.toNat : Int) != 9) = false) ∨ (((c.toNat : Int) != 32) = true ∧ ((c.toNat : Int) != 9) = true ∧ ((c.toNat : Int) != 10) = false) := by
          rcases hw with (h | h) | h <;> rw [h] <;> decide
        clear hw
        by_cases hnow : now = []
        · subst hnow
          have HN := Lib.hid (show fields s = l ++ fieldsGo [] (s.drop (k + 1)) by rw [HF.out, HD.out, fieldsGo, if_pos HW.out, if_pos rfl])
          rcases hcase with b1 | ⟨b1, b2⟩ | ⟨b1, b2, b3⟩
          · go_wp2_with fail
            go_roundg (s.length - (k + 1))
            case measure => omega
            case rel => exact ⟨k + 1, [], l, by omega, rfl, by omega, by simp, by go_num, rfl, HN, hown, hb⟩
          · go_wp2_with fail
            go_roundg (s.length - (k + 1))
            case measure => omega
            case rel => exact ⟨k + 1, [], l, by omega, rfl, by omega, by simp, by go_num, rfl, HN, hown, hb⟩
          · go_wp2_with fail
            go_roundg (s.length - (k + 1))
            case measure => omega
            case rel => exact ⟨k + 1, [], l, by omega, rfl, by omega, by simp, by go_num, rfl, HN, hown, hb⟩
        · have HN := Lib.hid (show fields s = (l ++ [now]) ++ fieldsGo [] (s.drop (k + 1)) by rw [HF.out, HD.out, fieldsGo, if_pos HW.out, if_neg hnow]; simp)
          have hq : (now == []) = false := by simpa using hnow
          clear hnow
          rcases hcase with b1 | ⟨b1, b2⟩ | ⟨b1, b2, b3⟩
          · skip
            go_wp2_with (at_builtin; refine wpList_append_own _ rfl _ _ 22 rfl (w.heap.size) 9 i0 (.string ⟨#[]⟩) 1 16 Tryz.underlying22 hi hz0 hz1 hz2 rfl (by decide) _ _ _ rfl (hown.alloc _) ⟨wr.heap.size, 0, none⟩ 1 1 [.string ⟨(now).toArray⟩] rfl rfl ?c1 ?c2 ?c3 ?c4 ?c5 ?_)
            case c1 =>
              intro j u hj
              match j, hj with
              | 0, hj => simp at hj; subst hj; simp [Addr.add]
            case c2 => intro u hu; simp at hu; subst hu; rfl
            case c3 => unfold maxLen; omega
            case c4 => omega
            case c5 => first | omega | (simp; omega)
            intro v' w3 hown3 hgrow _
            have hb3 : Below w.heap.size w w3 := (hb.alloc hz _).grown hgrow (by simp; omega) (fun k hk => (hown.lt k hk).1)
            have hown4 : OwnStrs w.heap.size v' (l ++ [now]) w3 := by simpa [OwnStrs, strs] using hown3
            clear hgrow hown3
            go_wp2_with fail
            go_roundg (s.length - (k + 1))
            case measure => omega
            case rel => exact ⟨k + 1, [], l ++ [now], by omega, rfl, by rw [List.length_append, List.length_singleton]; omega, by simp, by go_num, rfl, HN, hown4, hb3⟩
          · skip
            go_wp2_with (at_builtin; refine wpList_append_own _ rfl _ _ 22 rfl (w.heap.size) 9 i0 (.string ⟨#[]⟩) 1 16 Tryz.underlying22 hi hz0 hz1 hz2 rfl (by decide) _ _ _ rfl (hown.alloc _) ⟨wr.heap.size, 0, none⟩ 1 1 [.string ⟨(now).toArray⟩] rfl rfl ?c1 ?c2 ?c3 ?c4 ?c5 ?_)
            case c1 =>
              intro j u hj
              match j, hj with
              | 0, hj => simp at hj; subst hj; simp [Addr.add]
            case c2 => intro u hu; simp at hu; subst hu; rfl
            case c3 => unfold maxLen; omega
            case c4 => omega
            case c5 => first | omega | (simp; omega)
            intro v' w3 hown3 hgrow _
            have hb3 : Below w.heap.size w w3 := (hb.alloc hz _).grown hgrow (by simp; omega) (fun k hk => (hown.lt k hk).1)
            have hown4 : OwnStrs w.heap.size v' (l ++ [now]) w3 := by simpa [OwnStrs, strs] using hown3
            clear hgrow hown3
            go_wp2_with fail
            go_roundg (s.length - (k + 1))
            case measure => omega
            case rel => exact ⟨k + 1, [], l ++ [now], by omega, rfl, by rw [List.length_append, List.length_singleton]; omega, by simp, by go_num, rfl, HN, hown4, hb3⟩
          · skip
            go_wp2_with (at_builtin; refine wpList_append_own _ rfl _ _ 22 rfl (w.heap.size) 9 i0 (.string ⟨#[]⟩) 1 16 Tryz.underlying22 hi hz0 hz1 hz2 rfl (by decide) _ _ _ rfl (hown.alloc _) ⟨wr.heap.size, 0, none⟩ 1 1 [.string ⟨(now).toArray⟩] rfl rfl ?c1 ?c2 ?c3 ?c4 ?c5 ?_)
            case c1 =>
              intro j u hj
              match j, hj with
              | 0, hj => simp at hj; subst hj; simp [Addr.add]
            case c2 => intro u hu; simp at hu; subst hu; rfl
            case c3 => unfold maxLen; omega
            case c4 => omega
            case c5 => first | omega | (simp; omega)
            intro v' w3 hown3 hgrow _
            have hb3 : Below w.heap.size w w3 := (hb.alloc hz _).grown hgrow (by simp; omega) (fun k hk => (hown.lt k hk).1)
            have hown4 : OwnStrs w.heap.size v' (l ++ [now]) w3 := by simpa [OwnStrs, strs] using hown3
            clear hgrow hown3
            go_wp2_with fail
            go_roundg (s.length - (k + 1))
            case measure => omega
            case rel => exact ⟨k + 1, [], l ++ [now], by omega, rfl, by rw [List.length_append, List.length_singleton]; omega, by simp, by go_num, rfl, HN, hown4, hb3⟩
    · obtain rfl : k = s.length := by omega
      by_cases hnow : now = []
      · subst hnow
        have HN := Lib.hid (show fields s = l by rw [HF.out, List.drop_length, fieldsGo, if_pos rfl, List.append_nil])
        go_wp2_with fail
        go_ret
        exact ⟨_, rfl, by rw [HN.out]; exact hown, hb⟩
      · have HN := Lib.hid (show fields s = l ++ [now] by rw [HF.out, List.drop_length, fieldsGo, if_neg hnow])
        have hq : (now == []) = false := by simpa using hnow
        clear hnow
        go_wp2_with (at_builtin; refine wpList_append_own _ rfl _ _ 22 rfl (w.heap.size) 9 i0 (.string ⟨#[]⟩) 1 16 Tryz.underlying22 hi hz0 hz1 hz2 rfl (by decide) _ _ _ rfl (hown.alloc _) ⟨wr.heap.size, 0, none⟩ 1 1 [.string ⟨(now).toArray⟩] rfl rfl ?c1 ?c2 ?c3 ?c4 ?c5 ?_)
        case c1 =>
          intro j u hj
          match j, hj with
          | 0, hj => simp at hj; subst hj; simp [Addr.add]
        case c2 => intro u hu; simp at hu; subst hu; rfl
        case c3 => unfold maxLen; omega
        case c4 => omega
        case c5 => first | omega | (simp; omega)
        intro v' w3 hown3 hgrow _
        have hb3 : Below w.heap.size w w3 := (hb.alloc hz _).grown hgrow (by simp; omega) (fun k hk => (hown.lt k hk).1)
        have hown4 : OwnStrs w.heap.size v' (l ++ [now]) w3 := by simpa [OwnStrs, strs] using hown3
        clear hgrow hown3
        go_wp2_with fail
        go_ret
        exact ⟨_, rfl, by rw [HN.out]; exact hown4, hb3⟩
end Go.Proofs.YtanjmljlpdhlnaaGreatDoor
