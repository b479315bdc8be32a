/-
  Magic and Plain of package text: each returns what chapter 2 says; of what was there nothing has turned.
-/
import Derived.Test.YtanjmljlpdhlnaaGreatDoorTMatch
import Derived.Test.YtanjmljlpdhlnaaGreatDoorTQuote
namespace Go.Proofs.YtanjmljlpdhlnaaGreatDoor
open Go Go.RowKit Go.Sort Wire Txt

theorem partsAt_of {B : Nat} {w : World} {p : List UInt8} {A : Option Addr} {cap : Nat} (hp : p.length ≤ 1000000) (h : OwnStrs B (.slice A (parts p).length cap) (parts p) w) : PartsAt w A cap (parts p) := by
  obtain ⟨A', cap', hv, h1, h2, h3⟩ := h.slice
  injection hv with hv1 hv2 hv3
  subst hv1 hv3
  have hpl := parts_len p
  refine ⟨h1, h2, by omega, fun x hx => ⟨parts_ne p x hx, ?_⟩, fun hne => ?_⟩
  · have := parts_sub p x hx
    omega
  · obtain ⟨g, hg, hc⟩ := h3 hne
    exact ⟨g, 0, hg, fun i x hx => by rw [Nat.zero_add]; exact hc i x hx⟩
theorem any_take (f : List UInt8 → Bool) (l : List (List UInt8)) (k : Nat) (x : List UInt8) (hx : l[k]? = some x) (h : (l.take k).any f = false) (hf : f x = false) : (l.take (k + 1)).any f = false := by
  rw [List.take_add_one, hx, List.any_append, h]
  simp [hf]
theorem any_hit (f : List UInt8 → Bool) (l : List (List UInt8)) (k : Nat) (x : List UInt8) (hx : l[k]? = some x) (hf : f x = true) : l.any f = true :=
  List.any_eq_true.2 ⟨x, List.mem_of_getElem? hx, hf⟩

set_option maxHeartbeats 1000000 in
set_option maxRecDepth 100000 in
theorem magic_c (p : List UInt8) (hp : p.length ≤ 1000000) (w : World) :
    Calls Tryz.prog 22 #[.string ⟨p.toArray⟩] w fun e w' => e = .returned (.bool (magic p)) ∧ Below w.heap.size w w' := by
  go_enter Tryz.func22, Tryz.ntmps22
  go_wp2_with fail
  refine (parts_c p hp _).mono ?_
  rintro e w1 ⟨v, rfl, hown, hb1⟩
  obtain ⟨A, cap, rfl, _, _, _⟩ := hown.slice
  have hP := partsAt_of hp hown
  clear hown
  go_wp2_with fail
  go_loopw [8] (fun i wr => ∃ k : Nat, k ≤ (parts p).length ∧ i = .int .i64 k ∧ Hid (((parts p).take k).any magicPart = false) ∧ PartsAt wr A cap (parts p) ∧ Below w.heap.size w wr) (fun i _ => (parts p).length - (intOf i).toNat)
  case atStart => exact ⟨0, Nat.zero_le _, rfl, Lib.hid rfl, hP, hb1⟩
  case round =>
    obtain ⟨k, hk, rfl, HA, hPk, hbk⟩ := hrel
    clear hP hb1
    have hsm := hPk.small
    by_cases hlt : k < (parts p).length
    · obtain ⟨x, hx⟩ : ∃ x, (parts p)[k]? = some x := ⟨(parts p)[k], List.getElem?_eq_getElem hlt⟩
      obtain ⟨g, off, rfl, hc⟩ := hPk.cell (by intro h; rw [h] at hlt; simp at hlt)
      have hcell := hc k x hx
      have HX := Lib.hid hx
      clear hx hc
      by_cases h1 : x = [42]
      · subst h1
        have HR := Lib.hid (show magic p = true from any_hit magicPart _ k _ HX.out rfl)
        go_wp2_with fail
        go_ret
        exact ⟨ret_bool HR.out.symm, hbk⟩
      · have q1 : (x == [42]) = false := by simpa using h1
        by_cases h2 : x = [63]
        · subst h2
          have HR := Lib.hid (show magic p = true from any_hit magicPart _ k _ HX.out rfl)
          clear h1
          go_wp2_with fail
          go_ret
          exact ⟨ret_bool HR.out.symm, hbk⟩
        · have q2 : (x == [63]) = false := by simpa using h2
          by_cases h3 : 2 < x.length
          · have HR := Lib.hid (show magic p = true from any_hit magicPart _ k _ HX.out (by simp [magicPart, h3]))
            clear h1 h2
            go_wp2_with fail
            refine (isClass_t x _ h3).mono ?_
            rintro e w2 ⟨rfl, rfl⟩
            go_wp2_with fail
            go_ret
            exact ⟨ret_bool HR.out.symm, hbk⟩
          · have HN := Lib.hid (any_take magicPart (parts p) k x HX.out HA.out (by simp [magicPart, h1, h2, h3]))
            clear h1 h2
            go_wp2_with fail
            refine (isClass_f x _ (by omega)).mono ?_
            rintro e w2 ⟨rfl, rfl⟩
            go_wp2_with fail
            go_roundw
            case rel => exact ⟨k + 1, by omega, by go_num, HN, hPk, hbk⟩
            case measure => simp [intOf]; omega
    · have HR := Lib.hid (show magic p = false by
        have := HA.out
        rw [List.take_of_length_le (by omega)] at this
        exact this)
      go_wp2_with fail
      go_ret
      exact ⟨ret_bool HR.out.symm, hbk⟩

theorem plainPart_len (x : List UInt8) : (plainPart x).length ≤ x.length := by unfold plainPart; split <;> simp
theorem plain_take_le (p : List UInt8) (k : Nat) : (((parts p).take k).flatMap plainPart).length ≤ p.length :=
  Nat.le_trans (flatMap_take_le plainPart (parts p) k) (plain_len p)

set_option maxHeartbeats 1000000 in
set_option maxRecDepth 100000 in
theorem plain_c (p : List UInt8) (hp : p.length ≤ 1000000) (w : World) :
    Calls Tryz.prog 24 #[.string ⟨p.toArray⟩] w fun e w' => e = .returned (.string ⟨(plain p).toArray⟩) ∧ Below w.heap.size w w' := by
  have hst := Lib.fresh_isBuilder 45 5 w
  have hbA : Built w.heap.size w.heap.size [] w (w.alloc (.cells #[.pointer none, .slice none 0 0] 45)) := ⟨hst, (Below.refl _ _).alloc (Nat.le_refl _) _⟩
  clear hst
  go_enter Tryz.func24, Tryz.ntmps24
  go_wp2_with fail
  refine (parts_c p hp _).mono ?_
  rintro e w1 ⟨v, rfl, hown, hb1⟩
  obtain ⟨A, cap, rfl, _, _, _⟩ := hown.slice
  have hP := partsAt_of hp hown
  have hsm := hP.small
  have HE := Lib.hid hP.each
  obtain ⟨g, cur, hblk⟩ := hown.block
  have HB := Lib.hid hblk
  have hB1 := hbA.on hb1 (by simp)
  have hz1 : w.heap.size ≤ w1.heap.size := hB1.2.size
  clear hown hbA hb1 hblk hP
  go_wp2_with fail
  go_loopw [9] (fun i wr => ∃ k : Nat, k ≤ (parts p).length ∧ i = .int .i64 k ∧ Built w.heap.size w.heap.size (((parts p).take k).flatMap plainPart) w wr ∧ Hid (parts p ≠ [] → wr.heap[g]? = some (.cells cur 9 (0, 0))) ∧ w.heap.size ≤ wr.heap.size) (fun i _ => (parts p).length - (intOf i).toNat)
  case atStart => exact ⟨0, Nat.zero_le _, rfl, hB1, Lib.hid (fun hne => (HB.out hne).2.2.1), hz1⟩
  case round =>
    obtain ⟨k, hk, rfl, hBk, HK, hzk⟩ := hrel
    clear hB1 hz1
    have hle := plain_take_le p k
    have hle1 := plain_take_le p (k + 1)
    by_cases hlt : k < (parts p).length
    · have hne : parts p ≠ [] := by intro h; rw [h] at hlt; simp at hlt
      obtain ⟨x, hx⟩ : ∃ x, (parts p)[k]? = some x := ⟨(parts p)[k], List.getElem?_eq_getElem hlt⟩
      have HT := Lib.hid (flatMap_take_succ plainPart (parts p) k x hx)
      rw [HT.out, List.length_append] at hle1
      have hxe := HE.out x (List.mem_of_getElem? hx)
      obtain ⟨rfl, hgB, _, hcur⟩ := HB.out hne
      have hcell : wr.cell? ⟨g, k, none⟩ = some (.string ⟨x.toArray⟩) := by rw [Lib.cell_of_heap (HK.out hne)]; exact hcur k x hx
      have hgb : g ≠ w.heap.size := by simp at hgB; omega
      clear hx hcur hne
      by_cases h2 : x.length = 2
      · have HQ := Lib.hid (show plainPart x = x.tail by unfold plainPart; rw [if_pos h2, List.drop_one])
        rw [HQ.out, List.length_tail] at hle1
        have q2 : ((x.length : Int) == 2) = true := by rw [h2]; rfl
        have hx1 : 1 ≤ x.length := by omega
        have hd := ba_drop x 1
        clear h2
        go_wp2_with fail
        refine (writeString_f _ _ _ x.tail _ _ hBk (by rw [List.length_tail]; omega) hzk).mono ?_
        rintro e w4 ⟨⟨n4, rfl⟩, hB4, hz4, hr4⟩
        clear hd
        go_wp2_with fail
        go_roundw
        case rel => exact ⟨k + 1, by omega, by go_num, by rw [HT.out, HQ.out]; exact hB4, Lib.hid (fun hne => hr4 g cur _ _ hgb (by decide) (HK.out hne)), hz4⟩
        case measure => simp [intOf]; omega
      · have HQ := Lib.hid (show plainPart x = x by unfold plainPart; rw [if_neg h2])
        rw [HQ.out] at hle1
        have q2 : ((x.length : Int) == 2) = false := beq_no (by omega)
        clear h2
        go_wp2_with fail
        refine (writeString_f _ _ _ x _ _ hBk (by omega) hzk).mono ?_
        rintro e w4 ⟨⟨n4, rfl⟩, hB4, hz4, hr4⟩
        go_wp2_with fail
        go_roundw
        case rel => exact ⟨k + 1, by omega, by go_num, by rw [HT.out, HQ.out]; exact hB4, Lib.hid (fun hne => hr4 g cur _ _ hgb (by decide) (HK.out hne)), hz4⟩
        case measure => simp [intOf]; omega
    · obtain rfl : k = (parts p).length := by omega
      go_wp2_with fail
      refine (builderString_c _ _ _ _ _ hBk hzk).mono ?_
      rintro e w7 ⟨rfl, hb7⟩
      go_wp2_with fail
      go_ret
      exact ⟨ret_str (by unfold plain; simp), hb7⟩
end Go.Proofs.YtanjmljlpdhlnaaGreatDoor
