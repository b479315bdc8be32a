/-
  The statements' own helpers: the small examples of chapter 2; and the comparison of two lists of strings.
-/
import Derived.Test.YtanjmljlpdhlnaaGreatDoorTFields
import Derived.Test.YtanjmljlpdhlnaaGreatDoorTMatch
namespace Go.Proofs.YtanjmljlpdhlnaaGreatDoor
open Go Go.RowKit Go.Sort Wire Txt

theorem x_m0 : readDig [45, 48] = none := by
  unfold readDig
  have ha : Lib.atoiAll [45, 48] = .ok 0 := by decide
  rw [ha]
  have hi : Lib.itoa 0 ≠ [45, 48] := by unfold Lib.itoa; simp [Lib.decDigits_one]
  simp [hi]
theorem x_007 : readDig [48, 48, 55] = none := by
  unfold readDig
  have ha : Lib.atoiAll [48, 48, 55] = .ok 7 := by decide
  rw [ha]
  have hi : Lib.itoa 7 ≠ [48, 48, 55] := by unfold Lib.itoa; simp [Lib.decDigits_one]
  simp [hi]
theorem x_min : readDig [45, 57, 50, 50, 51, 51, 55, 50, 48, 51, 54, 56, 53, 52, 55, 55, 53, 56, 48, 56] = some (-9223372036854775808) := by
  refine (readDig_iff _ _).2 ⟨⟨by omega, by omega⟩, ?_⟩
  rw [itoa_neg _ (by omega)]
  have e : (-9223372036854775808 : Int).natAbs = 9223372036854775808 := rfl
  rw [e]
  simp [Wire.decDigits_step, Lib.decDigits_one]
theorem x_lines : lines [97, 10, 10, 98] = [[97], [], [98]] := by decide
theorem x_fields : fields [32, 97, 32, 32, 98, 10] = [[97], [98]] := by decide
theorem x_quote : quote [97, 34, 10, 200] = [34, 97, 92, 34, 92, 110, 92, 120, 99, 56, 34] := by decide
theorem x_pat1 : pat [97, 42, 91, 33, 120, 45, 122, 93, 63] [97, 98, 99, 100] = true := by decide +kernel
theorem x_pat2 : pat [91, 93, 93] [93] = true := by decide +kernel
theorem x_pat3 : pat [91, 97] [91, 97] = true := by decide +kernel
theorem x_pat4 : pat [92, 42] [42] = true := by decide +kernel
theorem x_pat5 : pat [92, 42] [97, 98] = false := by decide +kernel

theorem row_slice {w : World} {v : Value} {l : List (List UInt8)} (h : RowAt w v (strs l)) (hne : l ≠ []) : ∃ b off cap, v = .slice (some ⟨b, off, none⟩) l.length cap ∧ b < w.heap.size ∧ ∀ (i : Nat) (x : List UInt8), l[i]? = some x → w.cell? ⟨b, off + i, none⟩ = some (.string ⟨x.toArray⟩) := by
  obtain ⟨_, a, cap, hv, hc⟩ := h
  have e : (strs l).length = l.length := by simp [strs]
  obtain ⟨b, off, rfl, hcell⟩ := hc (by intro h0; rw [h0] at e; simp at e; exact hne (List.eq_nil_of_length_eq_zero e.symm))
  rw [e] at hv
  refine ⟨b, off, cap, hv, ?_, fun i x hx => hcell i _ (strs_get hx)⟩
  cases l with
  | nil => exact absurd rfl hne
  | cons x l => exact lt_of_cell (hcell 0 _ rfl)
theorem row_any {w : World} {v : Value} {l : List (List UInt8)} (h : RowAt w v (strs l)) : ∃ a cap, v = .slice a l.length cap := by
  obtain ⟨_, a, cap, hv, _⟩ := h
  have e : (strs l).length = l.length := by simp [strs]
  rw [e] at hv
  exact ⟨a, cap, hv⟩

set_option maxHeartbeats 2000000 in
set_option maxRecDepth 100000 in
theorem small_c (w : World) (hg : Good w) : Calls Tryz.prog 4 #[] w fun e w' => e = .returned (.bool true) ∧ Below w.heap.size w w' := by
  go_enter Tryz.func4, Tryz.ntmps4
  go_wp2_with fail
  refine (int_no [45, 48] x_m0 (by simp) _ hg).mono ?_
  rintro e w1 ⟨rfl, hb1⟩
  have hg1 := hg.on hb1
  go_wp2_with fail
  refine (int_no [48, 48, 55] x_007 (by simp) _ hg1).mono ?_
  rintro e w2 ⟨rfl, hb2⟩
  have hg2 := hg1.on hb2
  go_wp2_with fail
  refine (int_ok _ _ x_min (by simp) _ hg2).mono ?_
  rintro e w3 ⟨rfl, hb3⟩
  have hg3 := hg2.on hb3
  go_wp2_with fail
  refine (lines_c [97, 10, 10, 98] (by simp) _ hg3).mono ?_
  rw [x_lines]
  rintro e w4 ⟨v4, rfl, hr4, hb4⟩
  have hg4 := hg3.on hb4
  obtain ⟨b4, o4, c4, rfl, hlt4, hc4⟩ := row_slice hr4 (by simp)
  clear hr4
  have hz4 := Lib.hid hb4.size
  go_wp2_with fail
  refine (fields_c [32, 97, 32, 32, 98, 10] (by simp) _).mono ?_
  rw [x_fields]
  rintro e w5 ⟨v5, rfl, hr5, hb5⟩
  have hg5 := hg4.on hb5
  obtain ⟨b5, o5, c5, rfl, hlt5, hc5⟩ := row_slice hr5.row (by simp)
  clear hr5
  have HC4 := Lib.hid hc4
  have HC5 := Lib.hid hc5
  clear hc4 hc5
  go_wp2_with fail
  refine (quote_c [97, 34, 10, 200] (by simp) _).mono ?_
  rw [x_quote]
  rintro e w6 ⟨rfl, hb6⟩
  have hlt4' : b4 < w5.heap.size := Nat.lt_of_lt_of_le hlt4 hb5.size
  have k1 : w6.cell? ⟨b4, o4 + 1, none⟩ = some (.string ⟨#[]⟩) := by rw [hb6.cell (p := ⟨b4, o4 + 1, none⟩) hlt4', hb5.cell (p := ⟨b4, o4 + 1, none⟩) hlt4]; exact HC4.out 1 [] rfl
  have k2 : w6.cell? ⟨b4, o4 + 2, none⟩ = some (.string ⟨#[98]⟩) := by rw [hb6.cell (p := ⟨b4, o4 + 2, none⟩) hlt4', hb5.cell (p := ⟨b4, o4 + 2, none⟩) hlt4]; exact HC4.out 2 [98] rfl
  have k3 : w6.cell? ⟨b5, o5 + 1, none⟩ = some (.string ⟨#[98]⟩) := by rw [hb6.cell (p := ⟨b5, o5 + 1, none⟩) hlt5]; exact HC5.out 1 [98] rfl
  go_wp2_with fail
  refine (pattern_c [97, 42, 91, 33, 120, 45, 122, 93, 63] [97, 98, 99, 100] (by simp) (by simp) _).mono ?_
  rw [x_pat1]
  rintro e w7 ⟨rfl, hb7⟩
  go_wp2_with fail
  refine (pattern_c [91, 93, 93] [93] (by simp) (by simp) _).mono ?_
  rw [x_pat2]
  rintro e w8 ⟨rfl, hb8⟩
  go_wp2_with fail
  refine (pattern_c [91, 97] [91, 97] (by simp) (by simp) _).mono ?_
  rw [x_pat3]
  rintro e w9 ⟨rfl, hb9⟩
  go_wp2_with fail
  refine (pattern_c [92, 42] [42] (by simp) (by simp) _).mono ?_
  rw [x_pat4]
  rintro e w10 ⟨rfl, hb10⟩
  go_wp2_with fail
  refine (pattern_c [92, 42] [97, 98] (by simp) (by simp) _).mono ?_
  rw [x_pat5]
  rintro e w11 ⟨rfl, hb11⟩
  go_wp2_with fail
  go_ret
  exact ⟨rfl, chain (chain (chain (chain (chain (chain (chain (chain (chain (chain hb1 hb2) hb3) hb4) hb5) hb6) hb7) hb8) hb9) hb10) hb11⟩
end Go.Proofs.YtanjmljlpdhlnaaGreatDoor
