/-
  The statements' own helpers: the small examples, the kind of a value.
-/
import Derived.Test.YtlfpelmblpdbjaaDoorReadC
namespace Go.Proofs.YtlfpelmblpdbjaaDoor
open Go Go.RowKit Go.Sort Wire

theorem decDigits_ge {u : Nat} (h : ¬ u < 10) : Lib.decDigits u = Lib.decDigits (u / 10) ++ [UInt8.ofNat (48 + u % 10)] := Wire.decDigits_step u h
theorem x_num0 : eNum 0 = [48, 59] := by
  unfold eNum eInt Lib.itoa
  simp [Lib.decDigits_one]
theorem x_num300 : eNum 300 = [51, 48, 48, 59] := by
  unfold eNum eInt Lib.itoa
  simp [decDigits_ge, Lib.decDigits_one]
theorem x_numneg : eNum (-1) = [] := by simp [eNum]
theorem x_int7 : eInt 7 = [55, 59] := by
  unfold eInt Lib.itoa
  simp [Lib.decDigits_one]
theorem x_intneg : eInt (-7) = [45, 55, 59] := by
  unfold eInt Lib.itoa
  simp [Lib.decDigits_one]
theorem x_text : eText [97, 44, 98] = [51, 58, 97, 44, 98, 44] := by
  unfold eText Lib.itoa
  simp [Lib.decDigits_one]
theorem x_nums : eList eInt [1, -1] = [50, 91, 49, 59, 45, 49, 59, 93] := by
  unfold eList eInt Lib.itoa
  simp [Lib.decDigits_one]
theorem x_texts : eList eText [] = [48, 91, 93] := by
  unfold eList Lib.itoa
  simp [Lib.decDigits_one]
theorem x_007 : rNum 59 [48, 48, 55, 59] = none := by
  cases h : rNum 59 [48, 48, 55, 59] with
  | none => rfl
  | some p =>
    exfalso
    obtain ⟨n, r⟩ := p
    unfold rNum rInt at h
    have hc : cutAt 59 [48, 48, 55, 59] = some ([48, 48, 55], []) := by decide
    rw [hc] at h
    simp only [Option.bind_some] at h
    have hr : readDig [48, 48, 55] = none := by
      unfold readDig
      have ha : Lib.atoiAll [48, 48, 55] = .ok 7 := by decide
      rw [ha]
      have hi : Lib.itoa 7 ≠ [48, 48, 55] := by unfold Lib.itoa; simp [Lib.decDigits_one]
      simp [hi]
    rw [hr] at h
    cases h

theorem tmod_nonneg (k : Int) (h : ¬ k < 0) : k.tmod 5 = k % 5 := Int.tmod_eq_emod_of_nonneg (by omega)
theorem tmod_neg (k : Int) (h : k < 0) : k.tmod 5 = -((-k) % 5) := by
  have := Int.neg_tmod (-k) 5
  rw [Int.neg_neg] at this
  rw [this, Int.tmod_eq_emod_of_nonneg (by omega)]
theorem chain {w w1 w2 : World} (h : Below w.heap.size w w1) (k : Below w1.heap.size w1 w2) : Below w.heap.size w w2 := h.trans (k.mono h.size)
theorem chainO {w w1 w2 : World} {b : Nat} (h : Below w.heap.size w w1) (k : Only b w1 w2) (hb : w.heap.size ≤ b) : Below w.heap.size w w2 := h.trans (k.below hb h.size)
theorem ret_int {a b : Int} (h : a = b) : Ending.returned (.int .i64 a) = .returned (.int .i64 b) := by rw [h]
theorem ret_bool {a b : Bool} (h : a = b) : Ending.returned (.bool a) = .returned (.bool b) := by rw [h]
theorem row_alloc (w : World) (xs : List Value) (T : TypeId) (cap : Nat) (h : xs.length ≤ 9223372036854775807) : RowAt (w.alloc (.cells xs.toArray T)) (.slice (some ⟨w.heap.size, 0, none⟩) xs.length cap) xs :=
  ⟨h, _, cap, rfl, fun _ => ⟨w.heap.size, 0, rfl, fun i x hx => by rw [Lib.cell_of_heap (heap_alloc_new w _)]; simpa using hx⟩⟩
/-- The kind of a value: from 0 to 4. -/
theorem kind_neg (k : Int) (h : k.tmod 5 < 0) : k.tmod 5 + 5 = k % 5 := by
  by_cases hk : k < 0
  · rw [tmod_neg k hk] at *; omega
  · rw [tmod_nonneg k hk] at *; omega
theorem kind_pos (k : Int) (h : ¬ k.tmod 5 < 0) : k.tmod 5 = k % 5 := by
  by_cases hk : k < 0
  · rw [tmod_neg k hk] at *; omega
  · exact tmod_nonneg k hk
theorem tmod_bd (k : Int) : -5 < k.tmod 5 ∧ k.tmod 5 < 5 := by
  by_cases hk : k < 0
  · rw [tmod_neg k hk]; omega
  · rw [tmod_nonneg k hk]; omega
set_option maxRecDepth 100000 in
theorem kind_c (k : Int) (hk : InR k) (v1 v2 v3 v4 : Value) (w : World) : Calls Tryd.prog 23 #[.agg #[.int .i64 k, v1, v2, v3, v4]] w fun e w' => e = .returned (.int .i64 (k % 5)) ∧ Below w.heap.size w w' := by
  obtain ⟨h0, h1⟩ := hk
  obtain ⟨hb1, hb2⟩ := tmod_bd k
  by_cases hn : k.tmod 5 < 0
  · have HK := Lib.hid (kind_neg k hn)
    go_enter Tryd.func23, Tryd.ntmps23
    go_wp2_with fail
    go_ret
    exact ⟨ret_int HK.out, (Below.refl _ _).alloc (Nat.le_refl _) _⟩
  · have HK := Lib.hid (kind_pos k hn)
    go_enter Tryd.func23, Tryd.ntmps23
    go_wp2_with fail
    go_ret
    exact ⟨ret_int HK.out, (Below.refl _ _).alloc (Nat.le_refl _) _⟩

set_option maxHeartbeats 1000000 in
set_option maxRecDepth 100000 in
theorem small_c (w : World) (hg : Good w) : Calls Tryd.prog 9 #[] w fun e w' => e = .returned (.bool true) ∧ Below w.heap.size w w' := by
  have q1 : (eNum 0 == [48, 59]) = true := by rw [x_num0]; rfl
  have q2 : (eNum 300 == [51, 48, 48, 59]) = true := by rw [x_num300]; rfl
  have q3 : (eNum (-1)).isEmpty = true := by rw [x_numneg]; rfl
  have q3' : (eNum (-1) == []) = true := by rw [x_numneg]; rfl
  have q4 : (eInt (-7) == [45, 55, 59]) = true := by rw [x_intneg]; rfl
  have q5 : (eInt 7 == [55, 59]) = true := by rw [x_int7]; rfl
  have q6 : (eText [97, 44, 98] == [51, 58, 97, 44, 98, 44]) = true := by rw [x_text]; rfl
  have q7 : (eList eInt [1, -1] == [50, 91, 49, 59, 45, 49, 59, 93]) = true := by rw [x_nums]; rfl
  have q8 : (eList eText [] == [48, 91, 93]) = true := by rw [x_texts]; rfl
  go_enter Tryd.func9, Tryd.ntmps9
  go_wp2_with fail
  refine (wNum_c 0 (by unfold InR; omega) _ hg).mono ?_
  rintro e w1 ⟨rfl, hb1⟩
  have hg1 := hg.on hb1
  go_wp2_with fail
  refine (wNum_c 300 (by unfold InR; omega) _ hg1).mono ?_
  rintro e w2 ⟨rfl, hb2⟩
  have hg2 := hg1.on hb2
  go_wp2_with fail
  refine (wNum_c (-1) (by unfold InR; omega) _ hg2).mono ?_
  rintro e w3 ⟨rfl, hb3⟩
  have hg3 := hg2.on hb3
  go_wp2_with fail
  refine (wInt_c (-7) (by unfold InR; omega) _ hg3).mono ?_
  rintro e w4 ⟨rfl, hb4⟩
  have hg4 := hg3.on hb4
  go_wp2_with fail
  refine (wInt_c 7 (by unfold InR; omega) _ hg4).mono ?_
  rintro e w5 ⟨rfl, hb5⟩
  have hg5 := hg4.on hb5
  go_wp2_with fail
  refine (wText_c [97, 44, 98] (by simp) _ hg5).mono ?_
  rintro e w6 ⟨rfl, hb6⟩
  have hg6 := hg5.on hb6
  have hb7 : Below w6.heap.size w6 (w6.alloc (.cells #[.int .i64 1, .int .i64 (-1)] 3)) := (Below.refl _ _).alloc (Nat.le_refl _) _
  have hg7 := hg6.on hb7
  have hr7 := row_alloc w6 (ints [1, -1]) 3 2 (by simp [ints])
  go_wp2_with fail
  refine (wNums_c [1, -1] _ (by intro n hn; unfold InR; simp at hn; omega) (by simp [eInt, Lib.itoa, Lib.decDigits_one]) _ hg7 hr7).mono ?_
  rintro e w8 ⟨rfl, hb8⟩
  have hg8 := hg7.on hb8
  have hr8 : RowAt w8 (.slice none 0 0) (strs []) := ⟨by simp [strs], none, 0, rfl, fun h => absurd rfl h⟩
  go_wp2_with fail
  refine (wTexts_c [] _ (by simp) _ hg8 hr8).mono ?_
  rintro e w9 ⟨rfl, hb9⟩
  have hg9 := hg8.on hb9
  clear hr7 hr8
  go_wp2_with fail
  refine (rOpen_c [48, 48, 55, 59] _).mono ?_
  rintro e w10 ⟨rfl, hr10, hb10⟩
  have hg10 := hg9.on hb10
  have hbig : 6 ≤ w9.heap.size := hg9.big
  have HN := Lib.hid x_007
  go_wp2_with fail
  refine (rNumM_no _ _ _ HN.out (by simp) _ hg10 hr10).mono ?_
  rintro e w11 ⟨rfl, hr11, ho11⟩
  go_wp2_with fail
  refine (rLeft_c _ _ _ _ hr11).mono ?_
  rintro e w12 ⟨rfl, rfl⟩
  go_wp2_with fail
  refine (rDone_c _ _ _ _ hr11).mono ?_
  rintro e w13 ⟨rfl, rfl⟩
  go_wp2_with fail
  go_ret
  have hz : w.heap.size ≤ w9.heap.size := (chain (chain (chain (chain (chain (chain (chain (chain hb1 hb2) hb3) hb4) hb5) hb6) hb7) hb8) hb9).size
  exact ⟨rfl, chainO (chain (chain (chain (chain (chain (chain (chain (chain (chain hb1 hb2) hb3) hb4) hb5) hb6) hb7) hb8) hb9) hb10) ho11 hz⟩
end Go.Proofs.YtlfpelmblpdbjaaDoor
