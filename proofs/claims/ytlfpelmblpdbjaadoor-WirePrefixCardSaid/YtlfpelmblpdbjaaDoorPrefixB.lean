/-
  WirePrefix, where both encodings are written and compared.
-/
import Derived.Test.YtlfpelmblpdbjaaDoorPrefix
namespace Go.Proofs.YtlfpelmblpdbjaaDoor
open Go Go.RowKit Go.Sort Wire

theorem ba_list' (l : List UInt8) : (⟨l.toArray⟩ : ByteArray).toList = l := by simp
theorem enc_prefix {w : World} {y z : Val} {v3 v4 u3 u4 : Value} (hy : ValAt w y v3 v4) (hz : ValAt w z u3 u4) (hsy : y.size ≤ 400) (hsz : z.size ≤ 400) (hk : y.k % 5 = z.k % 5) (r : List UInt8) (h : z.enc = y.enc ++ r) : r = [] := by
  rcases kinds5 y.k with h0 | h0 | h0 | h0 | h0
  · rw [enc0 y h0, enc0 z (by omega)] at h
    have e1 := read0 z.n hz.n []
    have e2 := read0 y.n hy.n r
    rw [List.append_nil, h, e2] at e1
    injection e1 with e1; injection e1
  · rw [enc1 y h0, enc1 z (by omega)] at h
    have e1 := read1 z.n hz.n []
    have e2 := read1 y.n hy.n r
    rw [List.append_nil, h, e2] at e1
    injection e1 with e1; injection e1
  · rw [enc2 y h0, enc2 z (by omega)] at h
    have e1 := read2 z.s (small_text hsz) []
    have e2 := read2 y.s (small_text hsy) r
    rw [List.append_nil, h, e2] at e1
    injection e1 with e1; injection e1
  · rw [enc3 y h0, enc3 z (by omega)] at h
    have e1 := read3 z.l hz.hl (by unfold Val.size at hsz; omega) []
    have e2 := read3 y.l hy.hl (by unfold Val.size at hsy; omega) r
    rw [List.append_nil, h, e2] at e1
    injection e1 with e1; injection e1
  · rw [enc4 y h0, enc4 z (by omega)] at h
    have e1 := read4 z.t (by unfold Val.size at hsz; omega) (by unfold Val.size at hsz; omega) []
    have e2 := read4 y.t (by unfold Val.size at hsy; omega) (by unfold Val.size at hsy; omega) r
    rw [List.append_nil, h, e2] at e1
    injection e1 with e1; injection e1

set_option maxHeartbeats 4000000 in
set_option maxRecDepth 100000 in
theorem prefix4_c (y z : Val) (v3 v4 u3 u4 : Value) (hfy : [y].length ≤ 20 ∧ total [y] ≤ 400) (hfz : [z].length ≤ 20 ∧ total [z] ≤ 400) (hkk : y.k % 5 = z.k % 5) (heq : y.enc = z.enc) (w : World) (hg : Good w) (hy : ValAt w y v3 v4) (hz : ValAt w z u3 u4) :
    Calls Tryd.prog 7 #[y.agg v3 v4, z.agg u3 u4] w fun e w' => e = .returned (.bool true) ∧ Below w.heap.size w w' := by
  have hbs := Boxes.start w y z v3 v4 u3 u4
  have hg0 := hg.on hbs.below
  have HF := Lib.hid hfy
  have HZ := Lib.hid hfz
  have hne : (y.k % 5 != z.k % 5) = false := by simpa using hkk
  have hsy : y.size ≤ 400 := by simpa [total] using hfy.2
  have hsz : z.size ≤ 400 := by simpa [total] using hfz.2
  have HEQ := Lib.hid heq
  have hle := enc_len z hsz hz.n hz.hl
  clear hfy hfz hkk heq
  unfold Val.agg
  go_enter Tryd.func7, Tryd.ntmps7
  go_wp2_with fail
  refine (small_c _ hg0).mono ?_
  rintro e w1 ⟨rfl, hb1⟩
  have hb := hbs.on hb1
  clear hbs hg0 hb1
  obtain ⟨a0, a1, a2, a3, a4, b0, b1, b2, b3, b4⟩ := hb.cells
  have hov := (one_val (hy.on hb.below)).drew
  have hal : Boxes w y z v3 v4 u3 u4 (w1.alloc (.cells #[.int .i64 y.k, .int .i64 y.n, .string ⟨y.s.toArray⟩, v3, v4] 25)).drew := (hb.on ((Below.refl _ _).alloc (Nat.le_refl _) _)).drew
  go_wp2_with fail
  go_region_with (first
    | (go_at_call_of 10 (w1.heap.size); refine (few_t [y] HF.out _ _ hov).mono ?_; rintro e w2 ⟨rfl, hb2⟩; have hbx := hal.on hb2; obtain ⟨a0, a1, a2, a3, a4, b0, b1, b2, b3, b4⟩ := hbx.cells; have hov2 := one_val (hz.on hbx.below); have hal2 := hbx.on ((Below.refl _ _).alloc (Nat.le_refl w2.heap.size) (.cells #[.int .i64 z.k, .int .i64 z.n, .string ⟨z.s.toArray⟩, u3, u4] 25)))
    | (go_at_call 10; refine (few_t [z] HZ.out _ _ hov2).mono ?_; rintro e w3 ⟨rfl, hb3⟩; have hcur := hal2.on hb3; obtain ⟨a0, a1, a2, a3, a4, b0, b1, b2, b3, b4⟩ := hcur.cells)
    | (go_at_call_of 23 (Value.int IntKind.i64 y.k); refine (kind_c y.k hy.k _ _ _ _ _).mono ?_; rintro e w4 ⟨rfl, hb4⟩; have hnew := hcur.on hb4; clear hb4 hcur; have hcur := hnew; clear hnew; obtain ⟨a0, a1, a2, a3, a4, b0, b1, b2, b3, b4⟩ := hcur.cells)
    | (go_at_call_of 23 (Value.int IntKind.i64 z.k); refine (kind_c z.k hz.k _ _ _ _ _).mono ?_; rintro e w4 ⟨rfl, hb4⟩; have hnew := hcur.on hb4; clear hb4 hcur; have hcur := hnew; clear hnew; obtain ⟨a0, a1, a2, a3, a4, b0, b1, b2, b3, b4⟩ := hcur.cells))
  all_goals go_wp2_with fail
  all_goals
    refine (write_c y v3 v4 hsy _ (hg.on hcur.below) (hy.on hcur.below)).mono ?_
    rintro e w5 ⟨rfl, hb5⟩
    have hc5 := hcur.on hb5
    obtain ⟨a0, a1, a2, a3, a4, b0, b1, b2, b3, b4⟩ := hc5.cells
    go_wp2_with fail
    refine (write_c z u3 u4 hsz _ (hg.on hc5.below) (hz.on hc5.below)).mono ?_
    rintro e w6 ⟨rfl, hb6⟩
    have hc6 := hc5.on hb6
    obtain ⟨a0, a1, a2, a3, a4, b0, b1, b2, b3, b4⟩ := hc6.cells
    rw [HEQ.out]
    have hq : (!((⟨z.enc.toArray⟩ : ByteArray).extract 0 z.enc.length).toList == z.enc) = false := by rw [ba_take, List.take_length]; simp
    go_wp2_with fail
    refine (rOpen_c z.enc _).mono ?_
    rintro e w7 ⟨rfl, hr7, hb7⟩
    have hc7 := hc6.on hb7
    obtain ⟨a0, a1, a2, a3, a4, b0, b1, b2, b3, b4⟩ := hc7.cells
    have hg7 := hg.on hc7.below
    have h66 : 6 ≤ w6.heap.size := (hg.on hc6.below).big
    have hr7' : Rd w7 w6.heap.size (z.enc ++ []) false := by rw [List.append_nil]; exact hr7
    go_wp2_with fail
    refine (equal_c z u3 u4 hsz _ [] (by rw [List.append_nil]; omega) h66 w _ hc7.below hc6.below.size hg7 hr7' hz).mono ?_
    rintro e w8 ⟨rfl, hr8, ho8⟩
    go_wp2_with fail
    go_ret
    exact ⟨rfl, chainO hc7.below ho8 hc6.below.size⟩
set_option maxHeartbeats 4000000 in
set_option maxRecDepth 100000 in
theorem prefix5_c (y z : Val) (v3 v4 u3 u4 : Value) (hfy : [y].length ≤ 20 ∧ total [y] ≤ 400) (hfz : [z].length ≤ 20 ∧ total [z] ≤ 400) (hkk : y.k % 5 = z.k % 5) (hlt : z.enc.length < y.enc.length) (w : World) (hg : Good w) (hy : ValAt w y v3 v4) (hz : ValAt w z u3 u4) :
    Calls Tryd.prog 7 #[y.agg v3 v4, z.agg u3 u4] w fun e w' => e = .returned (.bool true) ∧ Below w.heap.size w w' := by
  have hbs := Boxes.start w y z v3 v4 u3 u4
  have hg0 := hg.on hbs.below
  have HF := Lib.hid hfy
  have HZ := Lib.hid hfz
  have hne : (y.k % 5 != z.k % 5) = false := by simpa using hkk
  have hsy : y.size ≤ 400 := by simpa [total] using hfy.2
  have hsz : z.size ≤ 400 := by simpa [total] using hfz.2
  have hle := enc_len z hsz hz.n hz.hl
  have hle2 := enc_len y hsy hy.n hy.hl
  clear hfy hfz hkk
  unfold Val.agg
  go_enter Tryd.func7, Tryd.ntmps7
  go_wp2_with fail
  refine (small_c _ hg0).mono ?_
  rintro e w1 ⟨rfl, hb1⟩
  have hb := hbs.on hb1
  clear hbs hg0 hb1
  obtain ⟨a0, a1, a2, a3, a4, b0, b1, b2, b3, b4⟩ := hb.cells
  have hov := (one_val (hy.on hb.below)).drew
  have hal : Boxes w y z v3 v4 u3 u4 (w1.alloc (.cells #[.int .i64 y.k, .int .i64 y.n, .string ⟨y.s.toArray⟩, v3, v4] 25)).drew := (hb.on ((Below.refl _ _).alloc (Nat.le_refl _) _)).drew
  go_wp2_with fail
  go_region_with (first
    | (go_at_call_of 10 (w1.heap.size); refine (few_t [y] HF.out _ _ hov).mono ?_; rintro e w2 ⟨rfl, hb2⟩; have hbx := hal.on hb2; obtain ⟨a0, a1, a2, a3, a4, b0, b1, b2, b3, b4⟩ := hbx.cells; have hov2 := one_val (hz.on hbx.below); have hal2 := hbx.on ((Below.refl _ _).alloc (Nat.le_refl w2.heap.size) (.cells #[.int .i64 z.k, .int .i64 z.n, .string ⟨z.s.toArray⟩, u3, u4] 25)))
    | (go_at_call 10; refine (few_t [z] HZ.out _ _ hov2).mono ?_; rintro e w3 ⟨rfl, hb3⟩; have hcur := hal2.on hb3; obtain ⟨a0, a1, a2, a3, a4, b0, b1, b2, b3, b4⟩ := hcur.cells)
    | (go_at_call_of 23 (Value.int IntKind.i64 y.k); refine (kind_c y.k hy.k _ _ _ _ _).mono ?_; rintro e w4 ⟨rfl, hb4⟩; have hnew := hcur.on hb4; clear hb4 hcur; have hcur := hnew; clear hnew; obtain ⟨a0, a1, a2, a3, a4, b0, b1, b2, b3, b4⟩ := hcur.cells)
    | (go_at_call_of 23 (Value.int IntKind.i64 z.k); refine (kind_c z.k hz.k _ _ _ _ _).mono ?_; rintro e w4 ⟨rfl, hb4⟩; have hnew := hcur.on hb4; clear hb4 hcur; have hcur := hnew; clear hnew; obtain ⟨a0, a1, a2, a3, a4, b0, b1, b2, b3, b4⟩ := hcur.cells))
  all_goals go_wp2_with fail
  all_goals
    refine (write_c y v3 v4 hsy _ (hg.on hcur.below) (hy.on hcur.below)).mono ?_
    rintro e w5 ⟨rfl, hb5⟩
    have hc5 := hcur.on hb5
    obtain ⟨a0, a1, a2, a3, a4, b0, b1, b2, b3, b4⟩ := hc5.cells
    go_wp2_with fail
    refine (write_c z u3 u4 hsz _ (hg.on hc5.below) (hz.on hc5.below)).mono ?_
    rintro e w6 ⟨rfl, hb6⟩
    have hc6 := hc5.on hb6
    clear a0 a1 a2 a3 a4 b0 b1 b2 b3 b4
    go_wp2_with fail
    go_ret
    exact ⟨rfl, hc6.below⟩
set_option maxHeartbeats 4000000 in
set_option maxRecDepth 100000 in
theorem prefix6_c (y z : Val) (v3 v4 u3 u4 : Value) (hfy : [y].length ≤ 20 ∧ total [y] ≤ 400) (hfz : [z].length ≤ 20 ∧ total [z] ≤ 400) (hkk : y.k % 5 = z.k % 5) (hlt : y.enc.length ≤ z.enc.length) (hne2 : y.enc ≠ z.enc) (w : World) (hg : Good w) (hy : ValAt w y v3 v4) (hz : ValAt w z u3 u4) :
    Calls Tryd.prog 7 #[y.agg v3 v4, z.agg u3 u4] w fun e w' => e = .returned (.bool true) ∧ Below w.heap.size w w' := by
  have hbs := Boxes.start w y z v3 v4 u3 u4
  have hg0 := hg.on hbs.below
  have HF := Lib.hid hfy
  have HZ := Lib.hid hfz
  have hne : (y.k % 5 != z.k % 5) = false := by simpa using hkk
  have hsy : y.size ≤ 400 := by simpa [total] using hfy.2
  have hsz : z.size ≤ 400 := by simpa [total] using hfz.2
  have hle := enc_len z hsz hz.n hz.hl
  have hle2 := enc_len y hsy hy.n hy.hl
  have hpre : z.enc.take y.enc.length ≠ y.enc := by
    intro h
    have e : z.enc = y.enc ++ z.enc.drop y.enc.length := by
      conv => lhs; rw [← List.take_append_drop y.enc.length z.enc, h]
    have := enc_prefix hy hz hsy hsz hkk _ e
    rw [this, List.append_nil] at e
    exact hne2 e.symm
  have HP := Lib.hid hpre
  clear hpre hne2
  clear hfy hfz hkk
  unfold Val.agg
  go_enter Tryd.func7, Tryd.ntmps7
  go_wp2_with fail
  refine (small_c _ hg0).mono ?_
  rintro e w1 ⟨rfl, hb1⟩
  have hb := hbs.on hb1
  clear hbs hg0 hb1
  obtain ⟨a0, a1, a2, a3, a4, b0, b1, b2, b3, b4⟩ := hb.cells
  have hov := (one_val (hy.on hb.below)).drew
  have hal : Boxes w y z v3 v4 u3 u4 (w1.alloc (.cells #[.int .i64 y.k, .int .i64 y.n, .string ⟨y.s.toArray⟩, v3, v4] 25)).drew := (hb.on ((Below.refl _ _).alloc (Nat.le_refl _) _)).drew
  go_wp2_with fail
  go_region_with (first
    | (go_at_call_of 10 (w1.heap.size); refine (few_t [y] HF.out _ _ hov).mono ?_; rintro e w2 ⟨rfl, hb2⟩; have hbx := hal.on hb2; obtain ⟨a0, a1, a2, a3, a4, b0, b1, b2, b3, b4⟩ := hbx.cells; have hov2 := one_val (hz.on hbx.below); have hal2 := hbx.on ((Below.refl _ _).alloc (Nat.le_refl w2.heap.size) (.cells #[.int .i64 z.k, .int .i64 z.n, .string ⟨z.s.toArray⟩, u3, u4] 25)))
    | (go_at_call 10; refine (few_t [z] HZ.out _ _ hov2).mono ?_; rintro e w3 ⟨rfl, hb3⟩; have hcur := hal2.on hb3; obtain ⟨a0, a1, a2, a3, a4, b0, b1, b2, b3, b4⟩ := hcur.cells)
    | (go_at_call_of 23 (Value.int IntKind.i64 y.k); refine (kind_c y.k hy.k _ _ _ _ _).mono ?_; rintro e w4 ⟨rfl, hb4⟩; have hnew := hcur.on hb4; clear hb4 hcur; have hcur := hnew; clear hnew; obtain ⟨a0, a1, a2, a3, a4, b0, b1, b2, b3, b4⟩ := hcur.cells)
    | (go_at_call_of 23 (Value.int IntKind.i64 z.k); refine (kind_c z.k hz.k _ _ _ _ _).mono ?_; rintro e w4 ⟨rfl, hb4⟩; have hnew := hcur.on hb4; clear hb4 hcur; have hcur := hnew; clear hnew; obtain ⟨a0, a1, a2, a3, a4, b0, b1, b2, b3, b4⟩ := hcur.cells))
  all_goals go_wp2_with fail
  all_goals
    refine (write_c y v3 v4 hsy _ (hg.on hcur.below) (hy.on hcur.below)).mono ?_
    rintro e w5 ⟨rfl, hb5⟩
    have hc5 := hcur.on hb5
    obtain ⟨a0, a1, a2, a3, a4, b0, b1, b2, b3, b4⟩ := hc5.cells
    go_wp2_with fail
    refine (write_c z u3 u4 hsz _ (hg.on hc5.below) (hz.on hc5.below)).mono ?_
    rintro e w6 ⟨rfl, hb6⟩
    have hc6 := hc5.on hb6
    clear a0 a1 a2 a3 a4 b0 b1 b2 b3 b4
    have hq : (!((⟨z.enc.toArray⟩ : ByteArray).extract 0 (min (y.enc.length : Int) (z.enc.length : Int)).toNat).toList == y.enc) = true := by
      rw [show (min (y.enc.length : Int) (z.enc.length : Int)).toNat = y.enc.length by omega, ba_take, ba_list']
      have := HP.out
      simp [this]
    go_wp2_with fail
    go_ret
    exact ⟨rfl, hc6.below⟩
theorem prefix_c (y z : Val) (v3 v4 u3 u4 : Value) (w : World) (hg : Good w) (hy : ValAt w y v3 v4) (hz : ValAt w z u3 u4) :
    Calls Tryd.prog 7 #[y.agg v3 v4, z.agg u3 u4] w fun e w' => e = .returned (.bool true) ∧ Below w.heap.size w w' := by
  by_cases h1 : [y].length ≤ 20 ∧ total [y] ≤ 400
  · by_cases h2 : [z].length ≤ 20 ∧ total [z] ≤ 400
    · by_cases h3 : y.k % 5 = z.k % 5
      · by_cases h4 : y.enc = z.enc
        · exact prefix4_c y z v3 v4 u3 u4 h1 h2 h3 h4 w hg hy hz
        · by_cases h5 : z.enc.length < y.enc.length
          · exact prefix5_c y z v3 v4 u3 u4 h1 h2 h3 h5 w hg hy hz
          · exact prefix6_c y z v3 v4 u3 u4 h1 h2 h3 (by omega) h4 w hg hy hz
      · exact prefix3_c y z v3 v4 u3 u4 h1 h2 h3 w hg hy hz
    · exact prefix2_c y z v3 v4 u3 u4 h1 h2 w hg hy hz
  · exact prefix1_c y z v3 v4 u3 u4 h1 w hg hy
end Go.Proofs.YtlfpelmblpdbjaaDoor
