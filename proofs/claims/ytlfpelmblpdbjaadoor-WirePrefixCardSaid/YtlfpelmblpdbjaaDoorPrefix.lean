/-
  WirePrefix: for all two values of the same kind, if the encoding of one begins with that of the other, they are equal.
-/
import Derived.Test.YtlfpelmblpdbjaaDoorWrites
import Derived.Test.YtlfpelmblpdbjaaDoorFew
namespace Go.Proofs.YtlfpelmblpdbjaaDoor
open Go Go.RowKit Go.Sort Wire

theorem RowAt.drew {w : World} {v : Value} {xs : List Value} (h : RowAt w v xs) : RowAt w.drew v xs := h
theorem ValAt.drew {w : World} {x : Val} {v3 v4 : Value} (h : ValAt w x v3 v4) : ValAt w.drew x v3 v4 := ⟨h.k, h.n, h.s, h.hl, h.l.drew, h.t.drew⟩
theorem ValsAt.drew {w : World} {v : Value} {vs : List Val} (h : ValsAt w v vs) : ValsAt w.drew v vs := by
  obtain ⟨h0, a, cap, h1, h2⟩ := h
  refine ⟨h0, a, cap, h1, fun hne => ?_⟩
  obtain ⟨b, off, h3, h4⟩ := h2 hne
  refine ⟨b, off, h3, fun i x hx => ?_⟩
  obtain ⟨v3, v4, h5, h6⟩ := h4 i x hx
  exact ⟨v3, v4, h5.drew, h6⟩
/-- The two boxes of the parameters, in a world that came behind their making. -/
structure Boxes (w0 : World) (y z : Val) (v3 v4 u3 u4 : Value) (w : World) : Prop where
  below : Below w0.heap.size w0 w
  room : w0.heap.size + 1 < w.heap.size
  a : w.heap[w0.heap.size]? = some (.cells #[.int .i64 y.k, .int .i64 y.n, .string ⟨y.s.toArray⟩, v3, v4] 25 (0, 0))
  b : w.heap[w0.heap.size + 1]? = some (.cells #[.int .i64 z.k, .int .i64 z.n, .string ⟨z.s.toArray⟩, u3, u4] 25 (0, 0))
theorem Boxes.on {w0 : World} {y z : Val} {v3 v4 u3 u4 : Value} {w w' : World} (h : Boxes w0 y z v3 v4 u3 u4 w) (hb : Below w.heap.size w w') : Boxes w0 y z v3 v4 u3 u4 w' :=
  ⟨chain h.below hb, Nat.lt_of_lt_of_le h.room hb.size, (hb.block _ (by have := h.room; omega)).trans h.a, (hb.block _ h.room).trans h.b⟩
theorem Boxes.only {w0 : World} {y z : Val} {v3 v4 u3 u4 : Value} {w w' : World} {b : Nat} (h : Boxes w0 y z v3 v4 u3 u4 w) (ho : Only b w w') (hb : w0.heap.size + 1 < b) : Boxes w0 y z v3 v4 u3 u4 w' :=
  ⟨chainO h.below ho (by omega), Nat.lt_of_lt_of_le h.room ho.size, (ho.block _ (by have := h.room; omega) (by intro e; injection e with e; omega)).trans h.a, (ho.block _ h.room (by intro e; injection e with e; omega)).trans h.b⟩
theorem Boxes.start (w : World) (y z : Val) (v3 v4 u3 u4 : Value) : Boxes w y z v3 v4 u3 u4 ((w.alloc (.cells #[.int .i64 y.k, .int .i64 y.n, .string ⟨y.s.toArray⟩, v3, v4] 25)).alloc (.cells #[.int .i64 z.k, .int .i64 z.n, .string ⟨z.s.toArray⟩, u3, u4] 25)) := by
  refine ⟨((Below.refl _ _).alloc (Nat.le_refl _) _).alloc (by simp) _, by simp, ?_, ?_⟩
  · rw [Lib.alloc_old _ _ _ (by simp)]
    exact heap_alloc_new w _
  · have := heap_alloc_new (w.alloc (.cells #[.int .i64 y.k, .int .i64 y.n, .string ⟨y.s.toArray⟩, v3, v4] 25)) (.cells #[.int .i64 z.k, .int .i64 z.n, .string ⟨z.s.toArray⟩, u3, u4] 25)
    simpa using this

set_option maxHeartbeats 2000000 in
set_option maxRecDepth 100000 in
theorem prefix1_c (y z : Val) (v3 v4 u3 u4 : Value) (hfy : ¬ ([y].length ≤ 20 ∧ total [y] ≤ 400)) (w : World) (hg : Good w) (hy : ValAt w y v3 v4) :
    Calls Tryd.prog 7 #[y.agg v3 v4, z.agg u3 u4] w fun e w' => e = .returned (.bool true) ∧ Below w.heap.size w w' := by
  have hbs := Boxes.start w y z v3 v4 u3 u4
  have hg0 := hg.on hbs.below
  have HF := Lib.hid hfy
  clear hfy
  unfold Val.agg
  go_enter Tryd.func7, Tryd.ntmps7
  go_wp2_with fail
  refine (small_c _ hg0).mono ?_
  rintro e w1 ⟨rfl, hb1⟩
  have hb := hbs.on hb1
  clear hbs hg0 hb1
  have a0 : w1.cell? ⟨w.heap.size, 0, none⟩ = some (.int .i64 y.k) := by rw [Lib.cell_of_heap hb.a]; rfl
  have a1 : w1.cell? ⟨w.heap.size, 1, none⟩ = some (.int .i64 y.n) := by rw [Lib.cell_of_heap hb.a]; rfl
  have a2 : w1.cell? ⟨w.heap.size, 2, none⟩ = some (.string ⟨y.s.toArray⟩) := by rw [Lib.cell_of_heap hb.a]; rfl
  have a3 : w1.cell? ⟨w.heap.size, 3, none⟩ = some v3 := by rw [Lib.cell_of_heap hb.a]; rfl
  have a4 : w1.cell? ⟨w.heap.size, 4, none⟩ = some v4 := by rw [Lib.cell_of_heap hb.a]; rfl
  have hov := (one_val (hy.on hb.below)).drew
  have hal : Below w.heap.size w (w1.alloc (.cells #[.int .i64 y.k, .int .i64 y.n, .string ⟨y.s.toArray⟩, v3, v4] 25)).drew := (hb.below.alloc hb.below.size _).drew
  go_wp2_with fail
  go_region_with (first
    | (go_at_call 10; refine (few_f [y] HF.out _ _ hov).mono ?_; rintro e w2 ⟨rfl, hb2⟩))
  all_goals go_wp2_with fail
  all_goals go_ret
  all_goals exact ⟨rfl, chain hal hb2⟩
theorem Boxes.drew {w0 : World} {y z : Val} {v3 v4 u3 u4 : Value} {w : World} (h : Boxes w0 y z v3 v4 u3 u4 w) : Boxes w0 y z v3 v4 u3 u4 w.drew := ⟨h.below.drew, h.room, h.a, h.b⟩
theorem Boxes.cells {w0 : World} {y z : Val} {v3 v4 u3 u4 : Value} {w : World} (hb : Boxes w0 y z v3 v4 u3 u4 w) :
    w.cell? ⟨w0.heap.size, 0, none⟩ = some (.int .i64 y.k) ∧ w.cell? ⟨w0.heap.size, 1, none⟩ = some (.int .i64 y.n) ∧ w.cell? ⟨w0.heap.size, 2, none⟩ = some (.string ⟨y.s.toArray⟩) ∧
    w.cell? ⟨w0.heap.size, 3, none⟩ = some v3 ∧ w.cell? ⟨w0.heap.size, 4, none⟩ = some v4 ∧ w.cell? ⟨w0.heap.size + 1, 0, none⟩ = some (.int .i64 z.k) ∧ w.cell? ⟨w0.heap.size + 1, 1, none⟩ = some (.int .i64 z.n) ∧
    w.cell? ⟨w0.heap.size + 1, 2, none⟩ = some (.string ⟨z.s.toArray⟩) ∧ w.cell? ⟨w0.heap.size + 1, 3, none⟩ = some u3 ∧ w.cell? ⟨w0.heap.size + 1, 4, none⟩ = some u4 := by
  refine ⟨?_, ?_, ?_, ?_, ?_, ?_, ?_, ?_, ?_, ?_⟩
  all_goals first
    | (rw [Lib.cell_of_heap hb.a]; rfl)
    | (rw [Lib.cell_of_heap hb.b]; rfl)

set_option maxHeartbeats 4000000 in
set_option maxRecDepth 100000 in
theorem prefix2_c (y z : Val) (v3 v4 u3 u4 : Value) (hfy : [y].length ≤ 20 ∧ total [y] ≤ 400) (hfz : ¬ ([z].length ≤ 20 ∧ total [z] ≤ 400)) (w : World) (hg : Good w) (hy : ValAt w y v3 v4) (hz : ValAt w z u3 u4) :
    Calls Tryd.prog 7 #[y.agg v3 v4, z.agg u3 u4] w fun e w' => e = .returned (.bool true) ∧ Below w.heap.size w w' := by
  have hbs := Boxes.start w y z v3 v4 u3 u4
  have hg0 := hg.on hbs.below
  have HF := Lib.hid hfy
  have HZ := Lib.hid hfz
  clear hfy hfz
  unfold Val.agg
  go_enter Tryd.func7, Tryd.ntmps7
  go_wp2_with fail
  refine (small_c _ hg0).mono ?_
  rintro e w1 ⟨rfl, hb1⟩
  have hb := hbs.on hb1
  clear hbs hg0 hb1
  obtain ⟨a0, a1, a2, a3, a4, b0, b1, b2, b3, b4⟩ := hb.cells
  have hov := (one_val (hy.on hb.below)).drew
  have hal : Boxes w y z v3 v4 u3 u4 (w1.alloc (.cells #[.int .i64 y.k, .int .i64 y.n, .string ⟨y.s.toArray⟩, v3, v4] 25)).drew := (hb.on ((Below.refl _ _).alloc (Nat.le_refl _) _)).drew
  go_wp2_with fail
  go_region_with (first
    | (go_at_call_of 10 (w1.heap.size); refine (few_t [y] HF.out _ _ hov).mono ?_; rintro e w2 ⟨rfl, hb2⟩; have hbx := hal.on hb2; obtain ⟨a0, a1, a2, a3, a4, b0, b1, b2, b3, b4⟩ := hbx.cells; have hov2 := one_val (hz.on hbx.below); have hal2 := hbx.on ((Below.refl _ _).alloc (Nat.le_refl w2.heap.size) (.cells #[.int .i64 z.k, .int .i64 z.n, .string ⟨z.s.toArray⟩, u3, u4] 25)))
    | (go_at_call 10; refine (few_f [z] HZ.out _ _ hov2).mono ?_; rintro e w3 ⟨rfl, hb3⟩))
  all_goals go_wp2_with fail
  all_goals go_ret
  all_goals exact ⟨rfl, chain hal2.below hb3⟩
set_option maxHeartbeats 4000000 in
set_option maxRecDepth 100000 in
theorem prefix3_c (y z : Val) (v3 v4 u3 u4 : Value) (hfy : [y].length ≤ 20 ∧ total [y] ≤ 400) (hfz : [z].length ≤ 20 ∧ total [z] ≤ 400) (hkk : y.k % 5 ≠ z.k % 5) (w : World) (hg : Good w) (hy : ValAt w y v3 v4) (hz : ValAt w z u3 u4) :
    Calls Tryd.prog 7 #[y.agg v3 v4, z.agg u3 u4] w fun e w' => e = .returned (.bool true) ∧ Below w.heap.size w w' := by
  have hbs := Boxes.start w y z v3 v4 u3 u4
  have hg0 := hg.on hbs.below
  have HF := Lib.hid hfy
  have HZ := Lib.hid hfz
  have hne : (y.k % 5 != z.k % 5) = true := by simpa using hkk
  clear hfy hfz hkk
  unfold Val.agg
  go_enter Tryd.func7, Tryd.ntmps7
  go_wp2_with fail
  refine (small_c _ hg0).mono ?_
  rintro e w1 ⟨rfl, hb1⟩
  have hb := hbs.on hb1
  clear hbs hg0 hb1
  obtain ⟨a0, a1, a2, a3, a4, b0, b1, b2, b3, b4⟩ := hb.cells
  have hov := (one_val (hy.on hb.below)).drew
  have hal : Boxes w y z v3 v4 u3 u4 (w1.alloc (.cells #[.int .i64 y.k, .int .i64 y.n, .string ⟨y.s.toArray⟩, v3, v4] 25)).drew := (hb.on ((Below.refl _ _).alloc (Nat.le_refl _) _)).drew
  go_wp2_with fail
  go_region_with (first
    | (go_at_call_of 10 (w1.heap.size); refine (few_t [y] HF.out _ _ hov).mono ?_; rintro e w2 ⟨rfl, hb2⟩; have hbx := hal.on hb2; obtain ⟨a0, a1, a2, a3, a4, b0, b1, b2, b3, b4⟩ := hbx.cells; have hov2 := one_val (hz.on hbx.below); have hal2 := hbx.on ((Below.refl _ _).alloc (Nat.le_refl w2.heap.size) (.cells #[.int .i64 z.k, .int .i64 z.n, .string ⟨z.s.toArray⟩, u3, u4] 25)))
    | (go_at_call 10; refine (few_t [z] HZ.out _ _ hov2).mono ?_; rintro e w3 ⟨rfl, hb3⟩; have hcur := hal2.on hb3; obtain ⟨a0, a1, a2, a3, a4, b0, b1, b2, b3, b4⟩ := hcur.cells)
    | (go_at_call_of 23 (Value.int IntKind.i64 y.k); refine (kind_c y.k hy.k _ _ _ _ _).mono ?_; rintro e w4 ⟨rfl, hb4⟩; have hnew := hcur.on hb4; clear hb4 hcur; have hcur := hnew; clear hnew; obtain ⟨a0, a1, a2, a3, a4, b0, b1, b2, b3, b4⟩ := hcur.cells)
    | (go_at_call_of 23 (Value.int IntKind.i64 z.k); refine (kind_c z.k hz.k _ _ _ _ _).mono ?_; rintro e w4 ⟨rfl, hb4⟩; have hnew := hcur.on hb4; clear hb4 hcur; have hcur := hnew; clear hnew; obtain ⟨a0, a1, a2, a3, a4, b0, b1, b2, b3, b4⟩ := hcur.cells))
  all_goals go_wp2_with fail
  all_goals go_ret
  all_goals exact ⟨rfl, hcur.below⟩
end Go.Proofs.YtlfpelmblpdbjaaDoor
