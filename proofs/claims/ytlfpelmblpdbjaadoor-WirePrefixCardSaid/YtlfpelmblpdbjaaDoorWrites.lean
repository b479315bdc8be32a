/-
  WireWrites: whatever value of moderate size: what wire writes of its int, its string and its lists is what the reference writes.
-/
import Derived.Test.YtlfpelmblpdbjaaDoorRefEnc
import Derived.Test.YtlfpelmblpdbjaaDoorBack
import Derived.Lib.QuietBelow
namespace Go.Proofs.YtlfpelmblpdbjaaDoor
open Go Go.RowKit Go.Sort Wire

/-- A slice of one value, just made. -/
theorem one_val {w : World} {y : Val} {v3 v4 : Value} (h : ValAt w y v3 v4) :
    ValsAt (w.alloc (.cells #[.int .i64 y.k, .int .i64 y.n, .string ⟨y.s.toArray⟩, v3, v4] 25)) (.slice (some ⟨w.heap.size, 0, none⟩) 1 1) [y] := by
  refine ⟨by simp, _, 1, rfl, fun _ => ⟨w.heap.size, 0, rfl, fun i x hx => ?_⟩⟩
  have hi : i = 0 := by have := (List.getElem?_eq_some_iff.1 hx).1; simp at this; omega
  subst hi
  obtain rfl : y = x := by simpa using hx
  refine ⟨v3, v4, h.on ((Below.refl _ _).alloc (Nat.le_refl _) _), ?_, ?_, ?_, ?_, ?_⟩
  all_goals (rw [Lib.cell_of_heap (heap_alloc_new w _)]; rfl)

set_option maxHeartbeats 2000000 in
set_option maxRecDepth 100000 in
theorem writes_c (y : Val) (v3 v4 : Value) (w : World) (hg : Good w) (hy : ValAt w y v3 v4) :
    Calls Tryd.prog 3 #[y.agg v3 v4] w fun e w' => e = .returned (.bool true) ∧ Below w.heap.size w w' := by
  have hb0 : Below w.heap.size w (w.alloc (.cells #[.int .i64 y.k, .int .i64 y.n, .string ⟨y.s.toArray⟩, v3, v4] 25)) := (Below.refl _ _).alloc (Nat.le_refl _) _
  have hg0 := hg.on hb0
  unfold Val.agg
  go_enter Tryd.func3, Tryd.ntmps3
  go_wp2_with fail
  refine (small_c _ hg0).mono ?_
  rintro e w1 ⟨rfl, hb1⟩
  have hbx := box_there hb1
  have c0 : w1.cell? ⟨w.heap.size, 0, none⟩ = some (.int .i64 y.k) := by rw [Lib.cell_of_heap hbx]; rfl
  have c1 : w1.cell? ⟨w.heap.size, 1, none⟩ = some (.int .i64 y.n) := by rw [Lib.cell_of_heap hbx]; rfl
  have c2 : w1.cell? ⟨w.heap.size, 2, none⟩ = some (.string ⟨y.s.toArray⟩) := by rw [Lib.cell_of_heap hbx]; rfl
  have c3 : w1.cell? ⟨w.heap.size, 3, none⟩ = some v3 := by rw [Lib.cell_of_heap hbx]; rfl
  have c4 : w1.cell? ⟨w.heap.size, 4, none⟩ = some v4 := by rw [Lib.cell_of_heap hbx]; rfl
  have hg1 := hg0.on hb1
  have hbb1 := chain hb0 hb1
  have hy1 := hy.on hbb1
  have hw1 : w.heap.size < w1.heap.size := (Array.getElem?_eq_some_iff.1 hbx).1
  have hov := one_val hy1
  have hb2 : Below w1.heap.size w1 (w1.alloc (.cells #[.int .i64 y.k, .int .i64 y.n, .string ⟨y.s.toArray⟩, v3, v4] 25)) := (Below.refl _ _).alloc (Nat.le_refl _) _
  clear hbx hb1 hb0 hg0 hg hy
  go_wp2_with fail
  refine (few_c [y] _ _ hov).mono ?_
  rintro e w3 ⟨bf, rfl, hfew, hb3⟩
  clear hov
  have hb13 := chain hb2 hb3
  have d1 : w3.cell? ⟨w.heap.size, 1, none⟩ = some (.int .i64 y.n) := (hb13.cell hw1).trans c1
  have d2 : w3.cell? ⟨w.heap.size, 2, none⟩ = some (.string ⟨y.s.toArray⟩) := (hb13.cell hw1).trans c2
  have d3 : w3.cell? ⟨w.heap.size, 3, none⟩ = some v3 := (hb13.cell hw1).trans c3
  have d4 : w3.cell? ⟨w.heap.size, 4, none⟩ = some v4 := (hb13.cell hw1).trans c4
  have hg3 := hg1.on hb13
  have hbb3 := chain hbb1 hb13
  have hy3 := hy1.on hb13
  clear c0 c1 c2 c3 c4 hb2 hb3 hb13 hg1 hy1
  cases bf with
  | false =>
    clear hfew
    go_wp2_with fail
    go_ret
    exact ⟨rfl, hbb3⟩
  | true =>
    have hsz : y.size ≤ 400 := by have := (hfew rfl).2; simpa [total] using this
    clear hfew
    have k1 := cell_regrown d1
    have k2 := cell_regrown d2
    have k3 := cell_regrown d3
    have k4 := cell_regrown d4
    have gr : ∀ d os, Good (grow (redrawn w3 d) os) := fun d os => hg3.on (below_regrown w3 d os)
    have yr : ∀ d os, ValAt (grow (redrawn w3 d) os) y v3 v4 := fun d os => hy3.on (below_regrown w3 d os)
    have q1 : ∀ d os, Calls Tryd.prog 11 #[.int .i64 y.n] (grow (redrawn w3 d) os) fun e w'' => e = .returned (.string ⟨(eNum y.n).toArray⟩) ∧ ∃ p : Regrown, w'' = grow (redrawn w3 p.d) p.os := fun d os => Calls.regrown_of (wNum_c y.n hy3.n _ (gr d os))
    have q2 : ∀ d os, Calls Tryd.prog 12 #[.int .i64 y.n] (grow (redrawn w3 d) os) fun e w'' => e = .returned (.string ⟨(eNum y.n).toArray⟩) ∧ ∃ p : Regrown, w'' = grow (redrawn w3 p.d) p.os := fun d os => Calls.regrown_of (cNum_c y.n hy3.n _)
    have q3 : ∀ d os, Calls Tryd.prog 13 #[.int .i64 y.n] (grow (redrawn w3 d) os) fun e w'' => e = .returned (.string ⟨(eInt y.n).toArray⟩) ∧ ∃ p : Regrown, w'' = grow (redrawn w3 p.d) p.os := fun d os => Calls.regrown_of (wInt_c y.n hy3.n _ (gr d os))
    have q4 : ∀ d os, Calls Tryd.prog 14 #[.int .i64 y.n] (grow (redrawn w3 d) os) fun e w'' => e = .returned (.string ⟨(eInt y.n).toArray⟩) ∧ ∃ p : Regrown, w'' = grow (redrawn w3 p.d) p.os := fun d os => Calls.regrown_of (cInt_c y.n hy3.n _)
    have q5 : ∀ d os, Calls Tryd.prog 15 #[.string ⟨y.s.toArray⟩] (grow (redrawn w3 d) os) fun e w'' => e = .returned (.string ⟨(eText y.s).toArray⟩) ∧ ∃ p : Regrown, w'' = grow (redrawn w3 p.d) p.os := fun d os => Calls.regrown_of (wText_c y.s (small_text hsz) _ (gr d os))
    have q6 : ∀ d os, Calls Tryd.prog 16 #[.string ⟨y.s.toArray⟩] (grow (redrawn w3 d) os) fun e w'' => e = .returned (.string ⟨(eText y.s).toArray⟩) ∧ ∃ p : Regrown, w'' = grow (redrawn w3 p.d) p.os := fun d os => Calls.regrown_of (cText_c y.s (small_text hsz) _)
    have Q1 := Lib.hid q1
    have Q2 := Lib.hid q2
    have Q3 := Lib.hid q3
    have Q4 := Lib.hid q4
    have Q5 := Lib.hid q5
    have Q6 := Lib.hid q6
    clear q1 q2 q3 q4 q5 q6 gr yr
    go_wp2_with fail
    refine wp_region_quiet_below (by kernel_rfl) (by kernel_rfl) ?_
    repeat (quiet_step (first | exact Q1.out _ _ | exact Q2.out _ _ | exact Q3.out _ _ | exact Q4.out _ _ | exact Q5.out _ _ | exact Q6.out _ _))
    refine wpQuiet_nil ?_
    intro _ hw'
    obtain ⟨⟨dq, osq⟩, hw''⟩ := hw'
    subst hw''
    go_wp2_with fail
    have hb4 := below_regrown w3 dq osq
    generalize grow (redrawn w3 dq) osq = w5 at hb4 ⊢
    have hg5 := hg3.on hb4
    have hy5 := hy3.on hb4
    have hbb5 := chain hbb3 hb4
    have e3 : w5.cell? ⟨w.heap.size, 3, none⟩ = some v3 := (hb4.cell (lt_of_cell d3)).trans d3
    have e4 : w5.cell? ⟨w.heap.size, 4, none⟩ = some v4 := (hb4.cell (lt_of_cell d4)).trans d4
    clear k1 k2 k3 k4 d1 d2 d3 d4 Q1 Q2 Q3 Q4 Q5 Q6 hb4
    have k3 := cell_regrown e3
    have k4 := cell_regrown e4
    have gr : ∀ d os, Good (grow (redrawn w5 d) os) := fun d os => hg5.on (below_regrown w5 d os)
    have yr : ∀ d os, ValAt (grow (redrawn w5 d) os) y v3 v4 := fun d os => hy5.on (below_regrown w5 d os)
    have q1 : ∀ d os, Calls Tryd.prog 17 #[v3] (grow (redrawn w5 d) os) fun e w'' => e = .returned (.string ⟨(eList eInt y.l).toArray⟩) ∧ ∃ p : Regrown, w'' = grow (redrawn w5 p.d) p.os := fun d os => Calls.regrown_of (wNums_c y.l v3 hy5.hl (small_nums hsz hy5.hl) _ (gr d os) (yr d os).l)
    have q2 : ∀ d os, Calls Tryd.prog 18 #[v3] (grow (redrawn w5 d) os) fun e w'' => e = .returned (.string ⟨(eList eInt y.l).toArray⟩) ∧ ∃ p : Regrown, w'' = grow (redrawn w5 p.d) p.os := fun d os => Calls.regrown_of (cNums_c y.l v3 hy5.hl (small_nums hsz hy5.hl) _ (yr d os).l)
    have q3 : ∀ d os, Calls Tryd.prog 19 #[v4] (grow (redrawn w5 d) os) fun e w'' => e = .returned (.string ⟨(eList eText y.t).toArray⟩) ∧ ∃ p : Regrown, w'' = grow (redrawn w5 p.d) p.os := fun d os => Calls.regrown_of (wTexts_c y.t v4 (small_texts hsz) _ (gr d os) (yr d os).t)
    have q4 : ∀ d os, Calls Tryd.prog 20 #[v4] (grow (redrawn w5 d) os) fun e w'' => e = .returned (.string ⟨(eList eText y.t).toArray⟩) ∧ ∃ p : Regrown, w'' = grow (redrawn w5 p.d) p.os := fun d os => Calls.regrown_of (cTexts_c y.t v4 (small_texts hsz) _ (yr d os).t)
    have Q1 := Lib.hid q1
    have Q2 := Lib.hid q2
    have Q3 := Lib.hid q3
    have Q4 := Lib.hid q4
    clear q1 q2 q3 q4 gr yr
    refine wp_region_quiet_below (by kernel_rfl) (by kernel_rfl) ?_
    repeat (quiet_step (first | exact Q1.out _ _ | exact Q2.out _ _ | exact Q3.out _ _ | exact Q4.out _ _))
    refine wpQuiet_nil ?_
    intro _ hw'
    obtain ⟨⟨dq2, osq2⟩, hw''⟩ := hw'
    subst hw''
    go_wp2_with fail
    go_ret
    exact ⟨rfl, chain hbb5 (below_regrown w5 dq2 osq2)⟩
end Go.Proofs.YtlfpelmblpdbjaaDoor
