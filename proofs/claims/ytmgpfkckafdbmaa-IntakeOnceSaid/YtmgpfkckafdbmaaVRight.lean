/-
  Int, Text, Bool, Zero and Right of package value: each returns what chapter 3 says; of what was there nothing has turned.
-/
import Derived.Test.YtmgpfkckafdbmaaVText
import Derived.Test.YtmgpfkckafdbmaaWords
import Derived.Deep.QuietTactic
import Derived.BigQuiet
import Derived.Lib.QuietBelow
import Derived.Laws.StructEq
import Derived.Handy
namespace Go.Proofs.Ytmgpfkckafdbmaa
open Go Go.RowKit Go.Sort Wire Txt Vl

/-- A world with one more variable that holds a value. -/
def boxed (w : World) (k n : Int) (s : List UInt8) : World := w.alloc (.cells #[.int .i64 k, .int .i64 n, .string ⟨s.toArray⟩] 55)
theorem boxed_below (w : World) (k n : Int) (s : List UInt8) : Below w.heap.size w (boxed w k n s) := (Below.refl _ _).alloc (Nat.le_refl _) _
theorem boxed_heap (w : World) (k n : Int) (s : List UInt8) : (boxed w k n s).heap[w.heap.size]? = some (.cells #[.int .i64 k, .int .i64 n, .string ⟨s.toArray⟩] 55 (0, 0)) := heap_alloc_new w _
theorem boxed_0 (w : World) (k n : Int) (s : List UInt8) : (boxed w k n s).cell? ⟨w.heap.size, 0, none⟩ = some (.int .i64 k) := by rw [Lib.cell_of_heap (boxed_heap w k n s)]; rfl
theorem boxed_1 (w : World) (k n : Int) (s : List UInt8) : (boxed w k n s).cell? ⟨w.heap.size, 1, none⟩ = some (.int .i64 n) := by rw [Lib.cell_of_heap (boxed_heap w k n s)]; rfl
theorem boxed_2 (w : World) (k n : Int) (s : List UInt8) : (boxed w k n s).cell? ⟨w.heap.size, 2, none⟩ = some (.string ⟨s.toArray⟩) := by rw [Lib.cell_of_heap (boxed_heap w k n s)]; rfl

theorem vInt_c (n : Int) (w : World) : Calls Try.prog 57 #[.int .i64 n] w fun e w' => e = .returned (.agg #[.int .i64 0, .int .i64 n, .string ⟨#[]⟩]) ∧ Below w.heap.size w w' := by
  go_enter Try.func57, Try.ntmps57
  go_wp2_with fail
  go_returns
  exact ⟨rfl, by go_grown⟩
theorem vText_c (s : List UInt8) (w : World) : Calls Try.prog 58 #[.string ⟨s.toArray⟩] w fun e w' => e = .returned (.agg #[.int .i64 1, .int .i64 0, .string ⟨s.toArray⟩]) ∧ Below w.heap.size w w' := by
  go_enter Try.func58, Try.ntmps58
  go_wp2_with fail
  go_returns
  exact ⟨rfl, by go_grown⟩
theorem vBool_c (b : Bool) (w : World) : Calls Try.prog 59 #[.bool b] w fun e w' => e = .returned (.agg #[.int .i64 2, .int .i64 (if b then 1 else 0), .string ⟨#[]⟩]) ∧ Below w.heap.size w w' := by
  cases b with
  | true =>
    go_enter Try.func59, Try.ntmps59
    go_wp2_with fail
    go_returns
    exact ⟨rfl, by go_grown⟩
  | false =>
    go_enter Try.func59, Try.ntmps59
    go_wp2_with fail
    go_returns
    exact ⟨rfl, by go_grown⟩
set_option maxRecDepth 100000 in
theorem right_int0 (n : Int) (w : World) : Calls Try.prog 53 #[.agg #[.int .i64 0, .int .i64 n, .string ⟨#[]⟩]] w fun e w' => e = .returned (.bool true) ∧ Below w.heap.size w w' := by
  have b0 := boxed_0 w 0 n []
  have b1 := boxed_1 w 0 n []
  have b2 := boxed_2 w 0 n []
  have hb := boxed_below w 0 n []
  obtain ⟨w1, hw1⟩ : ∃ w1, w1 = boxed w 0 n [] := ⟨_, rfl⟩
  rw [← hw1] at b0 b1 b2 hb
  have hw2 : w.alloc (.cells #[.int .i64 0, .int .i64 n, .string ⟨#[]⟩] 55) = w1 := hw1.symm
  have k0 := cell_regrown b0
  have k1 := cell_regrown b1
  have k2 := cell_regrown b2
  have q1 : ∀ d os, Calls Try.prog 57 #[.int .i64 n] (grow (redrawn w1 d) os) fun e w'' => e = .returned (.agg #[.int .i64 0, .int .i64 n, .string ⟨#[]⟩]) ∧ ∃ p : Regrown, w'' = grow (redrawn w1 p.d) p.os := fun d os => Calls.regrown_of (vInt_c n _)
  have Q1 := Lib.hid q1
  have Q2 := Q1
  clear q1 hw1
  go_enter Try.func53, Try.ntmps53
  go_wp2_with fail
  clear b0 b1 b2
  refine wp_region_quiet_below (by kernel_rfl) (by kernel_rfl) ?_
  repeat (quiet_step (first | exact Q1.out _ _ | exact Q2.out _ _))
  refine wpQuiet_nil ?_
  intro _ hw'
  obtain ⟨⟨dq, osq⟩, hw''⟩ := hw'
  subst hw''
  go_wp2_with fail
  go_ret
  exact ⟨rfl, chain hb (below_regrown w1 dq osq)⟩
set_option maxRecDepth 100000 in
theorem right_int1 (n : Int) (s : List UInt8) (w : World) (hs : ¬ s = []) : Calls Try.prog 53 #[.agg #[.int .i64 0, .int .i64 n, .string ⟨s.toArray⟩]] w fun e w' => e = .returned (.bool false) ∧ Below w.heap.size w w' := by
  have b0 := boxed_0 w 0 n s
  have b1 := boxed_1 w 0 n s
  have b2 := boxed_2 w 0 n s
  have hb := boxed_below w 0 n s
  obtain ⟨w1, hw1⟩ : ∃ w1, w1 = boxed w 0 n s := ⟨_, rfl⟩
  rw [← hw1] at b0 b1 b2 hb
  have hw2 : w.alloc (.cells #[.int .i64 0, .int .i64 n, .string ⟨s.toArray⟩] 55) = w1 := hw1.symm
  have k0 := cell_regrown b0
  have k1 := cell_regrown b1
  have k2 := cell_regrown b2
  have q1 : ∀ d os, Calls Try.prog 57 #[.int .i64 n] (grow (redrawn w1 d) os) fun e w'' => e = .returned (.agg #[.int .i64 0, .int .i64 n, .string ⟨#[]⟩]) ∧ ∃ p : Regrown, w'' = grow (redrawn w1 p.d) p.os := fun d os => Calls.regrown_of (vInt_c n _)
  have Q1 := Lib.hid q1
  have Q2 := Q1
  clear q1 hw1
  go_enter Try.func53, Try.ntmps53
  go_wp2_with fail
  clear b0 b1 b2
  refine wp_region_quiet_below (by kernel_rfl) (by kernel_rfl) ?_
  repeat (quiet_step (first | exact Q1.out _ _ | exact Q2.out _ _))
  refine wpQuiet_nil ?_
  intro _ hw'
  obtain ⟨⟨dq, osq⟩, hw''⟩ := hw'
  subst hw''
  go_wp2_with fail
  go_ret
  exact ⟨rfl, chain hb (below_regrown w1 dq osq)⟩
set_option maxRecDepth 100000 in
theorem right_text0 (s : List UInt8) (w : World) (hs : s.length ≤ 200) : Calls Try.prog 53 #[.agg #[.int .i64 1, .int .i64 0, .string ⟨s.toArray⟩]] w fun e w' => e = .returned (.bool true) ∧ Below w.heap.size w w' := by
  have b0 := boxed_0 w 1 0 s
  have b1 := boxed_1 w 1 0 s
  have b2 := boxed_2 w 1 0 s
  have hb := boxed_below w 1 0 s
  obtain ⟨w1, hw1⟩ : ∃ w1, w1 = boxed w 1 0 s := ⟨_, rfl⟩
  rw [← hw1] at b0 b1 b2 hb
  have hw2 : w.alloc (.cells #[.int .i64 1, .int .i64 0, .string ⟨s.toArray⟩] 55) = w1 := hw1.symm
  have k0 := cell_regrown b0
  have k1 := cell_regrown b1
  have k2 := cell_regrown b2
  have q1 : ∀ d os, Calls Try.prog 58 #[.string ⟨s.toArray⟩] (grow (redrawn w1 d) os) fun e w'' => e = .returned (.agg #[.int .i64 1, .int .i64 0, .string ⟨s.toArray⟩]) ∧ ∃ p : Regrown, w'' = grow (redrawn w1 p.d) p.os := fun d os => Calls.regrown_of (vText_c s _)
  have Q1 := Lib.hid q1
  have Q2 := Q1
  clear q1 hw1
  go_enter Try.func53, Try.ntmps53
  go_wp2_with fail
  clear b0 b1 b2
  refine wp_region_quiet_below (by kernel_rfl) (by kernel_rfl) ?_
  repeat (quiet_step (first | exact Q1.out _ _ | exact Q2.out _ _))
  refine wpQuiet_nil ?_
  intro _ hw'
  obtain ⟨⟨dq, osq⟩, hw''⟩ := hw'
  subst hw''
  go_wp2_with fail
  go_ret
  exact ⟨ret_bool (by simp; omega), chain hb (below_regrown w1 dq osq)⟩
set_option maxRecDepth 100000 in
theorem right_text1 (s : List UInt8) (w : World) (hs : ¬ s.length ≤ 200) : Calls Try.prog 53 #[.agg #[.int .i64 1, .int .i64 0, .string ⟨s.toArray⟩]] w fun e w' => e = .returned (.bool false) ∧ Below w.heap.size w w' := by
  have b0 := boxed_0 w 1 0 s
  have b1 := boxed_1 w 1 0 s
  have b2 := boxed_2 w 1 0 s
  have hb := boxed_below w 1 0 s
  obtain ⟨w1, hw1⟩ : ∃ w1, w1 = boxed w 1 0 s := ⟨_, rfl⟩
  rw [← hw1] at b0 b1 b2 hb
  have hw2 : w.alloc (.cells #[.int .i64 1, .int .i64 0, .string ⟨s.toArray⟩] 55) = w1 := hw1.symm
  have k0 := cell_regrown b0
  have k1 := cell_regrown b1
  have k2 := cell_regrown b2
  have q1 : ∀ d os, Calls Try.prog 58 #[.string ⟨s.toArray⟩] (grow (redrawn w1 d) os) fun e w'' => e = .returned (.agg #[.int .i64 1, .int .i64 0, .string ⟨s.toArray⟩]) ∧ ∃ p : Regrown, w'' = grow (redrawn w1 p.d) p.os := fun d os => Calls.regrown_of (vText_c s _)
  have Q1 := Lib.hid q1
  have Q2 := Q1
  clear q1 hw1
  go_enter Try.func53, Try.ntmps53
  go_wp2_with fail
  clear b0 b1 b2
  refine wp_region_quiet_below (by kernel_rfl) (by kernel_rfl) ?_
  repeat (quiet_step (first | exact Q1.out _ _ | exact Q2.out _ _))
  refine wpQuiet_nil ?_
  intro _ hw'
  obtain ⟨⟨dq, osq⟩, hw''⟩ := hw'
  subst hw''
  go_wp2_with fail
  go_ret
  exact ⟨ret_bool (by simp; omega), chain hb (below_regrown w1 dq osq)⟩
set_option maxRecDepth 100000 in
theorem right_text2 (n : Int) (s : List UInt8) (w : World) (hn : ¬ n = 0) : Calls Try.prog 53 #[.agg #[.int .i64 1, .int .i64 n, .string ⟨s.toArray⟩]] w fun e w' => e = .returned (.bool false) ∧ Below w.heap.size w w' := by
  have b0 := boxed_0 w 1 n s
  have b1 := boxed_1 w 1 n s
  have b2 := boxed_2 w 1 n s
  have hb := boxed_below w 1 n s
  obtain ⟨w1, hw1⟩ : ∃ w1, w1 = boxed w 1 n s := ⟨_, rfl⟩
  rw [← hw1] at b0 b1 b2 hb
  have hw2 : w.alloc (.cells #[.int .i64 1, .int .i64 n, .string ⟨s.toArray⟩] 55) = w1 := hw1.symm
  have k0 := cell_regrown b0
  have k1 := cell_regrown b1
  have k2 := cell_regrown b2
  have q1 : ∀ d os, Calls Try.prog 58 #[.string ⟨s.toArray⟩] (grow (redrawn w1 d) os) fun e w'' => e = .returned (.agg #[.int .i64 1, .int .i64 0, .string ⟨s.toArray⟩]) ∧ ∃ p : Regrown, w'' = grow (redrawn w1 p.d) p.os := fun d os => Calls.regrown_of (vText_c s _)
  have Q1 := Lib.hid q1
  have Q2 := Q1
  clear q1 hw1
  go_enter Try.func53, Try.ntmps53
  go_wp2_with fail
  clear b0 b1 b2
  refine wp_region_quiet_below (by kernel_rfl) (by kernel_rfl) ?_
  repeat (quiet_step (first | exact Q1.out _ _ | exact Q2.out _ _))
  refine wpQuiet_nil ?_
  intro _ hw'
  obtain ⟨⟨dq, osq⟩, hw''⟩ := hw'
  subst hw''
  go_wp2_with fail
  go_ret
  exact ⟨rfl, chain hb (below_regrown w1 dq osq)⟩
set_option maxRecDepth 100000 in
theorem right_bool0  (w : World) : Calls Try.prog 53 #[.agg #[.int .i64 2, .int .i64 0, .string ⟨#[]⟩]] w fun e w' => e = .returned (.bool true) ∧ Below w.heap.size w w' := by
  have b0 := boxed_0 w 2 0 []
  have b1 := boxed_1 w 2 0 []
  have b2 := boxed_2 w 2 0 []
  have hb := boxed_below w 2 0 []
  obtain ⟨w1, hw1⟩ : ∃ w1, w1 = boxed w 2 0 [] := ⟨_, rfl⟩
  rw [← hw1] at b0 b1 b2 hb
  have hw2 : w.alloc (.cells #[.int .i64 2, .int .i64 0, .string ⟨#[]⟩] 55) = w1 := hw1.symm
  have k0 := cell_regrown b0
  have k1 := cell_regrown b1
  have k2 := cell_regrown b2
  have q1 : ∀ (b : Bool) d os, Calls Try.prog 59 #[.bool b] (grow (redrawn w1 d) os) fun e w'' => e = .returned (.agg #[.int .i64 2, .int .i64 (if b then 1 else 0), .string ⟨#[]⟩]) ∧ ∃ p : Regrown, w'' = grow (redrawn w1 p.d) p.os := fun b d os => Calls.regrown_of (vBool_c b _)
  have Q1 := Lib.hid (q1 false)
  have Q2 := Lib.hid (q1 true)
  clear q1 hw1
  go_enter Try.func53, Try.ntmps53
  go_wp2_with fail
  clear b0 b1 b2
  refine wp_region_quiet_below (by kernel_rfl) (by kernel_rfl) ?_
  repeat (quiet_step (first | exact Q1.out _ _ | exact Q2.out _ _))
  refine wpQuiet_nil ?_
  intro _ hw'
  obtain ⟨⟨dq, osq⟩, hw''⟩ := hw'
  subst hw''
  go_wp2_with fail
  go_ret
  exact ⟨rfl, chain hb (below_regrown w1 dq osq)⟩
set_option maxRecDepth 100000 in
theorem right_bool1  (w : World) : Calls Try.prog 53 #[.agg #[.int .i64 2, .int .i64 1, .string ⟨#[]⟩]] w fun e w' => e = .returned (.bool true) ∧ Below w.heap.size w w' := by
  have b0 := boxed_0 w 2 1 []
  have b1 := boxed_1 w 2 1 []
  have b2 := boxed_2 w 2 1 []
  have hb := boxed_below w 2 1 []
  obtain ⟨w1, hw1⟩ : ∃ w1, w1 = boxed w 2 1 [] := ⟨_, rfl⟩
  rw [← hw1] at b0 b1 b2 hb
  have hw2 : w.alloc (.cells #[.int .i64 2, .int .i64 1, .string ⟨#[]⟩] 55) = w1 := hw1.symm
  have k0 := cell_regrown b0
  have k1 := cell_regrown b1
  have k2 := cell_regrown b2
  have q1 : ∀ (b : Bool) d os, Calls Try.prog 59 #[.bool b] (grow (redrawn w1 d) os) fun e w'' => e = .returned (.agg #[.int .i64 2, .int .i64 (if b then 1 else 0), .string ⟨#[]⟩]) ∧ ∃ p : Regrown, w'' = grow (redrawn w1 p.d) p.os := fun b d os => Calls.regrown_of (vBool_c b _)
  have Q1 := Lib.hid (q1 false)
  have Q2 := Lib.hid (q1 true)
  clear q1 hw1
  go_enter Try.func53, Try.ntmps53
  go_wp2_with fail
  clear b0 b1 b2
  refine wp_region_quiet_below (by kernel_rfl) (by kernel_rfl) ?_
  repeat (quiet_step (first | exact Q1.out _ _ | exact Q2.out _ _))
  refine wpQuiet_nil ?_
  intro _ hw'
  obtain ⟨⟨dq, osq⟩, hw''⟩ := hw'
  subst hw''
  go_wp2_with fail
  go_ret
  exact ⟨rfl, chain hb (below_regrown w1 dq osq)⟩
set_option maxRecDepth 100000 in
theorem right_bool2 (n : Int) (w : World) (h0 : ¬ n = 0) (h1 : ¬ n = 1) : Calls Try.prog 53 #[.agg #[.int .i64 2, .int .i64 n, .string ⟨#[]⟩]] w fun e w' => e = .returned (.bool false) ∧ Below w.heap.size w w' := by
  have b0 := boxed_0 w 2 n []
  have b1 := boxed_1 w 2 n []
  have b2 := boxed_2 w 2 n []
  have hb := boxed_below w 2 n []
  obtain ⟨w1, hw1⟩ : ∃ w1, w1 = boxed w 2 n [] := ⟨_, rfl⟩
  rw [← hw1] at b0 b1 b2 hb
  have hw2 : w.alloc (.cells #[.int .i64 2, .int .i64 n, .string ⟨#[]⟩] 55) = w1 := hw1.symm
  have k0 := cell_regrown b0
  have k1 := cell_regrown b1
  have k2 := cell_regrown b2
  have q1 : ∀ (b : Bool) d os, Calls Try.prog 59 #[.bool b] (grow (redrawn w1 d) os) fun e w'' => e = .returned (.agg #[.int .i64 2, .int .i64 (if b then 1 else 0), .string ⟨#[]⟩]) ∧ ∃ p : Regrown, w'' = grow (redrawn w1 p.d) p.os := fun b d os => Calls.regrown_of (vBool_c b _)
  have Q1 := Lib.hid (q1 false)
  have Q2 := Lib.hid (q1 true)
  clear q1 hw1
  go_enter Try.func53, Try.ntmps53
  go_wp2_with fail
  clear b0 b1 b2
  refine wp_region_quiet_below (by kernel_rfl) (by kernel_rfl) ?_
  repeat (quiet_step (first | exact Q1.out _ _ | exact Q2.out _ _))
  refine wpQuiet_nil ?_
  intro _ hw'
  obtain ⟨⟨dq, osq⟩, hw''⟩ := hw'
  subst hw''
  go_wp2_with fail
  go_ret
  exact ⟨rfl, chain hb (below_regrown w1 dq osq)⟩
set_option maxRecDepth 100000 in
theorem right_bool3 (n : Int) (s : List UInt8) (w : World) (hs : ¬ s = []) : Calls Try.prog 53 #[.agg #[.int .i64 2, .int .i64 n, .string ⟨s.toArray⟩]] w fun e w' => e = .returned (.bool false) ∧ Below w.heap.size w w' := by
  have b0 := boxed_0 w 2 n s
  have b1 := boxed_1 w 2 n s
  have b2 := boxed_2 w 2 n s
  have hb := boxed_below w 2 n s
  obtain ⟨w1, hw1⟩ : ∃ w1, w1 = boxed w 2 n s := ⟨_, rfl⟩
  rw [← hw1] at b0 b1 b2 hb
  have hw2 : w.alloc (.cells #[.int .i64 2, .int .i64 n, .string ⟨s.toArray⟩] 55) = w1 := hw1.symm
  have k0 := cell_regrown b0
  have k1 := cell_regrown b1
  have k2 := cell_regrown b2
  have q1 : ∀ (b : Bool) d os, Calls Try.prog 59 #[.bool b] (grow (redrawn w1 d) os) fun e w'' => e = .returned (.agg #[.int .i64 2, .int .i64 (if b then 1 else 0), .string ⟨#[]⟩]) ∧ ∃ p : Regrown, w'' = grow (redrawn w1 p.d) p.os := fun b d os => Calls.regrown_of (vBool_c b _)
  have Q1 := Lib.hid (q1 false)
  have Q2 := Lib.hid (q1 true)
  clear q1 hw1
  go_enter Try.func53, Try.ntmps53
  go_wp2_with fail
  clear b0 b1 b2
  refine wp_region_quiet_below (by kernel_rfl) (by kernel_rfl) ?_
  repeat (quiet_step (first | exact Q1.out _ _ | exact Q2.out _ _))
  refine wpQuiet_nil ?_
  intro _ hw'
  obtain ⟨⟨dq, osq⟩, hw''⟩ := hw'
  subst hw''
  go_wp2_with fail
  go_ret
  exact ⟨rfl, chain hb (below_regrown w1 dq osq)⟩
theorem right_none (k n : Int) (s : List UInt8) (w : World) (h0 : ¬ k = 0) (h1 : ¬ k = 1) (h2 : ¬ k = 2) : Calls Try.prog 53 #[.agg #[.int .i64 k, .int .i64 n, .string ⟨s.toArray⟩]] w fun e w' => e = .returned (.bool false) ∧ Below w.heap.size w w' := by
  have b0 := boxed_0 w k n s
  have hb := boxed_below w k n s
  obtain ⟨w1, hw1⟩ : ∃ w1, w1 = boxed w k n s := ⟨_, rfl⟩
  rw [← hw1] at b0 hb
  have hw2 : w.alloc (.cells #[.int .i64 k, .int .i64 n, .string ⟨s.toArray⟩] 55) = w1 := hw1.symm
  clear hw1
  go_enter Try.func53, Try.ntmps53
  go_wp2_with fail
  go_ret
  exact ⟨rfl, hb⟩
theorem right_c (k n : Int) (s : List UInt8) (w : World) : Calls Try.prog 53 #[.agg #[.int .i64 k, .int .i64 n, .string ⟨s.toArray⟩]] w fun e w' => e = .returned (.bool (rightV ⟨k, n, s⟩)) ∧ Below w.heap.size w w' := by
  by_cases h0 : k = 0
  · subst h0
    by_cases hs : s = []
    · subst hs
      exact (right_int0 n w).mono fun e w' ⟨he, hb⟩ => ⟨by rw [he]; exact ret_bool (by simp [rightV]), hb⟩
    · exact (right_int1 n s w hs).mono fun e w' ⟨he, hb⟩ => ⟨by rw [he]; exact ret_bool (by simp [rightV, hs]), hb⟩
  · by_cases h1 : k = 1
    · subst h1
      by_cases hn : n = 0
      · subst hn
        by_cases hs : s.length ≤ 200
        · exact (right_text0 s w hs).mono fun e w' ⟨he, hb⟩ => ⟨by rw [he]; exact ret_bool (by simp [rightV, hs]), hb⟩
        · exact (right_text1 s w hs).mono fun e w' ⟨he, hb⟩ => ⟨by rw [he]; exact ret_bool (by simp [rightV]; omega), hb⟩
      · exact (right_text2 n s w hn).mono fun e w' ⟨he, hb⟩ => ⟨by rw [he]; exact ret_bool (by simp [rightV, hn]), hb⟩
    · by_cases h2 : k = 2
      · subst h2
        by_cases hs : s = []
        · subst hs
          by_cases hn : n = 0
          · subst hn
            exact (right_bool0 w).mono fun e w' ⟨he, hb⟩ => ⟨by rw [he]; exact ret_bool (by simp [rightV]), hb⟩
          · by_cases hm : n = 1
            · subst hm
              exact (right_bool1 w).mono fun e w' ⟨he, hb⟩ => ⟨by rw [he]; exact ret_bool (by simp [rightV]), hb⟩
            · exact (right_bool2 n w hn hm).mono fun e w' ⟨he, hb⟩ => ⟨by rw [he]; exact ret_bool (by simp [rightV, hn, hm]), hb⟩
        · exact (right_bool3 n s w hs).mono fun e w' ⟨he, hb⟩ => ⟨by rw [he]; exact ret_bool (by simp [rightV, hs]), hb⟩
      · exact (right_none k n s w h0 h1 h2).mono fun e w' ⟨he, hb⟩ => ⟨by rw [he]; exact ret_bool (by simp [rightV, h0, h1, h2]), hb⟩

end Go.Proofs.Ytmgpfkckafdbmaa
