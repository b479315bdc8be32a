/-
  The partition's own numbers: Now, Top, Closed, Mark, Next, Refused, Count; times.
-/
import Derived.Test.YtmgpfkckafdbmaaIMem
namespace Go.Proofs.Ytmgpfkckafdbmaa
set_option maxRecDepth 100000
open Go Go.RowKit

/-- What of a partition's numbers is small. -/
structure Sm (c : In.C) (s : In.St) : Prop where
  c : c.right
  now : Pq.inB s.now
  top : -1 ≤ s.top ∧ s.top ≤ 1099511627776
theorem IxAt.drewN {G : Nat → Prop} {w : World} {b : Nat} {c : In.C} {p : IP} {s : In.St} (h : IxAt G w b c p s) (n : Nat) : IxAt G (w.drewN n) b c p s := h.on ⟨rfl, rfl, rfl, Nat.le_refl _, fun _ _ => rfl⟩
theorem drew_below (w : World) (n : Nat) : Below w.heap.size w (w.drewN n) := ⟨rfl, rfl, rfl, Nat.le_refl _, fun _ _ => rfl⟩
theorem drew_kept (S : Nat → Prop) (w : World) (n : Nat) : Kept S w (w.drewN n) := Kept.below (drew_below w n)
section
variable {G : Nat → Prop} {w : World} {b : Nat} {c : In.C} {p : IP} {s : In.St}
theorem now_cI (h : IxAt G w b c p s) : Calls Try.prog 14 #[.pointer (some ⟨b, 0, none⟩)] w fun e w' => e = .returned (.int .i64 s.now) ∧ w' = w := by
  have hc := h.cells
  have c7 := hc.c7
  clear h hc
  go_enter Try.func14, Try.ntmps14
  go_wp2_with fail
  go_ret
  exact ⟨rfl, rfl⟩
theorem top_cI (h : IxAt G w b c p s) : Calls Try.prog 12 #[.pointer (some ⟨b, 0, none⟩)] w fun e w' => e = .returned (.int .i64 s.top) ∧ w' = w := by
  have hc := h.cells
  have c8 := hc.c8
  clear h hc
  go_enter Try.func12, Try.ntmps12
  go_wp2_with fail
  go_ret
  exact ⟨rfl, rfl⟩
theorem next_cI (h : IxAt G w b c p s) : Calls Try.prog 16 #[.pointer (some ⟨b, 0, none⟩)] w fun e w' => e = .returned (.int .i64 s.next) ∧ w' = w := by
  have hc := h.cells
  have c9 := hc.c9
  clear h hc
  go_enter Try.func16, Try.ntmps16
  go_wp2_with fail
  go_ret
  exact ⟨rfl, rfl⟩
theorem refused_cI (h : IxAt G w b c p s) : Calls Try.prog 18 #[.pointer (some ⟨b, 0, none⟩)] w fun e w' => e = .returned (.int .i64 s.refused) ∧ w' = w := by
  have hc := h.cells
  have c10 := hc.c10
  clear h hc
  go_enter Try.func18, Try.ntmps18
  go_wp2_with fail
  go_ret
  exact ⟨rfl, rfl⟩
theorem closed_cI (h : IxAt G w b c p s) (hs : Sm c s) : Calls Try.prog 10 #[.pointer (some ⟨b, 0, none⟩)] w fun e w' => e = .returned (.int .i64 (In.closed c s)) ∧ ∃ m, w' = w.drewN m := by
  have hc := h.cells
  have c8 := hc.c8
  have c2 := hc.c2
  obtain ⟨hr, _, ht⟩ := hs
  unfold In.C.right at hr
  obtain ⟨K, hK⟩ : ∃ K, K = In.closed c s := ⟨_, rfl⟩
  have hm : max (-1) (s.top - c.late - 1) = K := by rw [hK]; rfl
  have hw1 : IntKind.i64.wrap (s.top - c.late) = s.top - c.late := by rw [IntKind.wrap_i64]; omega
  have hw2 : IntKind.i64.wrap (s.top - c.late - 1) = s.top - c.late - 1 := by rw [IntKind.wrap_i64]; omega
  rw [← hK]
  clear h hc hr ht hK
  go_enter Try.func10, Try.ntmps10
  go_wp2_with fail
  go_region
  all_goals (go_wp2_with fail)
  all_goals go_ret
  all_goals exact ⟨rfl, 1, rfl⟩
theorem mark_cI (h : IxAt G w b c p s) (hs : Sm c s) : Calls Try.prog 11 #[.pointer (some ⟨b, 0, none⟩)] w fun e w' => e = .returned (.int .i64 (In.mark c s)) ∧ ∃ m, w' = w.drewN m := by
  have hc := h.cells
  have c8 := hc.c8
  have c1 := hc.c1
  obtain ⟨hr, _, ht⟩ := hs
  unfold In.C.right at hr
  obtain ⟨K, hK⟩ : ∃ K, K = In.mark c s := ⟨_, rfl⟩
  have hm : max (-1) (s.top - c.delay - 1) = K := by rw [hK]; rfl
  have hw1 : IntKind.i64.wrap (s.top - c.delay) = s.top - c.delay := by rw [IntKind.wrap_i64]; omega
  have hw2 : IntKind.i64.wrap (s.top - c.delay - 1) = s.top - c.delay - 1 := by rw [IntKind.wrap_i64]; omega
  rw [← hK]
  clear h hc hr ht hK
  go_enter Try.func11, Try.ntmps11
  go_wp2_with fail
  go_region
  all_goals (go_wp2_with fail)
  all_goals go_ret
  all_goals exact ⟨rfl, 1, rfl⟩
theorem count_cI (h : IxAt G w b c p s) {t : Int} (ht : I64 t) : Calls Try.prog 15 #[.pointer (some ⟨b, 0, none⟩), .int .i64 t] w fun e w' => e = .returned (.int .i64 (In.cnt s.cs t)) ∧ w' = w := by
  have hc := h.cells
  have c12 := hc.c12
  have hl := h.cs.look ht
  clear h hc
  go_enter Try.func15, Try.ntmps15
  go_wp2_with fail
  go_ret
  exact ⟨rfl, rfl⟩
theorem timely_c (w : World) (n : Int) : Calls Try.prog 32 #[.int .i64 n] w fun e w' => e = .returned (.bool (decide (Pq.inB n))) ∧ w' = w := by
  by_cases h0 : 0 ≤ n
  · by_cases h1 : n ≤ 1099511627776
    · have hd : decide (Pq.inB n) = true := decide_eq_true ⟨h0, h1⟩
      rw [hd]
      go_enter Try.func32, Try.ntmps32
      go_wp2_with fail
      go_ret
      exact ⟨rfl, rfl⟩
    · have hd : decide (Pq.inB n) = false := decide_eq_false (fun f => h1 f.2)
      rw [hd]
      go_enter Try.func32, Try.ntmps32
      go_wp2_with fail
      go_ret
      exact ⟨rfl, rfl⟩
  · have hd : decide (Pq.inB n) = false := decide_eq_false (fun f => h0 f.1)
    rw [hd]
    go_enter Try.func32, Try.ntmps32
    go_wp2_with fail
    go_ret
    exact ⟨rfl, rfl⟩
theorem checkTime_c (w : World) (n : Int) : Calls Try.prog 27 #[.int .i64 n] w fun e w' => e = .returned (.int .i64 (if Pq.inB n then 0 else 3)) ∧ w' = w := by
  have Q := Lib.hid (timely_c w n)
  by_cases h0 : Pq.inB n
  · rw [if_pos h0]
    have hd := Lib.hid (decide_eq_true h0)
    clear h0
    go_enter Try.func27, Try.ntmps27
    go_wp2_with (go_at_call 32; refine Q.out.mono ?_; rintro e w1 ⟨rfl, hw⟩; rw [hw, hd.out]; clear hw)
    go_ret
    exact ⟨rfl, rfl⟩
  · rw [if_neg h0]
    have hd := Lib.hid (decide_eq_false h0)
    clear h0
    go_enter Try.func27, Try.ntmps27
    go_wp2_with (go_at_call 32; refine Q.out.mono ?_; rintro e w1 ⟨rfl, hw⟩; rw [hw, hd.out]; clear hw)
    go_ret
    exact ⟨rfl, rfl⟩
theorem ahead_c (h : IxAt G w b c p s) (hs : Sm c s) (n : Int) : Calls Try.prog 34 #[.pointer (some ⟨b, 0, none⟩), .int .i64 n] w fun e w' => e = .returned (.bool (decide (s.now + c.ahead < n))) ∧ ∃ m, w' = w.drewN m := by
  have hc := h.cells
  have c7 := hc.c7
  have c3 := hc.c3
  obtain ⟨hr, hn, _⟩ := hs
  unfold In.C.right at hr
  unfold Pq.inB at hn
  have hw1 : IntKind.i64.wrap (s.now + c.ahead) = s.now + c.ahead := by rw [IntKind.wrap_i64]; omega
  clear h hc hr hn
  go_enter Try.func34, Try.ntmps34
  go_wp2_with fail
  go_quiet (fail)
  go_wp2_with fail
  go_ret
  exact ⟨rfl, nq, rfl⟩
theorem checkIdle_c (h : IxAt G w b c p s) (hs : Sm c s) (n : Int) : Calls Try.prog 26 #[.pointer (some ⟨b, 0, none⟩), .int .i64 n] w fun e w' => e = .returned (.int .i64 (if ¬ Pq.inB n then 3 else if s.now + c.ahead < n then 21 else 0)) ∧ ∃ m, w' = w.drewN m := by
  have Q1 := Lib.hid (checkTime_c w n)
  have Q2 := Lib.hid (ahead_c h hs n)
  clear h hs
  by_cases h0 : Pq.inB n
  · have h1 := Lib.hid (show (if Pq.inB n then (0 : Int) else 3) = 0 from if_pos h0)
    rw [if_neg (fun f => f h0)]
    clear h0
    by_cases h2 : s.now + c.ahead < n
    · rw [if_pos h2]
      have h3 := Lib.hid (decide_eq_true h2)
      clear h2
      go_enter Try.func26, Try.ntmps26
      go_wp2_with (first | (go_at_call 27; refine Q1.out.mono ?_; rintro e w1 ⟨rfl, hw⟩; rw [hw, h1.out]; clear hw) | (go_at_call 34; refine Q2.out.mono ?_; rintro e w1 ⟨rfl, m, hb⟩; rw [h3.out, hb]; clear hb))
      go_ret
      exact ⟨rfl, m, rfl⟩
    · rw [if_neg h2]
      have h3 := Lib.hid (decide_eq_false h2)
      clear h2
      go_enter Try.func26, Try.ntmps26
      go_wp2_with (first | (go_at_call 27; refine Q1.out.mono ?_; rintro e w1 ⟨rfl, hw⟩; rw [hw, h1.out]; clear hw) | (go_at_call 34; refine Q2.out.mono ?_; rintro e w1 ⟨rfl, m, hb⟩; rw [h3.out, hb]; clear hb))
      go_ret
      exact ⟨rfl, m, rfl⟩
  · have h1 := Lib.hid (show (if Pq.inB n then (0 : Int) else 3) = 3 from if_neg h0)
    rw [if_pos h0]
    clear h0
    go_enter Try.func26, Try.ntmps26
    go_wp2_with (go_at_call 27; refine Q1.out.mono ?_; rintro e w1 ⟨rfl, hw⟩; rw [hw, h1.out]; clear hw)
    go_ret
    exact ⟨rfl, 0, rfl⟩
end
end Go.Proofs.Ytmgpfkckafdbmaa
