/-
  What the laws of layer 10 share: record, small, few, the reference's Right.
-/
import Derived.Test.YtlfjbiiacnikhaaDoorQPut
namespace Go.Proofs.YtlfjbiiacnikhaaDoor
set_option maxRecDepth 100000
open Go Go.RowKit Pq

def recE (id ep q : Int) : EE := ⟨0, id, ep, q, ⟨#[]⟩, 0, 0, none, 0, 0⟩
theorem sizeEE : (Tryd.prog.info? 25).map (·.size) = some 8 := by kernel_rfl
theorem cells8_set {w : World} {b : Nat} {T : TypeId} {x0 x1 x2 x3 x4 x5 x6 x7 : Value} (h : w.heap[b]? = some (.cells #[x0, x1, x2, x3, x4, x5, x6, x7] T (0, 0))) (y0 y1 y2 y3 y4 y5 y6 y7 : Value) :
    ((((((((w.setCell ⟨b, 0, none⟩ y0).setCell ⟨b, 1, none⟩ y1).setCell ⟨b, 2, none⟩ y2).setCell ⟨b, 3, none⟩ y3).setCell ⟨b, 4, none⟩ y4).setCell ⟨b, 5, none⟩ y5).setCell ⟨b, 6, none⟩ y6).setCell ⟨b, 7, none⟩ y7).heap[b]? = some (.cells #[y0, y1, y2, y3, y4, y5, y6, y7] T (0, 0)) := by
  have h0 : (w.setCell ⟨b, 0, none⟩ y0).heap[b]? = some (.cells #[y0, x1, x2, x3, x4, x5, x6, x7] T (0, 0)) := box_set h 0 y0
  have h1 : ((w.setCell ⟨b, 0, none⟩ y0).setCell ⟨b, 1, none⟩ y1).heap[b]? = some (.cells #[y0, y1, x2, x3, x4, x5, x6, x7] T (0, 0)) := box_set h0 1 y1
  have h2 : (((w.setCell ⟨b, 0, none⟩ y0).setCell ⟨b, 1, none⟩ y1).setCell ⟨b, 2, none⟩ y2).heap[b]? = some (.cells #[y0, y1, y2, x3, x4, x5, x6, x7] T (0, 0)) := box_set h1 2 y2
  have h3 : ((((w.setCell ⟨b, 0, none⟩ y0).setCell ⟨b, 1, none⟩ y1).setCell ⟨b, 2, none⟩ y2).setCell ⟨b, 3, none⟩ y3).heap[b]? = some (.cells #[y0, y1, y2, y3, x4, x5, x6, x7] T (0, 0)) := box_set h2 3 y3
  have h4 : (((((w.setCell ⟨b, 0, none⟩ y0).setCell ⟨b, 1, none⟩ y1).setCell ⟨b, 2, none⟩ y2).setCell ⟨b, 3, none⟩ y3).setCell ⟨b, 4, none⟩ y4).heap[b]? = some (.cells #[y0, y1, y2, y3, y4, x5, x6, x7] T (0, 0)) := box_set h3 4 y4
  have h5 : ((((((w.setCell ⟨b, 0, none⟩ y0).setCell ⟨b, 1, none⟩ y1).setCell ⟨b, 2, none⟩ y2).setCell ⟨b, 3, none⟩ y3).setCell ⟨b, 4, none⟩ y4).setCell ⟨b, 5, none⟩ y5).heap[b]? = some (.cells #[y0, y1, y2, y3, y4, y5, x6, x7] T (0, 0)) := box_set h4 5 y5
  have h6 : (((((((w.setCell ⟨b, 0, none⟩ y0).setCell ⟨b, 1, none⟩ y1).setCell ⟨b, 2, none⟩ y2).setCell ⟨b, 3, none⟩ y3).setCell ⟨b, 4, none⟩ y4).setCell ⟨b, 5, none⟩ y5).setCell ⟨b, 6, none⟩ y6).heap[b]? = some (.cells #[y0, y1, y2, y3, y4, y5, y6, x7] T (0, 0)) := box_set h5 6 y6
  have h7 : ((((((((w.setCell ⟨b, 0, none⟩ y0).setCell ⟨b, 1, none⟩ y1).setCell ⟨b, 2, none⟩ y2).setCell ⟨b, 3, none⟩ y3).setCell ⟨b, 4, none⟩ y4).setCell ⟨b, 5, none⟩ y5).setCell ⟨b, 6, none⟩ y6).setCell ⟨b, 7, none⟩ y7).heap[b]? = some (.cells #[y0, y1, y2, y3, y4, y5, y6, y7] T (0, 0)) := box_set h6 7 y7
  exact h7
set_option maxHeartbeats 2000000 in
theorem record_c (id ep q : Int) (w : World) : Calls Tryd.prog 13 #[.int .i64 id, .int .i64 ep, .int .i64 q] w fun r w' => r = .returned (recE id ep q).val ∧ Below w.heap.size w w' := by
  obtain ⟨W1, hW1⟩ : ∃ W1, W1 = w.alloc (EE.obj ⟨0, 0, 0, 0, ⟨#[]⟩, 0, 0, none, 0, 0⟩) := ⟨_, rfl⟩
  have hb1 : Below w.heap.size w W1 := by rw [hW1]; exact below_new w _
  have hx1 : W1.heap[w.heap.size]? = some (EE.obj ⟨0, 0, 0, 0, ⟨#[]⟩, 0, 0, none, 0, 0⟩) := by rw [hW1]; exact box_new w _
  have hc := EE.cells hx1
  have c0 := hc.c0
  have c1 := hc.c1
  have c2 := hc.c2
  have c3 := hc.c3
  have c4 := hc.c4
  have c5 := hc.c5
  have c6 := hc.c6
  have c7 := hc.c7
  have z0 := Lib.frozen_of_heap hx1 0
  have z1 := Lib.frozen_of_heap hx1 1
  have z2 := Lib.frozen_of_heap hx1 2
  have z3 := Lib.frozen_of_heap hx1 3
  have z4 := Lib.frozen_of_heap hx1 4
  have z5 := Lib.frozen_of_heap hx1 5
  have z6 := Lib.frozen_of_heap hx1 6
  have z7 := Lib.frozen_of_heap hx1 7
  have HB := Lib.hid hb1
  have HX := Lib.hid hx1
  unfold EE.obj at hW1
  dsimp only at *
  clear hc hb1 hx1
  go_enter Tryd.func13, Tryd.ntmps13
  go_upto_region 1 with fail
  rw [← hW1]
  clear hW1
  go_wp2_with fail
  (try simp only [Exit.inBlock, Exit.then])
  refine bodyPost_ret (results_cell_row rfl _ _ w.heap.size _ _ _ _ rfl (cells8_set HX.out _ _ _ _ _ _ _ _) Tryd.underlying25 rfl (by rw [sizeEE]; rfl)) rfl ?_
  exact ⟨rfl, below_set (below_set (below_set (below_set (below_set (below_set (below_set (below_set HB.out (Nat.le_refl _) _ _) (Nat.le_refl _) _ _) (Nat.le_refl _) _ _) (Nat.le_refl _) _ _) (Nat.le_refl _) _ _) (Nat.le_refl _) _ _) (Nat.le_refl _) _ _) (Nat.le_refl _) _ _⟩
def T1 : List P := [⟨7, 0, 1, [3]⟩]
def T2 : List P := [⟨7, 1, 0, []⟩]
theorem right1 : Right T1 := by decide
theorem right2 : Right T2 := by decide
theorem small_put : Pq.put [] 7 0 0 3 = T1 := by decide
theorem small_fence : fence T1 7 = (some (T2, 1), 0) := by decide
theorem fence_small {G : Nat → Prop} {w : World} {r : Ending} (h : FenceIs G w T1 7 r) : ∃ a c l, r = .returned (.tuple #[.slice a (List.length l) c, .int .i64 1, .int .i64 0]) ∧ tab l = T2 ∧ Tb G w a c l := by
  obtain ⟨a, c, l, ep, z, rfl, h1, ⟨h2, _⟩ | ⟨h2, _⟩⟩ := h
  · rw [small_fence] at h2
    cases h2
  · rw [small_fence] at h2
    injection h2 with h3 h4
    injection h3 with h3
    injection h3 with h5 h6
    subst h4 h6
    exact ⟨a, c, l, rfl, h5.symm, h1⟩
set_option maxHeartbeats 4000000 in
theorem small_c (w : World) : Calls Tryd.prog 4 #[] w fun r w' => r = .returned (.bool true) ∧ Below w.heap.size w w' := by
  have QR := Lib.hid record_c
  have HB0 := Lib.hid (Below.refl w.heap.size w)
  go_enter Tryd.func4, Tryd.ntmps4
  have q1 := record_c 7 0 0 w
  unfold recE EE.val at q1
  dsimp only at q1
  have Q1 := Lib.hid q1
  clear q1
  go_upto_region 2 with (first | (go_at_call 13; refine Q1.out.mono ?_; rintro r u1 ⟨rfl, hb1⟩; have HB0 := Lib.hid (HB0.out.trans (hb1.mono HB0.out.size)); clear hb1; have q2 := look_c (tb_nil (fun _ => True) u1) (show Right (tab []) by decide) (recE 7 0 0); rw [show Pq.look (tab []) (recE 7 0 0).pr (recE 7 0 0).ep (recE 7 0 0).sq = (0, 0) by decide] at q2; unfold recE EE.val at q2; dsimp only [List.length_nil] at q2; have Q2 := Lib.hid q2; clear q2) | (go_at_call 11; (with_reducible refine Q2.out.mono ?_); rintro r u2 ⟨rfl, hb2⟩; have HB0 := Lib.hid (HB0.out.trans (hb2.mono HB0.out.size)); clear hb2))
  have q3 := record_c 7 0 0 u2
  unfold recE EE.val at q3
  dsimp only at q3
  have Q3 := Lib.hid q3
  clear q3
  go_upto_region 3 with (first | (go_at_call 13; refine Q3.out.mono ?_; rintro r u3 ⟨rfl, hb3⟩; have HB0 := Lib.hid (HB0.out.trans (hb3.mono HB0.out.size)); clear hb3; have q4 := put_c (tb_nil (fun _ => True) u3) (show Right (tab []) by decide) (recE 7 0 0) 3; rw [show Pq.put (tab []) (recE 7 0 0).pr (recE 7 0 0).ep (recE 7 0 0).sq 3 = T1 from small_put] at q4; unfold recE EE.val at q4; dsimp only [List.length_nil] at q4; have Q4 := Lib.hid q4; clear q4) | (go_at_call 10; (with_reducible refine Q4.out.mono ?_); rintro r u4 ⟨⟨a1, c1, l1, rfl, e1, t1⟩, hb4⟩; have HB0 := Lib.hid (HB0.out.trans (hb4.mono HB0.out.size)); clear hb4; have E1 := Lib.hid e1; have HT := Lib.hid t1.any; clear e1 t1))
  have q5 := record_c 7 0 0 u4
  unfold recE EE.val at q5
  dsimp only at q5
  have Q5 := Lib.hid q5
  clear q5
  go_upto_region 4 with (first | (go_at_call 13; refine Q5.out.mono ?_; rintro r u5 ⟨rfl, hb5⟩; have HB0 := Lib.hid (HB0.out.trans (hb5.mono HB0.out.size)); have HT := Lib.hid (HT.out.on hb5); clear hb5; have q6 := look_c HT.out (by rw [E1.out]; exact right1) (recE 7 0 0); rw [E1.out, show Pq.look T1 (recE 7 0 0).pr (recE 7 0 0).ep (recE 7 0 0).sq = (3, 5) by decide] at q6; unfold recE EE.val at q6; dsimp only [List.length_nil] at q6; have Q6 := Lib.hid q6; clear q6) | (go_at_call 11; (with_reducible refine Q6.out.mono ?_); rintro r u6 ⟨rfl, hb6⟩; have HB0 := Lib.hid (HB0.out.trans (hb6.mono HB0.out.size)); have HT := Lib.hid (HT.out.on hb6); clear hb6))
  have q7 := fence_c HT.out (by rw [E1.out]; exact right1) 7
  rw [E1.out] at q7
  have Q7 := Lib.hid q7
  clear q7
  go_upto_region 5 with (go_at_call 14; (with_reducible refine Q7.out.mono ?_); rintro r u7 ⟨hf, hb7⟩; obtain ⟨a2, c2, l2, rfl, e2, t2⟩ := fence_small hf; clear hf; have HB0 := Lib.hid (HB0.out.trans (hb7.mono HB0.out.size)); have HT := Lib.hid (HT.out.on hb7); clear hb7; have E2 := Lib.hid e2; have HU := Lib.hid t2.any; clear e2 t2)
  have q8 := record_c 7 0 1 u7
  unfold recE EE.val at q8
  dsimp only at q8
  have Q8 := Lib.hid q8
  clear q8
  go_upto_region 6 with (first | (go_at_call 13; refine Q8.out.mono ?_; rintro r u8 ⟨rfl, hb8⟩; have HB0 := Lib.hid (HB0.out.trans (hb8.mono HB0.out.size)); have HT := Lib.hid (HT.out.on hb8); have HU := Lib.hid (HU.out.on hb8); clear hb8; have q9 := look_c HU.out (by rw [E2.out]; exact right2) (recE 7 0 1); rw [E2.out, show Pq.look T2 (recE 7 0 1).pr (recE 7 0 1).ep (recE 7 0 1).sq = (0, 18) by decide] at q9; unfold recE EE.val at q9; dsimp only [List.length_nil] at q9; have Q9 := Lib.hid q9; clear q9) | (go_at_call 11; (with_reducible refine Q9.out.mono ?_); rintro r u9 ⟨rfl, hb9⟩; have HB0 := Lib.hid (HB0.out.trans (hb9.mono HB0.out.size)); have HT := Lib.hid (HT.out.on hb9); have HU := Lib.hid (HU.out.on hb9); clear hb9))
  have q10 := record_c 7 1 0 u9
  unfold recE EE.val at q10
  dsimp only at q10
  have Q10 := Lib.hid q10
  clear q10
  go_upto_region 7 with (first | (go_at_call 13; refine Q10.out.mono ?_; rintro r u10 ⟨rfl, hb10⟩; have HB0 := Lib.hid (HB0.out.trans (hb10.mono HB0.out.size)); have HT := Lib.hid (HT.out.on hb10); have HU := Lib.hid (HU.out.on hb10); clear hb10; have q11 := look_c HU.out (by rw [E2.out]; exact right2) (recE 7 1 0); rw [E2.out, show Pq.look T2 (recE 7 1 0).pr (recE 7 1 0).ep (recE 7 1 0).sq = (0, 0) by decide] at q11; unfold recE EE.val at q11; dsimp only [List.length_nil] at q11; have Q11 := Lib.hid q11; clear q11) | (go_at_call 11; (with_reducible refine Q11.out.mono ?_); rintro r u11 ⟨rfl, hb11⟩; have HB0 := Lib.hid (HB0.out.trans (hb11.mono HB0.out.size)); have HT := Lib.hid (HT.out.on hb11); have HU := Lib.hid (HU.out.on hb11); clear hb11))
  have q12 := record_c 8 0 1 u11
  unfold recE EE.val at q12
  dsimp only at q12
  have Q12 := Lib.hid q12
  clear q12
  go_upto_region 8 with (first | (go_at_call 13; refine Q12.out.mono ?_; rintro r u12 ⟨rfl, hb12⟩; have HB0 := Lib.hid (HB0.out.trans (hb12.mono HB0.out.size)); have HT := Lib.hid (HT.out.on hb12); have HU := Lib.hid (HU.out.on hb12); clear hb12; have q13 := look_c HU.out (by rw [E2.out]; exact right2) (recE 8 0 1); rw [E2.out, show Pq.look T2 (recE 8 0 1).pr (recE 8 0 1).ep (recE 8 0 1).sq = (0, 19) by decide] at q13; unfold recE EE.val at q13; dsimp only [List.length_nil] at q13; have Q13 := Lib.hid q13; clear q13) | (go_at_call 11; (with_reducible refine Q13.out.mono ?_); rintro r u13 ⟨rfl, hb13⟩; have HB0 := Lib.hid (HB0.out.trans (hb13.mono HB0.out.size)); have HT := Lib.hid (HT.out.on hb13); have HU := Lib.hid (HU.out.on hb13); clear hb13))
  have q := rightT_c HU.out (by have := congrArg List.length E2.out; rw [tab_length] at this; rw [this]; decide) (fun x hx => by
    have h1 : x.p ∈ T2 := by rw [← E2.out]; exact List.mem_map_of_mem hx
    have hp : x.p = ⟨7, 1, 0, []⟩ := by simpa [T2] using h1
    rw [hp]
    decide)
  rw [E2.out, decide_eq_true right2] at q
  have Q := Lib.hid q
  clear q
  go_wp2_with (go_at_call 8; refine Q.out.mono ?_; rintro r v ⟨rfl, hb⟩)
  go_ret
  exact ⟨rfl, HB0.out.trans (hb.mono HB0.out.size)⟩
end Go.Proofs.YtlfjbiiacnikhaaDoor
