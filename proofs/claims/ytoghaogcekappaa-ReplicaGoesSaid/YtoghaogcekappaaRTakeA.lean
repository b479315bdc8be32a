/-
  What a replica does with the entries of a leader: an old leader; one that leads itself; a log that does not fit.
-/
import Derived.Test.YtoghaogcekappaaRNote
namespace Go.Proofs.Ytoghaogcekappaa
set_option maxRecDepth 100000
open Go Go.RowKit Rp

theorem answer_h {w : World} {b : Nat} {lv : Value} {r : R} (h : RepAt w b lv r) (d : Int) (y : Bool) (i : Int) : Calls Try.prog 61 #[.pointer (some ⟨b, 0, none⟩), .int .i64 d, .bool y, .int .i64 i] w fun e w' => ∃ sb, e = .returned (.agg #[.bool false, .int .i64 0, .int .i64 0, .int .i64 0, .slice none 0 0, .slice (some ⟨sb, 0, none⟩) 1 1]) ∧ Hid (OutIs (fun k => w.heap.size ≤ k) w' (.agg #[.bool false, .int .i64 0, .int .i64 0, .int .i64 0, .slice none 0 0, .slice (some ⟨sb, 0, none⟩) 1 1]) (Out.just [{ msg r 3 d with yes := y, ix := i }]) ∧ PM.at ⟨{ msg r 3 d with yes := y, ix := i }, none, 0⟩ w' sb ∧ w.heap.size ≤ sb ∧ Below w.heap.size w w') :=
  (answer_c h d y i).mono (fun e w' hh => by
    obtain ⟨sb, h1, h2⟩ := hh
    exact ⟨sb, h1, Lib.hid h2⟩)
set_option maxHeartbeats 4000000 in
theorem take_old {w : World} {b : Nat} {lv : Value} {r : R} (h : RepAt w b lv r) (p : PM) (hp : p.ok (fun k => k ≠ b ∧ lv.ownBlock ≠ some k) w) (hm : Right r.id p.m) (hA : p.m.tm < r.h.tm) : Calls Try.prog 55 #[.pointer (some ⟨b, 0, none⟩), p.val] w fun e w' => ∃ v, e = .returned v ∧ Did w w' b lv r v (Out.just [msg r 3 p.m.fr]) := by
  obtain ⟨⟨mk, mfr, mdst, mtm, mix, mpv, mcm, myes, mrs⟩, ma, mc⟩ := p
  obtain ⟨L, hL⟩ : ∃ L : Nat, mrs.length = L := ⟨_, rfl⟩
  have HL := Lib.hid hL
  show Calls Try.prog _ #[_, .agg #[.int .i64 mk, .int .i64 mfr, .int .i64 mdst, .int .i64 mtm, .int .i64 mix, .int .i64 mpv, .int .i64 mcm, .bool myes, .slice ma mrs.length mc]] w _
  rw [hL]
  have HP := Lib.hid (show Src (fun k => k ≠ b ∧ lv.ownBlock ≠ some k) w ma mc mrs.length (recsV mrs) from hp)
  obtain ⟨W1, hW1⟩ : ∃ W1, W1 = (w.alloc (.cells #[.int .i64 mk, .int .i64 mfr, .int .i64 mdst, .int .i64 mtm, .int .i64 mix, .int .i64 mpv, .int .i64 mcm, .bool myes, .slice ma L mc] 39)).alloc (.cells #[.bool false, .int .i64 0, .int .i64 0, .int .i64 0, .slice none 0 0, .slice none 0 0] 35) := ⟨_, rfl⟩
  have hb1 : Below w.heap.size w W1 := by rw [hW1]; exact (below_new w _).trans ((below_new _ _).mono (by simp))
  have hx1 : PM.at ⟨⟨mk, mfr, mdst, mtm, mix, mpv, mcm, myes, mrs⟩, ma, mc⟩ W1 w.heap.size := by
    rw [hW1, ← hL]
    exact box_on (box_new w _) (below_new _ _)
  have ho1 : W1.heap[w.heap.size + 1]? = some (.cells #[.bool false, .int .i64 0, .int .i64 0, .int .i64 0, .slice none 0 0, .slice none 0 0] 35) := by
    rw [hW1]
    have := box_new (w.alloc (.cells #[.int .i64 mk, .int .i64 mfr, .int .i64 mdst, .int .i64 mtm, .int .i64 mix, .int .i64 mpv, .int .i64 mcm, .bool myes, .slice ma L mc] 39)) (.cells #[.bool false, .int .i64 0, .int .i64 0, .int .i64 0, .slice none 0 0, .slice none 0 0] 35)
    rw [show (w.alloc (.cells #[.int .i64 mk, .int .i64 mfr, .int .i64 mdst, .int .i64 mtm, .int .i64 mix, .int .i64 mpv, .int .i64 mcm, .bool myes, .slice ma L mc] 39)).heap.size = w.heap.size + 1 by simp] at this
    exact this
  have HS1 := Lib.hid (show w.heap.size + 2 = W1.heap.size by rw [hW1]; simp)
  have hr1 := h.on hb1
  have HBL := Lib.hid (show b < w.heap.size ∧ ∀ k, lv.ownBlock = some k → k < w.heap.size from ⟨h.lt, fun k e => h.row.lt e⟩)
  have HX1 := Lib.hid hx1
  have HO1 := Lib.hid ho1
  have HB1 := Lib.hid hb1
  have HR1 := Lib.hid hr1
  have HFI := Lib.hid h.fine
  have HMR := Lib.hid hm
  have c4 := hr1.c.c4
  have c1 := hr1.c.c1
  have f1 := hx1.c.c1
  have f3 := hx1.c.c3
  have hA : mtm < r.h.tm := hA
  clear h hp hm hL hb1 hx1 ho1 hr1
  go_enter Try.func55, Try.ntmps55
  go_upto_region 1 with fail
  rw [← hW1]
  clear hW1 c4
  go_quiet (fail)
  have hbA := below_drewN (Below.refl W1.heap.size W1) nq
  generalize W1.drewN nq = W2 at hbA ⊢
  have f1 := (show PM.at ⟨⟨mk, mfr, mdst, mtm, mix, mpv, mcm, myes, mrs⟩, ma, mc⟩ W2 w.heap.size from box_on HX1.out hbA).c.c1
  have HREP := Lib.hid (HR1.out.on hbA)
  have HOW := Lib.hid (box_on HO1.out hbA)
  have HKW := Lib.hid (kept_b (b := b) (HB1.out.trans (hbA.mono HB1.out.size)))
  have QA := Lib.hid (answer_h HREP.out mfr false 0)
  clear hbA c1 f3
  go_wp2_with (with_reducible refine QA.out.mono ?_; rintro e w5 ⟨sb, rfl, HA⟩; have HOZ := Lib.hid (box_on HOW.out HA.out.2.2.2); have hoz := ozc HOZ.out; have g0 := hoz.c0; have g1 := hoz.c1; have g2 := hoz.c2; have g3 := hoz.c3; have g4 := hoz.c4; have g5 := hoz.c5; have y0 := hoz.z 0; have y1 := hoz.z 1; have y2 := hoz.z 2; have y3 := hoz.z 3; have y4 := hoz.z 4; have y5 := hoz.z 5; clear hoz)
  (try simp only [Exit.inBlock, Exit.then])
  refine bodyPost_ret (ret_out rfl _ _ (w.heap.size + 1) _ _ _ _ _ _ rfl (cells6_set HOZ.out _ _ _ _ _ _)) rfl ?_
  refine ⟨_, rfl, ?_⟩
  have hlt5 : w.heap.size + 1 < W2.heap.size := box_lt HOW.out
  exact did_set6 (HREP.out.on HA.out.2.2.2) (Or.inl rfl) ((HKW.out.trans (Kept.below (S := fun k => k = b) HA.out.2.2.2) (fun _ _ e => e)).mono (fun _ _ e => Or.inl e)) HBL.out.1 (by omega) (fun e => by have := HBL.out.2 _ e; omega) (HA.out.1.mono (fun k hk => ⟨⟨by omega, fun e => by have := HBL.out.2 _ e; omega⟩, by omega⟩)) _ _ _ _ _ _
set_option maxHeartbeats 4000000 in
theorem take_lead {w : World} {b : Nat} {lv : Value} {r : R} (h : RepAt w b lv r) (p : PM) (hp : p.ok (fun k => k ≠ b ∧ lv.ownBlock ≠ some k) w) (hm : Right r.id p.m) (hA : ¬ p.m.tm < r.h.tm) (hB : r.role = 2) : Calls Try.prog 55 #[.pointer (some ⟨b, 0, none⟩), p.val] w fun e w' => ∃ v, e = .returned v ∧ Did w w' b lv r v Out.zero := by
  obtain ⟨⟨mk, mfr, mdst, mtm, mix, mpv, mcm, myes, mrs⟩, ma, mc⟩ := p
  obtain ⟨L, hL⟩ : ∃ L : Nat, mrs.length = L := ⟨_, rfl⟩
  have HL := Lib.hid hL
  show Calls Try.prog _ #[_, .agg #[.int .i64 mk, .int .i64 mfr, .int .i64 mdst, .int .i64 mtm, .int .i64 mix, .int .i64 mpv, .int .i64 mcm, .bool myes, .slice ma mrs.length mc]] w _
  rw [hL]
  have HP := Lib.hid (show Src (fun k => k ≠ b ∧ lv.ownBlock ≠ some k) w ma mc mrs.length (recsV mrs) from hp)
  obtain ⟨W1, hW1⟩ : ∃ W1, W1 = (w.alloc (.cells #[.int .i64 mk, .int .i64 mfr, .int .i64 mdst, .int .i64 mtm, .int .i64 mix, .int .i64 mpv, .int .i64 mcm, .bool myes, .slice ma L mc] 39)).alloc (.cells #[.bool false, .int .i64 0, .int .i64 0, .int .i64 0, .slice none 0 0, .slice none 0 0] 35) := ⟨_, rfl⟩
  have hb1 : Below w.heap.size w W1 := by rw [hW1]; exact (below_new w _).trans ((below_new _ _).mono (by simp))
  have hx1 : PM.at ⟨⟨mk, mfr, mdst, mtm, mix, mpv, mcm, myes, mrs⟩, ma, mc⟩ W1 w.heap.size := by
    rw [hW1, ← hL]
    exact box_on (box_new w _) (below_new _ _)
  have ho1 : W1.heap[w.heap.size + 1]? = some (.cells #[.bool false, .int .i64 0, .int .i64 0, .int .i64 0, .slice none 0 0, .slice none 0 0] 35) := by
    rw [hW1]
    have := box_new (w.alloc (.cells #[.int .i64 mk, .int .i64 mfr, .int .i64 mdst, .int .i64 mtm, .int .i64 mix, .int .i64 mpv, .int .i64 mcm, .bool myes, .slice ma L mc] 39)) (.cells #[.bool false, .int .i64 0, .int .i64 0, .int .i64 0, .slice none 0 0, .slice none 0 0] 35)
    rw [show (w.alloc (.cells #[.int .i64 mk, .int .i64 mfr, .int .i64 mdst, .int .i64 mtm, .int .i64 mix, .int .i64 mpv, .int .i64 mcm, .bool myes, .slice ma L mc] 39)).heap.size = w.heap.size + 1 by simp] at this
    exact this
  have HS1 := Lib.hid (show w.heap.size + 2 = W1.heap.size by rw [hW1]; simp)
  have hr1 := h.on hb1
  have HBL := Lib.hid (show b < w.heap.size ∧ ∀ k, lv.ownBlock = some k → k < w.heap.size from ⟨h.lt, fun k e => h.row.lt e⟩)
  have HX1 := Lib.hid hx1
  have HO1 := Lib.hid ho1
  have HB1 := Lib.hid hb1
  have HR1 := Lib.hid hr1
  have HFI := Lib.hid h.fine
  have HMR := Lib.hid hm
  have c4 := hr1.c.c4
  have c1 := hr1.c.c1
  have f1 := hx1.c.c1
  have f3 := hx1.c.c3
  have g0 : W1.cell? ⟨w.heap.size + 1, 0, none⟩ = some (.bool false) := by rw [Lib.cell_of_heap ho1]; rfl
  have zg0 := Lib.frozen_of_heap ho1 0
  have g1 : W1.cell? ⟨w.heap.size + 1, 1, none⟩ = some (.int .i64 0) := by rw [Lib.cell_of_heap ho1]; rfl
  have zg1 := Lib.frozen_of_heap ho1 1
  have g2 : W1.cell? ⟨w.heap.size + 1, 2, none⟩ = some (.int .i64 0) := by rw [Lib.cell_of_heap ho1]; rfl
  have zg2 := Lib.frozen_of_heap ho1 2
  have g3 : W1.cell? ⟨w.heap.size + 1, 3, none⟩ = some (.int .i64 0) := by rw [Lib.cell_of_heap ho1]; rfl
  have zg3 := Lib.frozen_of_heap ho1 3
  have g4 : W1.cell? ⟨w.heap.size + 1, 4, none⟩ = some (.slice none 0 0) := by rw [Lib.cell_of_heap ho1]; rfl
  have zg4 := Lib.frozen_of_heap ho1 4
  have g5 : W1.cell? ⟨w.heap.size + 1, 5, none⟩ = some (.slice none 0 0) := by rw [Lib.cell_of_heap ho1]; rfl
  have zg5 := Lib.frozen_of_heap ho1 5
  have hA : ¬ mtm < r.h.tm := hA
  have hAd : decide (mtm < r.h.tm) = false := by simp only [decide_eq_false_iff_not]; exact hA
  have eB : (r.role == 2) = true := by simp [hB]
  have HOD := Lib.hid (fun n => (show (W1.drewN n).heap[w.heap.size + 1]? = some (.cells #[.bool false, .int .i64 0, .int .i64 0, .int .i64 0, .slice none 0 0, .slice none 0 0] 35) from ho1))
  clear h hp hm hL hb1 hx1 ho1 hr1 hB
  go_enter Try.func55, Try.ntmps55
  go_upto_region 1 with fail
  rw [← hW1]
  clear hW1
  go_quiet (fail)
  go_wp2_with fail
  (try simp only [Exit.inBlock, Exit.then])
  refine bodyPost_ret (ret_out rfl _ _ (w.heap.size + 1) _ _ _ _ _ _ rfl (cells6_set (HOD.out nq) _ _ _ _ _ _)) rfl ?_
  exact ⟨_, rfl, did_set6 (HR1.out.on (below_drewN (Below.refl _ _) nq)) (Or.inl rfl) ((Kept.below HB1.out).trans (Kept.below (S := fun _ => False) (below_drewN (Below.refl _ _) nq)) (fun _ _ e => e.elim)) HBL.out.1 (by omega) (fun e => by have := HBL.out.2 _ e; omega) (OutIs.zero _ _) _ _ _ _ _ _⟩
set_option maxHeartbeats 4000000 in
theorem take_unfit {w : World} {b : Nat} {lv : Value} {r : R} (h : RepAt w b lv r) (p : PM) (hp : p.ok (fun k => k ≠ b ∧ lv.ownBlock ≠ some k) w) (hm : Right r.id p.m) (hA : ¬ p.m.tm < r.h.tm) (hB : r.role ≠ 2) (hC : (r.l.length : Int) < p.m.ix ∨ tI r.l p.m.ix ≠ p.m.pv) : Calls Try.prog 55 #[.pointer (some ⟨b, 0, none⟩), p.val] w fun e w' => ∃ v, e = .returned v ∧ Did w w' b lv { r with role := 0 } v (Out.just [{ msg r 3 p.m.fr with ix := min (r.l.length : Int) (p.m.ix - 1) }]) := by
  obtain ⟨⟨mk, mfr, mdst, mtm, mix, mpv, mcm, myes, mrs⟩, ma, mc⟩ := p
  obtain ⟨L, hL⟩ : ∃ L : Nat, mrs.length = L := ⟨_, rfl⟩
  have HL := Lib.hid hL
  show Calls Try.prog _ #[_, .agg #[.int .i64 mk, .int .i64 mfr, .int .i64 mdst, .int .i64 mtm, .int .i64 mix, .int .i64 mpv, .int .i64 mcm, .bool myes, .slice ma mrs.length mc]] w _
  rw [hL]
  have HP := Lib.hid (show Src (fun k => k ≠ b ∧ lv.ownBlock ≠ some k) w ma mc mrs.length (recsV mrs) from hp)
  obtain ⟨W1, hW1⟩ : ∃ W1, W1 = (w.alloc (.cells #[.int .i64 mk, .int .i64 mfr, .int .i64 mdst, .int .i64 mtm, .int .i64 mix, .int .i64 mpv, .int .i64 mcm, .bool myes, .slice ma L mc] 39)).alloc (.cells #[.bool false, .int .i64 0, .int .i64 0, .int .i64 0, .slice none 0 0, .slice none 0 0] 35) := ⟨_, rfl⟩
  have hb1 : Below w.heap.size w W1 := by rw [hW1]; exact (below_new w _).trans ((below_new _ _).mono (by simp))
  have hx1 : PM.at ⟨⟨mk, mfr, mdst, mtm, mix, mpv, mcm, myes, mrs⟩, ma, mc⟩ W1 w.heap.size := by
    rw [hW1, ← hL]
    exact box_on (box_new w _) (below_new _ _)
  have ho1 : W1.heap[w.heap.size + 1]? = some (.cells #[.bool false, .int .i64 0, .int .i64 0, .int .i64 0, .slice none 0 0, .slice none 0 0] 35) := by
    rw [hW1]
    have := box_new (w.alloc (.cells #[.int .i64 mk, .int .i64 mfr, .int .i64 mdst, .int .i64 mtm, .int .i64 mix, .int .i64 mpv, .int .i64 mcm, .bool myes, .slice ma L mc] 39)) (.cells #[.bool false, .int .i64 0, .int .i64 0, .int .i64 0, .slice none 0 0, .slice none 0 0] 35)
    rw [show (w.alloc (.cells #[.int .i64 mk, .int .i64 mfr, .int .i64 mdst, .int .i64 mtm, .int .i64 mix, .int .i64 mpv, .int .i64 mcm, .bool myes, .slice ma L mc] 39)).heap.size = w.heap.size + 1 by simp] at this
    exact this
  have HS1 := Lib.hid (show w.heap.size + 2 = W1.heap.size by rw [hW1]; simp)
  have hr1 := h.on hb1
  have HBL := Lib.hid (show b < w.heap.size ∧ ∀ k, lv.ownBlock = some k → k < w.heap.size from ⟨h.lt, fun k e => h.row.lt e⟩)
  have HX1 := Lib.hid hx1
  have HO1 := Lib.hid ho1
  have HB1 := Lib.hid hb1
  have HR1 := Lib.hid hr1
  have HFI := Lib.hid h.fine
  have HMR := Lib.hid hm
  have c4 := hr1.c.c4
  have c1 := hr1.c.c1
  have f1 := hx1.c.c1
  have f3 := hx1.c.c3
  have hA : ¬ mtm < r.h.tm := hA
  have hAd : decide (mtm < r.h.tm) = false := by simp only [decide_eq_false_iff_not]; exact hA
  have eB : (r.role == 2) = false := by simp [hB]
  have hix : 0 ≤ mix ∧ mix ≤ 4000 := hm.ix
  have hix0 := hix.1
  have hix1 := hix.2
  have z4 := hr1.c.z 4
  have hsum : mix + (L : Int) ≤ 4000 := by rw [← hL]; exact hm.sum
  have hcm : 0 ≤ mcm ∧ mcm ≤ 4000 := hm.cm
  have hC : (r.l.length : Int) < mix ∨ tI r.l mix ≠ mpv := hC
  have HQ := Lib.hid (show decide (mix ≤ (r.l.length : Int) ∧ tI r.l mix = mpv) = false by
    rw [decide_eq_false_iff_not]
    rintro ⟨q1, q2⟩
    rcases hC with q | q
    · omega
    · exact q q2)
  clear hC
  clear h hp hm hL hb1 hx1 ho1 hr1 hB hix
  go_enter Try.func55, Try.ntmps55
  go_upto_region 1 with fail
  rw [← hW1]
  clear hW1
  go_quiet (fail)
  obtain ⟨W2, hW2⟩ : ∃ W2, W2 = (W1.drewN nq).setCell ⟨b, 4, none⟩ (.int .i64 0) := ⟨_, rfl⟩
  have hk2 : Kept (fun k => k = b) W1 W2 := by rw [hW2]; exact (Kept.below (below_drewN (Below.refl _ _) nq)).trans (Kept.set _ _ _ _) (fun _ _ e => e)
  have hr2 : RepAt W2 b lv { r with role := 0 } := by rw [hW2]; exact rep_follow (HR1.out.on (below_drewN (Below.refl _ _) nq))
  have hx2 : PM.at ⟨⟨mk, mfr, mdst, mtm, mix, mpv, mcm, myes, mrs⟩, ma, mc⟩ W2 w.heap.size := hk2.heap HX1.out (fun e => by have := HBL.out; omega)
  have HREP := Lib.hid hr2
  have HX2 := Lib.hid hx2
  have HOW := Lib.hid (hk2.heap HO1.out (fun e => by have := HBL.out; omega))
  have HKW := Lib.hid ((kept_b (b := b) HB1.out).trans hk2 (fun _ _ e => e))
  have QH := Lib.hid (has_c hr2 mix mpv hix0)
  have f1 := hx2.c.c1
  have f4 := hx2.c.c4
  have f5 := hx2.c.c5
  have f6 := hx2.c.c6
  have f8' := hx2.c.c8
  have f8 : W2.cell? ⟨w.heap.size, 8, none⟩ = some (.slice ma L mc) := by rw [← HL.out]; exact f8'
  have c3' := hr2.c.c3
  obtain ⟨la, lc, rfl, _⟩ := HREP.out.row.shape
  obtain ⟨l0, hl0⟩ : ∃ l0 : Nat, r.l.length = l0 := ⟨_, rfl⟩
  have HL0 := Lib.hid hl0
  have hl63 : (l0 : Int) ≤ 4000 := by have := HFI.out.len; omega
  have c3 : W2.cell? ⟨b, 3, none⟩ = some (.slice la l0 lc) := by rw [← hl0]; exact c3'
  clear hk2 hr2 hx2 f8' c3' hl0
  have QH2 := Lib.hid (show Calls Try.prog 62 #[.pointer (some ⟨b, 0, none⟩), .int .i64 mix, .int .i64 mpv] W2 fun e w' => e = .returned (.bool false) ∧ w' = W2 by have := QH.out; rw [HQ.out] at this; exact this)
  obtain ⟨Y, hY⟩ : ∃ Y : Int, min (l0 : Int) (mix - 1) = Y := ⟨_, rfl⟩
  have QA := Lib.hid (answer_h (HREP.out.on (below_drew (Below.refl _ _))) mfr false Y)
  have HEQ := Lib.hid (show Y = min (r.l.length : Int) (mix - 1) by rw [HL0.out]; exact hY.symm)
  clear QH
  go_upto_region 6 with fail
  rw [← hW2]
  clear hW2 c4 z4 c1 f3
  go_upto_region 7 with (with_reducible refine QH2.out.mono ?_; rintro e w1 ⟨rfl, hw⟩; rw [hw]; clear hw)
  refine wp_region_still_tail 12 (by kernel_rfl) (by kernel_rfl) (still_of_quiet _ _ ?_)
  simp only [List.take_succ_cons, List.take_zero, List.drop_succ_cons, List.drop_zero]
  repeat (go_big_quiet_step (fail))
  refine wpQuiet_nil ?_
  change wpList _ _ _ _ _ W2.drew
  have HOW := Lib.hid (show W2.drew.heap[w.heap.size + 1]? = _ from HOW.out)
  have HREP := Lib.hid (HREP.out.on (below_drew (Below.refl _ _)))
  have HKW := Lib.hid (HKW.out.trans (Kept.drew (fun k => k = b) W2) (fun _ _ e => e))
  go_wp2_with (with_reducible refine QA.out.mono ?_; rintro e w5 ⟨sb, rfl, HA⟩; have HOZ := Lib.hid (box_on HOW.out HA.out.2.2.2); have hoz := ozc HOZ.out; have g0 := hoz.c0; have g1 := hoz.c1; have g2 := hoz.c2; have g3 := hoz.c3; have g4 := hoz.c4; have g5 := hoz.c5; have y0 := hoz.z 0; have y1 := hoz.z 1; have y2 := hoz.z 2; have y3 := hoz.z 3; have y4 := hoz.z 4; have y5 := hoz.z 5; clear hoz)
  (try simp only [Exit.inBlock, Exit.then])
  refine bodyPost_ret (ret_out rfl _ _ (w.heap.size + 1) _ _ _ _ _ _ rfl (cells6_set HOZ.out _ _ _ _ _ _)) rfl ?_
  refine ⟨_, rfl, ?_⟩
  rw [HEQ.out] at HA
  have hlt5 : w.heap.size + 1 < W2.drew.heap.size := box_lt HOW.out
  exact did_set6 (HREP.out.on HA.out.2.2.2) (Or.inl rfl) ((HKW.out.trans (Kept.below (S := fun k => k = b) HA.out.2.2.2) (fun _ _ e => e)).mono (fun _ _ e => Or.inl e)) HBL.out.1 (by omega) (fun e => by have := HBL.out.2 _ e; omega) (HA.out.1.mono (fun k hk => ⟨⟨by omega, fun e => by have := HBL.out.2 _ e; omega⟩, by omega⟩)) _ _ _ _ _ _
end Go.Proofs.Ytoghaogcekappaa
