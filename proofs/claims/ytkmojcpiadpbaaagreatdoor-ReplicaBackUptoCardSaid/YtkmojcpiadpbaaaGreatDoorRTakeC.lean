/-
  What a replica does with the entries of a leader: an old leader; one that leads itself; a log that does not fit.
  What a replica does with the entries of a leader that fit its log.
  What a replica does with new entries of a leader.
-/
import Derived.Test.YtkmojcpiadpbaaaGreatDoorRNote
namespace Go.Proofs.YtkmojcpiadpbaaaGreatDoor
set_option maxRecDepth 100000
open Go Go.RowKit Rp

theorem answer_h {w : World} {b : Nat} {lv : Value} {r : R} (h : RepAt w b lv r) (d : Int) (y : Bool) (i : Int) : Calls Tryz.prog 74 #[.pointer (some ⟨b, 0, none⟩), .int .i64 d, .bool y, .int .i64 i] w fun e w' => ∃ sb, e = .returned (.agg #[.bool false, .int .i64 0, .int .i64 0, .int .i64 0, .slice none 0 0, .slice (some ⟨sb, 0, none⟩) 1 1]) ∧ Hid (OutIs (fun k => w.heap.size ≤ k) w' (.agg #[.bool false, .int .i64 0, .int .i64 0, .int .i64 0, .slice none 0 0, .slice (some ⟨sb, 0, none⟩) 1 1]) (Out.just [{ msg r 3 d with yes := y, ix := i }]) ∧ PM.at ⟨{ msg r 3 d with yes := y, ix := i }, none, 0⟩ w' sb ∧ w.heap.size ≤ sb ∧ Below w.heap.size w w') :=
  (answer_c h d y i).mono (fun e w' hh => by
    obtain ⟨sb, h1, h2⟩ := hh
    exact ⟨sb, h1, Lib.hid h2⟩)
set_option maxHeartbeats 4000000 in
theorem take_old {w : World} {b : Nat} {lv : Value} {r : R} (h : RepAt w b lv r) (p : PM) (hp : p.ok (fun k => k ≠ b ∧ lv.ownBlock ≠ some k) w) (hm : Right r.id p.m) (hA : p.m.tm < r.h.tm) : Calls Tryz.prog 65 #[.pointer (some ⟨b, 0, none⟩), p.val] w fun e w' => ∃ v, e = .returned v ∧ Did w w' b lv r v (Out.just [msg r 3 p.m.fr]) := by
  obtain ⟨⟨mk, mfr, mdst, mtm, mix, mpv, mcm, myes, mrs⟩, ma, mc⟩ := p
  obtain ⟨L, hL⟩ : ∃ L : Nat, mrs.length = L := ⟨_, rfl⟩
  have HL := Lib.hid hL
  show Calls Tryz.prog _ #[_, .agg #[.int .i64 mk, .int .i64 mfr, .int .i64 mdst, .int .i64 mtm, .int .i64 mix, .int .i64 mpv, .int .i64 mcm, .bool myes, .slice ma mrs.length mc]] w _
  rw [hL]
  have HP := Lib.hid (show Src (fun k => k ≠ b ∧ lv.ownBlock ≠ some k) w ma mc mrs.length (recsV mrs) from hp)
  obtain ⟨W1, hW1⟩ : ∃ W1, W1 = (w.alloc (.cells #[.int .i64 mk, .int .i64 mfr, .int .i64 mdst, .int .i64 mtm, .int .i64 mix, .int .i64 mpv, .int .i64 mcm, .bool myes, .slice ma L mc] 24)).alloc (.cells #[.bool false, .int .i64 0, .int .i64 0, .int .i64 0, .slice none 0 0, .slice none 0 0] 42) := ⟨_, rfl⟩
  have hb1 : Below w.heap.size w W1 := by rw [hW1]; exact (below_new w _).trans ((below_new _ _).mono (by simp))
  have hx1 : PM.at ⟨⟨mk, mfr, mdst, mtm, mix, mpv, mcm, myes, mrs⟩, ma, mc⟩ W1 w.heap.size := by
    rw [hW1, ← hL]
    exact box_on (box_new w _) (below_new _ _)
  have ho1 : W1.heap[w.heap.size + 1]? = some (.cells #[.bool false, .int .i64 0, .int .i64 0, .int .i64 0, .slice none 0 0, .slice none 0 0] 42) := by
    rw [hW1]
    have := box_new (w.alloc (.cells #[.int .i64 mk, .int .i64 mfr, .int .i64 mdst, .int .i64 mtm, .int .i64 mix, .int .i64 mpv, .int .i64 mcm, .bool myes, .slice ma L mc] 24)) (.cells #[.bool false, .int .i64 0, .int .i64 0, .int .i64 0, .slice none 0 0, .slice none 0 0] 42)
    rw [show (w.alloc (.cells #[.int .i64 mk, .int .i64 mfr, .int .i64 mdst, .int .i64 mtm, .int .i64 mix, .int .i64 mpv, .int .i64 mcm, .bool myes, .slice ma L mc] 24)).heap.size = w.heap.size + 1 by simp] at this
    exact this
  have HS1 := Lib.hid (show w.heap.size + 2 = W1.heap.size by rw [hW1]; simp)
  have hr1 := h.on hb1
  have HBL := Lib.hid (show b < w.heap.size ∧ ∀ k, lv.ownBlock = some k → k < w.heap.size from ⟨h.lt, fun k e => h.row.lt e⟩)
  have HX1 := Lib.hid hx1
  have HO1 := Lib.hid ho1
  have HB1 := Lib.hid hb1
  have HR1 := Lib.hid hr1
  have HFI := Lib.hid h.fine
  have HMR := Lib.hid hm
  have c4 := hr1.c.c4
  have c1 := hr1.c.c1
  have f1 := hx1.c.c1
  have f3 := hx1.c.c3
  have hA : mtm < r.h.tm := hA
  clear h hp hm hL hb1 hx1 ho1 hr1
  go_enter Tryz.func65, Tryz.ntmps65
  go_upto_region 1 with fail
  rw [← hW1]
  clear hW1 c4
  go_quiet (fail)
  have hbA := below_drewN (Below.refl W1.heap.size W1) nq
  generalize W1.drewN nq = W2 at hbA ⊢
  have f1 := (show PM.at ⟨⟨mk, mfr, mdst, mtm, mix, mpv, mcm, myes, mrs⟩, ma, mc⟩ W2 w.heap.size from box_on HX1.out hbA).c.c1
  have HREP := Lib.hid (HR1.out.on hbA)
  have HOW := Lib.hid (box_on HO1.out hbA)
  have HKW := Lib.hid (kept_b (b := b) (HB1.out.trans (hbA.mono HB1.out.size)))
  have QA := Lib.hid (answer_h HREP.out mfr false 0)
  clear hbA c1 f3
  go_wp2_with (with_reducible refine QA.out.mono ?_; rintro e w5 ⟨sb, rfl, HA⟩; have HOZ := Lib.hid (box_on HOW.out HA.out.2.2.2); have hoz := ozc HOZ.out; have g0 := hoz.c0; have g1 := hoz.c1; have g2 := hoz.c2; have g3 := hoz.c3; have g4 := hoz.c4; have g5 := hoz.c5; have y0 := hoz.z 0; have y1 := hoz.z 1; have y2 := hoz.z 2; have y3 := hoz.z 3; have y4 := hoz.z 4; have y5 := hoz.z 5; clear hoz)
  (try simp only [Exit.inBlock, Exit.then])
  refine bodyPost_ret (ret_out rfl _ _ (w.heap.size + 1) _ _ _ _ _ _ rfl (cells6_set HOZ.out _ _ _ _ _ _)) rfl ?_
  refine ⟨_, rfl, ?_⟩
  have hlt5 : w.heap.size + 1 < W2.heap.size := box_lt HOW.out
  exact did_set6 (HREP.out.on HA.out.2.2.2) (Or.inl rfl) ((HKW.out.trans (Kept.below (S := fun k => k = b) HA.out.2.2.2) (fun _ _ e => e)).mono (fun _ _ e => Or.inl e)) HBL.out.1 (by omega) (fun e => by have := HBL.out.2 _ e; omega) (HA.out.1.mono (fun k hk => ⟨⟨by omega, fun e => by have := HBL.out.2 _ e; omega⟩, by omega⟩)) _ _ _ _ _ _
set_option maxHeartbeats 4000000 in
theorem take_lead {w : World} {b : Nat} {lv : Value} {r : R} (h : RepAt w b lv r) (p : PM) (hp : p.ok (fun k => k ≠ b ∧ lv.ownBlock ≠ some k) w) (hm : Right r.id p.m) (hA : ¬ p.m.tm < r.h.tm) (hB : r.role = 2) : Calls Tryz.prog 65 #[.pointer (some ⟨b, 0, none⟩), p.val] w fun e w' => ∃ v, e = .returned v ∧ Did w w' b lv r v Out.zero := by
  obtain ⟨⟨mk, mfr, mdst, mtm, mix, mpv, mcm, myes, mrs⟩, ma, mc⟩ := p
  obtain ⟨L, hL⟩ : ∃ L : Nat, mrs.length = L := ⟨_, rfl⟩
  have HL := Lib.hid hL
  show Calls Tryz.prog _ #[_, .agg #[.int .i64 mk, .int .i64 mfr, .int .i64 mdst, .int .i64 mtm, .int .i64 mix, .int .i64 mpv, .int .i64 mcm, .bool myes, .slice ma mrs.length mc]] w _
  rw [hL]
  have HP := Lib.hid (show Src (fun k => k ≠ b ∧ lv.ownBlock ≠ some k) w ma mc mrs.length (recsV mrs) from hp)
  obtain ⟨W1, hW1⟩ : ∃ W1, W1 = (w.alloc (.cells #[.int .i64 mk, .int .i64 mfr, .int .i64 mdst, .int .i64 mtm, .int .i64 mix, .int .i64 mpv, .int .i64 mcm, .bool myes, .slice ma L mc] 24)).alloc (.cells #[.bool false, .int .i64 0, .int .i64 0, .int .i64 0, .slice none 0 0, .slice none 0 0] 42) := ⟨_, rfl⟩
  have hb1 : Below w.heap.size w W1 := by rw [hW1]; exact (below_new w _).trans ((below_new _ _).mono (by simp))
  have hx1 : PM.at ⟨⟨mk, mfr, mdst, mtm, mix, mpv, mcm, myes, mrs⟩, ma, mc⟩ W1 w.heap.size := by
    rw [hW1, ← hL]
    exact box_on (box_new w _) (below_new _ _)
  have ho1 : W1.heap[w.heap.size + 1]? = some (.cells #[.bool false, .int .i64 0, .int .i64 0, .int .i64 0, .slice none 0 0, .slice none 0 0] 42) := by
    rw [hW1]
    have := box_new (w.alloc (.cells #[.int .i64 mk, .int .i64 mfr, .int .i64 mdst, .int .i64 mtm, .int .i64 mix, .int .i64 mpv, .int .i64 mcm, .bool myes, .slice ma L mc] 24)) (.cells #[.bool false, .int .i64 0, .int .i64 0, .int .i64 0, .slice none 0 0, .slice none 0 0] 42)
    rw [show (w.alloc (.cells #[.int .i64 mk, .int .i64 mfr, .int .i64 mdst, .int .i64 mtm, .int .i64 mix, .int .i64 mpv, .int .i64 mcm, .bool myes, .slice ma L mc] 24)).heap.size = w.heap.size + 1 by simp] at this
    exact this
  have HS1 := Lib.hid (show w.heap.size + 2 = W1.heap.size by rw [hW1]; simp)
  have hr1 := h.on hb1
  have HBL := Lib.hid (show b < w.heap.size ∧ ∀ k, lv.ownBlock = some k → k < w.heap.size from ⟨h.lt, fun k e => h.row.lt e⟩)
  have HX1 := Lib.hid hx1
  have HO1 := Lib.hid ho1
  have HB1 := Lib.hid hb1
  have HR1 := Lib.hid hr1
  have HFI := Lib.hid h.fine
  have HMR := Lib.hid hm
  have c4 := hr1.c.c4
  have c1 := hr1.c.c1
  have f1 := hx1.c.c1
  have f3 := hx1.c.c3
  have g0 : W1.cell? ⟨w.heap.size + 1, 0, none⟩ = some (.bool false) := by rw [Lib.cell_of_heap ho1]; rfl
  have zg0 := Lib.frozen_of_heap ho1 0
  have g1 : W1.cell? ⟨w.heap.size + 1, 1, none⟩ = some (.int .i64 0) := by rw [Lib.cell_of_heap ho1]; rfl
  have zg1 := Lib.frozen_of_heap ho1 1
  have g2 : W1.cell? ⟨w.heap.size + 1, 2, none⟩ = some (.int .i64 0) := by rw [Lib.cell_of_heap ho1]; rfl
  have zg2 := Lib.frozen_of_heap ho1 2
  have g3 : W1.cell? ⟨w.heap.size + 1, 3, none⟩ = some (.int .i64 0) := by rw [Lib.cell_of_heap ho1]; rfl
  have zg3 := Lib.frozen_of_heap ho1 3
  have g4 : W1.cell? ⟨w.heap.size + 1, 4, none⟩ = some (.slice none 0 0) := by rw [Lib.cell_of_heap ho1]; rfl
  have zg4 := Lib.frozen_of_heap ho1 4
  have g5 : W1.cell? ⟨w.heap.size + 1, 5, none⟩ = some (.slice none 0 0) := by rw [Lib.cell_of_heap ho1]; rfl
  have zg5 := Lib.frozen_of_heap ho1 5
  have hA : ¬ mtm < r.h.tm := hA
  have hAd : decide (mtm < r.h.tm) = false := by simp only [decide_eq_false_iff_not]; exact hA
  have eB : (r.role == 2) = true := by simp [hB]
  have HOD := Lib.hid (fun n => (show (W1.drewN n).heap[w.heap.size + 1]? = some (.cells #[.bool false, .int .i64 0, .int .i64 0, .int .i64 0, .slice none 0 0, .slice none 0 0] 42) from ho1))
  clear h hp hm hL hb1 hx1 ho1 hr1 hB
  go_enter Tryz.func65, Tryz.ntmps65
  go_upto_region 1 with fail
  rw [← hW1]
  clear hW1
  go_quiet (fail)
  go_wp2_with fail
  (try simp only [Exit.inBlock, Exit.then])
  refine bodyPost_ret (ret_out rfl _ _ (w.heap.size + 1) _ _ _ _ _ _ rfl (cells6_set (HOD.out nq) _ _ _ _ _ _)) rfl ?_
  exact ⟨_, rfl, did_set6 (HR1.out.on (below_drewN (Below.refl _ _) nq)) (Or.inl rfl) ((Kept.below HB1.out).trans (Kept.below (S := fun _ => False) (below_drewN (Below.refl _ _) nq)) (fun _ _ e => e.elim)) HBL.out.1 (by omega) (fun e => by have := HBL.out.2 _ e; omega) (OutIs.zero _ _) _ _ _ _ _ _⟩
set_option maxHeartbeats 4000000 in
theorem take_unfit {w : World} {b : Nat} {lv : Value} {r : R} (h : RepAt w b lv r) (p : PM) (hp : p.ok (fun k => k ≠ b ∧ lv.ownBlock ≠ some k) w) (hm : Right r.id p.m) (hA : ¬ p.m.tm < r.h.tm) (hB : r.role ≠ 2) (hC : (r.l.length : Int) < p.m.ix ∨ tI r.l p.m.ix ≠ p.m.pv) : Calls Tryz.prog 65 #[.pointer (some ⟨b, 0, none⟩), p.val] w fun e w' => ∃ v, e = .returned v ∧ Did w w' b lv { r with role := 0 } v (Out.just [{ msg r 3 p.m.fr with ix := min (r.l.length : Int) (p.m.ix - 1) }]) := by
  obtain ⟨⟨mk, mfr, mdst, mtm, mix, mpv, mcm, myes, mrs⟩, ma, mc⟩ := p
  obtain ⟨L, hL⟩ : ∃ L : Nat, mrs.length = L := ⟨_, rfl⟩
  have HL := Lib.hid hL
  show Calls Tryz.prog _ #[_, .agg #[.int .i64 mk, .int .i64 mfr, .int .i64 mdst, .int .i64 mtm, .int .i64 mix, .int .i64 mpv, .int .i64 mcm, .bool myes, .slice ma mrs.length mc]] w _
  rw [hL]
  have HP := Lib.hid (show Src (fun k => k ≠ b ∧ lv.ownBlock ≠ some k) w ma mc mrs.length (recsV mrs) from hp)
  obtain ⟨W1, hW1⟩ : ∃ W1, W1 = (w.alloc (.cells #[.int .i64 mk, .int .i64 mfr, .int .i64 mdst, .int .i64 mtm, .int .i64 mix, .int .i64 mpv, .int .i64 mcm, .bool myes, .slice ma L mc] 24)).alloc (.cells #[.bool false, .int .i64 0, .int .i64 0, .int .i64 0, .slice none 0 0, .slice none 0 0] 42) := ⟨_, rfl⟩
  have hb1 : Below w.heap.size w W1 := by rw [hW1]; exact (below_new w _).trans ((below_new _ _).mono (by simp))
  have hx1 : PM.at ⟨⟨mk, mfr, mdst, mtm, mix, mpv, mcm, myes, mrs⟩, ma, mc⟩ W1 w.heap.size := by
    rw [hW1, ← hL]
    exact box_on (box_new w _) (below_new _ _)
  have ho1 : W1.heap[w.heap.size + 1]? = some (.cells #[.bool false, .int .i64 0, .int .i64 0, .int .i64 0, .slice none 0 0, .slice none 0 0] 42) := by
    rw [hW1]
    have := box_new (w.alloc (.cells #[.int .i64 mk, .int .i64 mfr, .int .i64 mdst, .int .i64 mtm, .int .i64 mix, .int .i64 mpv, .int .i64 mcm, .bool myes, .slice ma L mc] 24)) (.cells #[.bool false, .int .i64 0, .int .i64 0, .int .i64 0, .slice none 0 0, .slice none 0 0] 42)
    rw [show (w.alloc (.cells #[.int .i64 mk, .int .i64 mfr, .int .i64 mdst, .int .i64 mtm, .int .i64 mix, .int .i64 mpv, .int .i64 mcm, .bool myes, .slice ma L mc] 24)).heap.size = w.heap.size + 1 by simp] at this
    exact this
  have HS1 := Lib.hid (show w.heap.size + 2 = W1.heap.size by rw [hW1]; simp)
  have hr1 := h.on hb1
  have HBL := Lib.hid (show b < w.heap.size ∧ ∀ k, lv.ownBlock = some k → k < w.heap.size from ⟨h.lt, fun k e => h.row.lt e⟩)
  have HX1 := Lib.hid hx1
  have HO1 := Lib.hid ho1
  have HB1 := Lib.hid hb1
  have HR1 := Lib.hid hr1
  have HFI := Lib.hid h.fine
  have HMR := Lib.hid hm
  have c4 := hr1.c.c4
  have c1 := hr1.c.c1
  have f1 := hx1.c.c1
  have f3 := hx1.c.c3
  have hA : ¬ mtm < r.h.tm := hA
  have hAd : decide (mtm < r.h.tm) = false := by simp only [decide_eq_false_iff_not]; exact hA
  have eB : (r.role == 2) = false := by simp [hB]
  have hix : 0 ≤ mix ∧ mix ≤ 4000 := hm.ix
  have hix0 := hix.1
  have hix1 := hix.2
  have z4 := hr1.c.z 4
  have hsum : mix + (L : Int) ≤ 4000 := by rw [← hL]; exact hm.sum
  have hcm : 0 ≤ mcm ∧ mcm ≤ 4000 := hm.cm
  have hC : (r.l.length : Int) < mix ∨ tI r.l mix ≠ mpv := hC
  have HQ := Lib.hid (show decide (mix ≤ (r.l.length : Int) ∧ tI r.l mix = mpv) = false by
    rw [decide_eq_false_iff_not]
    rintro ⟨q1, q2⟩
    rcases hC with q | q
    · omega
    · exact q q2)
  clear hC
  clear h hp hm hL hb1 hx1 ho1 hr1 hB hix
  go_enter Tryz.func65, Tryz.ntmps65
  go_upto_region 1 with fail
  rw [← hW1]
  clear hW1
  go_quiet (fail)
  obtain ⟨W2, hW2⟩ : ∃ W2, W2 = (W1.drewN nq).setCell ⟨b, 4, none⟩ (.int .i64 0) := ⟨_, rfl⟩
  have hk2 : Kept (fun k => k = b) W1 W2 := by rw [hW2]; exact (Kept.below (below_drewN (Below.refl _ _) nq)).trans (Kept.set _ _ _ _) (fun _ _ e => e)
  have hr2 : RepAt W2 b lv { r with role := 0 } := by rw [hW2]; exact rep_follow (HR1.out.on (below_drewN (Below.refl _ _) nq))
  have hx2 : PM.at ⟨⟨mk, mfr, mdst, mtm, mix, mpv, mcm, myes, mrs⟩, ma, mc⟩ W2 w.heap.size := hk2.heap HX1.out (fun e => by have := HBL.out; omega)
  have HREP := Lib.hid hr2
  have HX2 := Lib.hid hx2
  have HOW := Lib.hid (hk2.heap HO1.out (fun e => by have := HBL.out; omega))
  have HKW := Lib.hid ((kept_b (b := b) HB1.out).trans hk2 (fun _ _ e => e))
  have QH := Lib.hid (has_c hr2 mix mpv hix0)
  have f1 := hx2.c.c1
  have f4 := hx2.c.c4
  have f5 := hx2.c.c5
  have f6 := hx2.c.c6
  have f8' := hx2.c.c8
  have f8 : W2.cell? ⟨w.heap.size, 8, none⟩ = some (.slice ma L mc) := by rw [← HL.out]; exact f8'
  have c3' := hr2.c.c3
  obtain ⟨la, lc, rfl, _⟩ := HREP.out.row.shape
  obtain ⟨l0, hl0⟩ : ∃ l0 : Nat, r.l.length = l0 := ⟨_, rfl⟩
  have HL0 := Lib.hid hl0
  have hl63 : (l0 : Int) ≤ 4000 := by have := HFI.out.len; omega
  have c3 : W2.cell? ⟨b, 3, none⟩ = some (.slice la l0 lc) := by rw [← hl0]; exact c3'
  clear hk2 hr2 hx2 f8' c3' hl0
  have QH2 := Lib.hid (show Calls Tryz.prog 75 #[.pointer (some ⟨b, 0, none⟩), .int .i64 mix, .int .i64 mpv] W2 fun e w' => e = .returned (.bool false) ∧ w' = W2 by have := QH.out; rw [HQ.out] at this; exact this)
  obtain ⟨Y, hY⟩ : ∃ Y : Int, min (l0 : Int) (mix - 1) = Y := ⟨_, rfl⟩
  have QA := Lib.hid (answer_h (HREP.out.on (below_drew (Below.refl _ _))) mfr false Y)
  have HEQ := Lib.hid (show Y = min (r.l.length : Int) (mix - 1) by rw [HL0.out]; exact hY.symm)
  clear QH
  go_upto_region 6 with fail
  rw [← hW2]
  clear hW2 c4 z4 c1 f3
  go_upto_region 7 with (with_reducible refine QH2.out.mono ?_; rintro e w1 ⟨rfl, hw⟩; rw [hw]; clear hw)
  refine wp_region_still_tail 12 (by kernel_rfl) (by kernel_rfl) (still_of_quiet _ _ ?_)
  simp only [List.take_succ_cons, List.take_zero, List.drop_succ_cons, List.drop_zero]
  repeat (go_big_quiet_step (fail))
  refine wpQuiet_nil ?_
  change wpList _ _ _ _ _ W2.drew
  have HOW := Lib.hid (show W2.drew.heap[w.heap.size + 1]? = _ from HOW.out)
  have HREP := Lib.hid (HREP.out.on (below_drew (Below.refl _ _)))
  have HKW := Lib.hid (HKW.out.trans (Kept.drew (fun k => k = b) W2) (fun _ _ e => e))
  go_wp2_with (with_reducible refine QA.out.mono ?_; rintro e w5 ⟨sb, rfl, HA⟩; have HOZ := Lib.hid (box_on HOW.out HA.out.2.2.2); have hoz := ozc HOZ.out; have g0 := hoz.c0; have g1 := hoz.c1; have g2 := hoz.c2; have g3 := hoz.c3; have g4 := hoz.c4; have g5 := hoz.c5; have y0 := hoz.z 0; have y1 := hoz.z 1; have y2 := hoz.z 2; have y3 := hoz.z 3; have y4 := hoz.z 4; have y5 := hoz.z 5; clear hoz)
  (try simp only [Exit.inBlock, Exit.then])
  refine bodyPost_ret (ret_out rfl _ _ (w.heap.size + 1) _ _ _ _ _ _ rfl (cells6_set HOZ.out _ _ _ _ _ _)) rfl ?_
  refine ⟨_, rfl, ?_⟩
  rw [HEQ.out] at HA
  have hlt5 : w.heap.size + 1 < W2.drew.heap.size := box_lt HOW.out
  exact did_set6 (HREP.out.on HA.out.2.2.2) (Or.inl rfl) ((HKW.out.trans (Kept.below (S := fun k => k = b) HA.out.2.2.2) (fun _ _ e => e)).mono (fun _ _ e => Or.inl e)) HBL.out.1 (by omega) (fun e => by have := HBL.out.2 _ e; omega) (HA.out.1.mono (fun k hk => ⟨⟨by omega, fun e => by have := HBL.out.2 _ e; omega⟩, by omega⟩)) _ _ _ _ _ _
end Go.Proofs.YtkmojcpiadpbaaaGreatDoor

namespace Go.Proofs.YtkmojcpiadpbaaaGreatDoor
set_option maxRecDepth 100000
open Go Go.RowKit Rp

theorem OutIs.alloc {G : Nat → Prop} {w : World} {v : Value} {o : Out} (h : OutIs G w v o) (O : Obj) : OutIs G (w.alloc O) v o := h.on (below_new w O)
set_option maxHeartbeats 4000000 in
theorem take_all {w : World} {b : Nat} {lv : Value} {r : R} (h : RepAt w b lv r) (p : PM) (hp : p.ok (fun k => k ≠ b ∧ lv.ownBlock ≠ some k) w) (hm : Right r.id p.m) (hA : ¬ p.m.tm < r.h.tm) (hB : r.role ≠ 2) (hC : p.m.ix ≤ (r.l.length : Int) ∧ tI r.l p.m.ix = p.m.pv) (hK : agree r.l p.m.ix.toNat p.m.rs = p.m.rs.length) : Calls Tryz.prog 65 #[.pointer (some ⟨b, 0, none⟩), p.val] w fun e w' => ∃ v, e = .returned v ∧ Did w w' b lv { r with role := 0, cm := max r.cm (min p.m.cm (p.m.ix + p.m.rs.length)) } v (Out.just [{ msg r 3 p.m.fr with yes := true, ix := p.m.ix + p.m.rs.length }]) := by
  obtain ⟨⟨mk, mfr, mdst, mtm, mix, mpv, mcm, myes, mrs⟩, ma, mc⟩ := p
  obtain ⟨L, hL⟩ : ∃ L : Nat, mrs.length = L := ⟨_, rfl⟩
  have HL := Lib.hid hL
  show Calls Tryz.prog _ #[_, .agg #[.int .i64 mk, .int .i64 mfr, .int .i64 mdst, .int .i64 mtm, .int .i64 mix, .int .i64 mpv, .int .i64 mcm, .bool myes, .slice ma mrs.length mc]] w _
  rw [hL]
  have HP := Lib.hid (show Src (fun k => k ≠ b ∧ lv.ownBlock ≠ some k) w ma mc mrs.length (recsV mrs) from hp)
  obtain ⟨W1, hW1⟩ : ∃ W1, W1 = (w.alloc (.cells #[.int .i64 mk, .int .i64 mfr, .int .i64 mdst, .int .i64 mtm, .int .i64 mix, .int .i64 mpv, .int .i64 mcm, .bool myes, .slice ma L mc] 24)).alloc (.cells #[.bool false, .int .i64 0, .int .i64 0, .int .i64 0, .slice none 0 0, .slice none 0 0] 42) := ⟨_, rfl⟩
  have hb1 : Below w.heap.size w W1 := by rw [hW1]; exact (below_new w _).trans ((below_new _ _).mono (by simp))
  have hx1 : PM.at ⟨⟨mk, mfr, mdst, mtm, mix, mpv, mcm, myes, mrs⟩, ma, mc⟩ W1 w.heap.size := by
    rw [hW1, ← hL]
    exact box_on (box_new w _) (below_new _ _)
  have ho1 : W1.heap[w.heap.size + 1]? = some (.cells #[.bool false, .int .i64 0, .int .i64 0, .int .i64 0, .slice none 0 0, .slice none 0 0] 42) := by
    rw [hW1]
    have := box_new (w.alloc (.cells #[.int .i64 mk, .int .i64 mfr, .int .i64 mdst, .int .i64 mtm, .int .i64 mix, .int .i64 mpv, .int .i64 mcm, .bool myes, .slice ma L mc] 24)) (.cells #[.bool false, .int .i64 0, .int .i64 0, .int .i64 0, .slice none 0 0, .slice none 0 0] 42)
    rw [show (w.alloc (.cells #[.int .i64 mk, .int .i64 mfr, .int .i64 mdst, .int .i64 mtm, .int .i64 mix, .int .i64 mpv, .int .i64 mcm, .bool myes, .slice ma L mc] 24)).heap.size = w.heap.size + 1 by simp] at this
    exact this
  have HS1 := Lib.hid (show w.heap.size + 2 = W1.heap.size by rw [hW1]; simp)
  have hr1 := h.on hb1
  have HBL := Lib.hid (show b < w.heap.size ∧ ∀ k, lv.ownBlock = some k → k < w.heap.size from ⟨h.lt, fun k e => h.row.lt e⟩)
  have HX1 := Lib.hid hx1
  have HO1 := Lib.hid ho1
  have HB1 := Lib.hid hb1
  have HR1 := Lib.hid hr1
  have HFI := Lib.hid h.fine
  have HMR := Lib.hid hm
  have c4 := hr1.c.c4
  have c1 := hr1.c.c1
  have f1 := hx1.c.c1
  have f3 := hx1.c.c3
  have hA : ¬ mtm < r.h.tm := hA
  have hAd : decide (mtm < r.h.tm) = false := by simp only [decide_eq_false_iff_not]; exact hA
  have eB : (r.role == 2) = false := by simp [hB]
  have hix : 0 ≤ mix ∧ mix ≤ 4000 := hm.ix
  have hix0 := hix.1
  have hix1 := hix.2
  have z4 := hr1.c.z 4
  have hsum : mix + (L : Int) ≤ 4000 := by rw [← hL]; exact hm.sum
  have hcm : 0 ≤ mcm ∧ mcm ≤ 4000 := hm.cm
  have hC : mix ≤ (r.l.length : Int) ∧ tI r.l mix = mpv := hC
  have HQ := Lib.hid (show decide (mix ≤ (r.l.length : Int) ∧ tI r.l mix = mpv) = true by rw [decide_eq_true_eq]; exact hC)
  have hCix := hC.1
  have hK : agree r.l mix.toNat mrs = mrs.length := hK
  clear hC
  clear h hp hm hL hb1 hx1 ho1 hr1 hB hix
  go_enter Tryz.func65, Tryz.ntmps65
  go_upto_region 1 with fail
  rw [← hW1]
  clear hW1
  go_quiet (fail)
  obtain ⟨W2, hW2⟩ : ∃ W2, W2 = (W1.drewN nq).setCell ⟨b, 4, none⟩ (.int .i64 0) := ⟨_, rfl⟩
  have hk2 : Kept (fun k => k = b) W1 W2 := by rw [hW2]; exact (Kept.below (below_drewN (Below.refl _ _) nq)).trans (Kept.set _ _ _ _) (fun _ _ e => e)
  have hr2 : RepAt W2 b lv { r with role := 0 } := by rw [hW2]; exact rep_follow (HR1.out.on (below_drewN (Below.refl _ _) nq))
  have hx2 : PM.at ⟨⟨mk, mfr, mdst, mtm, mix, mpv, mcm, myes, mrs⟩, ma, mc⟩ W2 w.heap.size := hk2.heap HX1.out (fun e => by have := HBL.out; omega)
  have HREP := Lib.hid hr2
  have HX2 := Lib.hid hx2
  have HOW := Lib.hid (hk2.heap HO1.out (fun e => by have := HBL.out; omega))
  have HKW := Lib.hid ((kept_b (b := b) HB1.out).trans hk2 (fun _ _ e => e))
  have QH := Lib.hid (has_c hr2 mix mpv hix0)
  have f1 := hx2.c.c1
  have f4 := hx2.c.c4
  have f5 := hx2.c.c5
  have f6 := hx2.c.c6
  have f8' := hx2.c.c8
  have f8 : W2.cell? ⟨w.heap.size, 8, none⟩ = some (.slice ma L mc) := by rw [← HL.out]; exact f8'
  have c3' := hr2.c.c3
  obtain ⟨la, lc, rfl, _⟩ := HREP.out.row.shape
  obtain ⟨l0, hl0⟩ : ∃ l0 : Nat, r.l.length = l0 := ⟨_, rfl⟩
  have HL0 := Lib.hid hl0
  have hl63 : (l0 : Int) ≤ 4000 := by have := HFI.out.len; omega
  have c3 : W2.cell? ⟨b, 3, none⟩ = some (.slice la l0 lc) := by rw [← hl0]; exact c3'
  clear hk2 hr2 hx2 f8' c3' hl0
  have hCix : mix ≤ (l0 : Int) := by rw [← HL0.out]; exact hCix
  have QH2 := Lib.hid (show Calls Tryz.prog 75 #[.pointer (some ⟨b, 0, none⟩), .int .i64 mix, .int .i64 mpv] W2 fun e w' => e = .returned (.bool true) ∧ w' = W2 by have := QH.out; rw [HQ.out] at this; exact this)
  obtain ⟨i0, hi0⟩ : ∃ i0 : Nat, mix = (i0 : Int) := ⟨mix.toNat, by omega⟩
  subst hi0
  have hL8 : (L : Int) ≤ 8 := by have := HMR.out.len; have e : mrs.length ≤ 8 := this; have := HL.out; omega
  obtain ⟨kk, hkk⟩ : ∃ kk : Nat, agree r.l i0 mrs = kk := ⟨_, rfl⟩
  have HKK := Lib.hid hkk
  have hkL : kk ≤ L := by rw [← hkk, ← HL.out]; exact agree_le _ _ _
  have hK : kk = L := by rw [Int.toNat_natCast, hkk, HL.out] at hK; exact hK
  have QA := Lib.hid (answer_h HREP.out mfr true ((i0 : Int) + (L : Int)))
  clear QH hkk
  go_upto_region 6 with fail
  rw [← hW2]
  clear hW2 c4 z4 c1 f3
  go_upto_region 10 with (first | (go_at_call 75; with_reducible refine QH2.out.mono ?_; rintro e w1 ⟨rfl, hw⟩; rw [hw]; clear hw) | (go_at_call 74; with_reducible refine QA.out.mono ?_; rintro e w3 ⟨sb, rfl, HA⟩))
  obtain ⟨W4, hW4⟩ : ∃ W4, W4 = w3.alloc (.cells #[.bool false, .int .i64 0, .int .i64 0, .int .i64 0, .slice none 0 0, .slice (some ⟨sb, 0, none⟩) 1 1] 42) := ⟨_, rfl⟩
  have hb4 : Below W2.heap.size W2 W4 := by rw [hW4]; exact HA.out.2.2.2.alloc HA.out.2.2.2.size _
  have ho4 : W4.heap[w3.heap.size]? = some (.cells #[.bool false, .int .i64 0, .int .i64 0, .int .i64 0, .slice none 0 0, .slice (some ⟨sb, 0, none⟩) 1 1] 42 (0, 0)) := by rw [hW4]; exact box_new w3 _
  have HOU4 := Lib.hid (show OutIs (fun k => W2.heap.size ≤ k) W4 (.agg #[.bool false, .int .i64 0, .int .i64 0, .int .i64 0, .slice none 0 0, .slice (some ⟨sb, 0, none⟩) 1 1]) _ by rw [hW4]; exact HA.out.1.alloc _)
  have HSB4 := Lib.hid (show PM.at _ W4 sb by rw [hW4]; exact box_on HA.out.2.1 (below_new w3 _))
  have HX4 := Lib.hid (show PM.at ⟨⟨mk, mfr, mdst, mtm, (i0 : Int), mpv, mcm, myes, mrs⟩, ma, mc⟩ W4 w.heap.size from box_on HX2.out hb4)
  have HREP4 := Lib.hid (HREP.out.on hb4)
  have HLT := Lib.hid (show w.heap.size + 1 < W2.heap.size ∧ W2.heap.size ≤ w3.heap.size ∧ W2.heap.size ≤ sb ∧ sb < w3.heap.size from ⟨box_lt HOW.out, HA.out.2.2.2.size, HA.out.2.2.1, box_lt HA.out.2.1⟩)
  have HOW4 := Lib.hid (box_on HOW.out hb4)
  have HB6 := Lib.hid ho4
  have HKW4 := Lib.hid (HKW.out.trans (Kept.below (S := fun k => k = b) hb4) (fun _ _ e => e))
  have HP4 := Lib.hid (show Src (fun k => (k ≠ b ∧ (Value.slice la r.l.length lc).ownBlock ≠ some k) ∧ k < w.heap.size) W4 ma mc mrs.length (recsV mrs) from by
    have h1 := Src.mono (G' := fun k => (k ≠ b ∧ (Value.slice la r.l.length lc).ownBlock ≠ some k) ∧ k < w.heap.size) HP.out (fun k hk hg => ⟨hg, hk⟩) (fun h0 e => by have := recsV_length mrs; rw [e] at this; simp at this; omega)
    exact Src.kept h1 HKW4.out (fun k _ hg e => hg.1.1 e))
  have QK := Lib.hid (show Calls Tryz.prog 76 #[.pointer (some ⟨b, 0, none⟩), .agg #[.int .i64 mk, .int .i64 mfr, .int .i64 mdst, .int .i64 mtm, .int .i64 (i0 : Int), .int .i64 mpv, .int .i64 mcm, .bool myes, .slice ma L mc]] W4 fun e w' => e = .returned (.int .i64 ((kk : Nat) : Int)) ∧ Hid (Below W4.heap.size W4 w') from by
    have h1 := known_c HREP4.out ⟨⟨mk, mfr, mdst, mtm, (i0 : Int), mpv, mcm, myes, mrs⟩, ma, mc⟩ HP4.out (by show 0 ≤ (i0 : Int); omega) (by show (i0 : Int) + (mrs.length : Int) ≤ 4000; rw [HL.out]; exact hsum)
    refine Calls.mono (R := fun e w' => e = .returned (.int .i64 ((kk : Nat) : Int)) ∧ Below W4.heap.size W4 w') ?_ (fun e w' hh => ⟨hh.1, Lib.hid hh.2⟩)
    have e1 : agree r.l ((i0 : Int)).toNat mrs = kk := by rw [Int.toNat_natCast]; exact HKK.out
    have h2 : Calls Tryz.prog 76 #[.pointer (some ⟨b, 0, none⟩), .agg #[.int .i64 mk, .int .i64 mfr, .int .i64 mdst, .int .i64 mtm, .int .i64 (i0 : Int), .int .i64 mpv, .int .i64 mcm, .bool myes, .slice ma mrs.length mc]] W4 fun e w' => e = .returned (.int .i64 ((agree r.l ((i0 : Int)).toNat mrs : Nat) : Int)) ∧ Below W4.heap.size W4 w' := h1
    rw [e1, HL.out] at h2
    exact h2)
  have h0 := HX4.out.c.c0
  have h1 := HX4.out.c.c1
  have h2 := HX4.out.c.c2
  have h3 := HX4.out.c.c3
  have h4 := HX4.out.c.c4
  have h5 := HX4.out.c.c5
  have h6 := HX4.out.c.c6
  have h7 := HX4.out.c.c7
  have h8' := HX4.out.c.c8
  have h8 : W4.cell? ⟨w.heap.size, 8, none⟩ = some (.slice ma L mc) := by rw [← HL.out]; exact h8'
  rw [← hW4]
  clear hW4 hb4 ho4 h8' f1 f4 f5 f6 f8 c3
  go_upto_region 11 with (with_reducible refine QK.out.mono ?_; rintro e w5 ⟨rfl, HB5⟩)
  have HX5 := Lib.hid (show PM.at ⟨⟨mk, mfr, mdst, mtm, (i0 : Int), mpv, mcm, myes, mrs⟩, ma, mc⟩ w5 w.heap.size from box_on HX4.out HB5.out)
  have HREP5 := Lib.hid (HREP4.out.on HB5.out)
  clear h0 h1 h2 h3 h4 h5 h6 h7 h8
  have h4 := HX5.out.c.c4
  have h6 := HX5.out.c.c6
  have h8' := HX5.out.c.c8
  have h8 : w5.cell? ⟨w.heap.size, 8, none⟩ = some (.slice ma L mc) := by rw [← HL.out]; exact h8'
  have c5 := HREP5.out.c.c5
  have z5 := HREP5.out.c.z 5
  have HKW5 := Lib.hid (HKW4.out.trans (Kept.below (S := fun k => k = b) HB5.out) (fun _ _ e => e))
  have HOW5 := Lib.hid (box_on HOW4.out HB5.out)
  have HB65 := Lib.hid (box_on HB6.out HB5.out)
  have HOU5 := Lib.hid (HOU4.out.on HB5.out)
  have HSB5 := Lib.hid (box_on HSB4.out HB5.out)
  have hcb : 0 ≤ r.cm ∧ r.cm ≤ 4000 := by have := HFI.out.cm; have := HFI.out.len; omega
  clear h8'
  show_term skip
  obtain ⟨N, hN⟩ : ∃ N : Int, max r.cm (min mcm ((i0 : Int) + (L : Int))) = N := ⟨_, rfl⟩
  have HN := Lib.hid hN
  have HE := Lib.hid (rep_commit HREP5.out (n := N) (by
    have h1 := HFI.out.cm
    have e : agree r.l i0 mrs = L := by rw [HKK.out]; exact hK
    have h2 : i0 + L ≤ r.l.length := by
      rcases Nat.eq_zero_or_pos L with q | q
      · rw [q, Nat.add_zero]; have := HL0.out; omega
      · exact (agree_at r.l i0 mrs L (by omega) q).1
    show 0 ≤ N ∧ N ≤ (r.l.length : Int)
    omega))
  subst hK
  have hlt : ¬ (kk : Int) < (kk : Int) := by omega
  go_upto_region 17 with fail
  go_cut [114] (fun t114 wx => Hid (RepAt wx b (.slice la r.l.length lc) { r with role := 0, cm := N } ∧ Kept (fun k => k = b) w5 wx))
  case first =>
    go_region
    all_goals
      go_wp2_with fail
      go_meet
      exact Lib.hid ⟨HE.out.1.on (below_drew (Below.refl _ _)), HE.out.2.trans (Kept.drew _ _) (fun _ _ e => e)⟩
  case rest =>
    have hnb := HBL.out
    have hlts := HLT.out
    have h6x := hcut.out.2.heap HB65.out (fun e => by omega)
    have hox := hcut.out.2.heap HOW5.out (fun e => by omega)
    have HOX := Lib.hid hox
    have b0 : wc.cell? ⟨w3.heap.size, 0, none⟩ = some (.bool false) := by rw [Lib.cell_of_heap h6x]; rfl
    have zb0 := Lib.frozen_of_heap h6x 0
    have b1 : wc.cell? ⟨w3.heap.size, 1, none⟩ = some (.int .i64 0) := by rw [Lib.cell_of_heap h6x]; rfl
    have zb1 := Lib.frozen_of_heap h6x 1
    have b2 : wc.cell? ⟨w3.heap.size, 2, none⟩ = some (.int .i64 0) := by rw [Lib.cell_of_heap h6x]; rfl
    have zb2 := Lib.frozen_of_heap h6x 2
    have b3 : wc.cell? ⟨w3.heap.size, 3, none⟩ = some (.int .i64 0) := by rw [Lib.cell_of_heap h6x]; rfl
    have zb3 := Lib.frozen_of_heap h6x 3
    have b4 : wc.cell? ⟨w3.heap.size, 4, none⟩ = some (.slice none 0 0) := by rw [Lib.cell_of_heap h6x]; rfl
    have zb4 := Lib.frozen_of_heap h6x 4
    have b5 : wc.cell? ⟨w3.heap.size, 5, none⟩ = some (.slice (some ⟨sb, 0, none⟩) 1 1) := by rw [Lib.cell_of_heap h6x]; rfl
    have zb5 := Lib.frozen_of_heap h6x 5
    have g0 : wc.cell? ⟨w.heap.size + 1, 0, none⟩ = some (.bool false) := by rw [Lib.cell_of_heap hox]; rfl
    have zg0 := Lib.frozen_of_heap hox 0
    have g1 : wc.cell? ⟨w.heap.size + 1, 1, none⟩ = some (.int .i64 0) := by rw [Lib.cell_of_heap hox]; rfl
    have zg1 := Lib.frozen_of_heap hox 1
    have g2 : wc.cell? ⟨w.heap.size + 1, 2, none⟩ = some (.int .i64 0) := by rw [Lib.cell_of_heap hox]; rfl
    have zg2 := Lib.frozen_of_heap hox 2
    have g3 : wc.cell? ⟨w.heap.size + 1, 3, none⟩ = some (.int .i64 0) := by rw [Lib.cell_of_heap hox]; rfl
    have zg3 := Lib.frozen_of_heap hox 3
    have g4 : wc.cell? ⟨w.heap.size + 1, 4, none⟩ = some (.slice none 0 0) := by rw [Lib.cell_of_heap hox]; rfl
    have zg4 := Lib.frozen_of_heap hox 4
    have g5 : wc.cell? ⟨w.heap.size + 1, 5, none⟩ = some (.slice none 0 0) := by rw [Lib.cell_of_heap hox]; rfl
    have zg5 := Lib.frozen_of_heap hox 5
    clear h6x hox hnb hlts
    go_wp2_with fail
    (try simp only [Exit.inBlock, Exit.then])
    refine bodyPost_ret (ret_out rfl _ _ (w.heap.size + 1) _ _ _ _ _ _ rfl (cells6_set HOX.out _ _ _ _ _ _)) rfl ?_
    refine ⟨_, rfl, ?_⟩
    have hnb := HBL.out
    have hlts := HLT.out
    exact did_set6 hcut.out.1 (Or.inl rfl) ((HKW5.out.trans hcut.out.2 (fun _ _ e => e)).mono (fun _ _ e => Or.inl e)) hnb.1 (by omega) (fun e => by have := hnb.2 _ e; omega) ((HOU5.out.kept hcut.out.2 (fun k _ hg e => by omega)).mono (fun k hk => ⟨⟨by omega, fun e => by have := hnb.2 _ e; omega⟩, by omega⟩)) _ _ _ _ _ _
set_option maxHeartbeats 4000000 in
theorem take_behind {w : World} {b : Nat} {lv : Value} {r : R} (h : RepAt w b lv r) (p : PM) (hp : p.ok (fun k => k ≠ b ∧ lv.ownBlock ≠ some k) w) (hm : Right r.id p.m) (hA : ¬ p.m.tm < r.h.tm) (hB : r.role ≠ 2) (hC : p.m.ix ≤ (r.l.length : Int) ∧ tI r.l p.m.ix = p.m.pv) (hK : agree r.l p.m.ix.toNat p.m.rs < p.m.rs.length) (hD : p.m.ix + agree r.l p.m.ix.toNat p.m.rs + 1 ≤ r.cm) : Calls Tryz.prog 65 #[.pointer (some ⟨b, 0, none⟩), p.val] w fun e w' => ∃ v, e = .returned v ∧ Did w w' b lv { r with role := 0 } v Out.zero := by
  obtain ⟨⟨mk, mfr, mdst, mtm, mix, mpv, mcm, myes, mrs⟩, ma, mc⟩ := p
  obtain ⟨L, hL⟩ : ∃ L : Nat, mrs.length = L := ⟨_, rfl⟩
  have HL := Lib.hid hL
  show Calls Tryz.prog _ #[_, .agg #[.int .i64 mk, .int .i64 mfr, .int .i64 mdst, .int .i64 mtm, .int .i64 mix, .int .i64 mpv, .int .i64 mcm, .bool myes, .slice ma mrs.length mc]] w _
  rw [hL]
  have HP := Lib.hid (show Src (fun k => k ≠ b ∧ lv.ownBlock ≠ some k) w ma mc mrs.length (recsV mrs) from hp)
  obtain ⟨W1, hW1⟩ : ∃ W1, W1 = (w.alloc (.cells #[.int .i64 mk, .int .i64 mfr, .int .i64 mdst, .int .i64 mtm, .int .i64 mix, .int .i64 mpv, .int .i64 mcm, .bool myes, .slice ma L mc] 24)).alloc (.cells #[.bool false, .int .i64 0, .int .i64 0, .int .i64 0, .slice none 0 0, .slice none 0 0] 42) := ⟨_, rfl⟩
  have hb1 : Below w.heap.size w W1 := by rw [hW1]; exact (below_new w _).trans ((below_new _ _).mono (by simp))
  have hx1 : PM.at ⟨⟨mk, mfr, mdst, mtm, mix, mpv, mcm, myes, mrs⟩, ma, mc⟩ W1 w.heap.size := by
    rw [hW1, ← hL]
    exact box_on (box_new w _) (below_new _ _)
  have ho1 : W1.heap[w.heap.size + 1]? = some (.cells #[.bool false, .int .i64 0, .int .i64 0, .int .i64 0, .slice none 0 0, .slice none 0 0] 42) := by
    rw [hW1]
    have := box_new (w.alloc (.cells #[.int .i64 mk, .int .i64 mfr, .int .i64 mdst, .int .i64 mtm, .int .i64 mix, .int .i64 mpv, .int .i64 mcm, .bool myes, .slice ma L mc] 24)) (.cells #[.bool false, .int .i64 0, .int .i64 0, .int .i64 0, .slice none 0 0, .slice none 0 0] 42)
    rw [show (w.alloc (.cells #[.int .i64 mk, .int .i64 mfr, .int .i64 mdst, .int .i64 mtm, .int .i64 mix, .int .i64 mpv, .int .i64 mcm, .bool myes, .slice ma L mc] 24)).heap.size = w.heap.size + 1 by simp] at this
    exact this
  have HS1 := Lib.hid (show w.heap.size + 2 = W1.heap.size by rw [hW1]; simp)
  have hr1 := h.on hb1
  have HBL := Lib.hid (show b < w.heap.size ∧ ∀ k, lv.ownBlock = some k → k < w.heap.size from ⟨h.lt, fun k e => h.row.lt e⟩)
  have HX1 := Lib.hid hx1
  have HO1 := Lib.hid ho1
  have HB1 := Lib.hid hb1
  have HR1 := Lib.hid hr1
  have HFI := Lib.hid h.fine
  have HMR := Lib.hid hm
  have c4 := hr1.c.c4
  have c1 := hr1.c.c1
  have f1 := hx1.c.c1
  have f3 := hx1.c.c3
  have hA : ¬ mtm < r.h.tm := hA
  have hAd : decide (mtm < r.h.tm) = false := by simp only [decide_eq_false_iff_not]; exact hA
  have eB : (r.role == 2) = false := by simp [hB]
  have hix : 0 ≤ mix ∧ mix ≤ 4000 := hm.ix
  have hix0 := hix.1
  have hix1 := hix.2
  have z4 := hr1.c.z 4
  have hsum : mix + (L : Int) ≤ 4000 := by rw [← hL]; exact hm.sum
  have hcm : 0 ≤ mcm ∧ mcm ≤ 4000 := hm.cm
  have hC : mix ≤ (r.l.length : Int) ∧ tI r.l mix = mpv := hC
  have HQ := Lib.hid (show decide (mix ≤ (r.l.length : Int) ∧ tI r.l mix = mpv) = true by rw [decide_eq_true_eq]; exact hC)
  have hCix := hC.1
  have hK : agree r.l mix.toNat mrs < mrs.length := hK
  clear hC
  clear h hp hm hL hb1 hx1 ho1 hr1 hB hix
  go_enter Tryz.func65, Tryz.ntmps65
  go_upto_region 1 with fail
  rw [← hW1]
  clear hW1
  go_quiet (fail)
  obtain ⟨W2, hW2⟩ : ∃ W2, W2 = (W1.drewN nq).setCell ⟨b, 4, none⟩ (.int .i64 0) := ⟨_, rfl⟩
  have hk2 : Kept (fun k => k = b) W1 W2 := by rw [hW2]; exact (Kept.below (below_drewN (Below.refl _ _) nq)).trans (Kept.set _ _ _ _) (fun _ _ e => e)
  have hr2 : RepAt W2 b lv { r with role := 0 } := by rw [hW2]; exact rep_follow (HR1.out.on (below_drewN (Below.refl _ _) nq))
  have hx2 : PM.at ⟨⟨mk, mfr, mdst, mtm, mix, mpv, mcm, myes, mrs⟩, ma, mc⟩ W2 w.heap.size := hk2.heap HX1.out (fun e => by have := HBL.out; omega)
  have HREP := Lib.hid hr2
  have HX2 := Lib.hid hx2
  have HOW := Lib.hid (hk2.heap HO1.out (fun e => by have := HBL.out; omega))
  have HKW := Lib.hid ((kept_b (b := b) HB1.out).trans hk2 (fun _ _ e => e))
  have QH := Lib.hid (has_c hr2 mix mpv hix0)
  have f1 := hx2.c.c1
  have f4 := hx2.c.c4
  have f5 := hx2.c.c5
  have f6 := hx2.c.c6
  have f8' := hx2.c.c8
  have f8 : W2.cell? ⟨w.heap.size, 8, none⟩ = some (.slice ma L mc) := by rw [← HL.out]; exact f8'
  have c3' := hr2.c.c3
  obtain ⟨la, lc, rfl, _⟩ := HREP.out.row.shape
  obtain ⟨l0, hl0⟩ : ∃ l0 : Nat, r.l.length = l0 := ⟨_, rfl⟩
  have HL0 := Lib.hid hl0
  have hl63 : (l0 : Int) ≤ 4000 := by have := HFI.out.len; omega
  have c3 : W2.cell? ⟨b, 3, none⟩ = some (.slice la l0 lc) := by rw [← hl0]; exact c3'
  clear hk2 hr2 hx2 f8' c3' hl0
  have hCix : mix ≤ (l0 : Int) := by rw [← HL0.out]; exact hCix
  have QH2 := Lib.hid (show Calls Tryz.prog 75 #[.pointer (some ⟨b, 0, none⟩), .int .i64 mix, .int .i64 mpv] W2 fun e w' => e = .returned (.bool true) ∧ w' = W2 by have := QH.out; rw [HQ.out] at this; exact this)
  obtain ⟨i0, hi0⟩ : ∃ i0 : Nat, mix = (i0 : Int) := ⟨mix.toNat, by omega⟩
  subst hi0
  have hL8 : (L : Int) ≤ 8 := by have := HMR.out.len; have e : mrs.length ≤ 8 := this; have := HL.out; omega
  obtain ⟨kk, hkk⟩ : ∃ kk : Nat, agree r.l i0 mrs = kk := ⟨_, rfl⟩
  have HKK := Lib.hid hkk
  have hkL : kk ≤ L := by rw [← hkk, ← HL.out]; exact agree_le _ _ _
  have hK : kk < L := by rw [Int.toNat_natCast, hkk, HL.out] at hK; exact hK
  have QA := Lib.hid (answer_h HREP.out mfr true ((i0 : Int) + (L : Int)))
  have hD : (i0 : Int) + (kk : Int) + 1 ≤ r.cm := by rw [← hkk]; have e : (i0 : Int) + ((agree r.l ((i0 : Int)).toNat mrs : Nat) : Int) + 1 ≤ r.cm := hD; rw [Int.toNat_natCast] at e; exact e
  clear QH hkk
  go_upto_region 6 with fail
  rw [← hW2]
  clear hW2 c4 z4 c1 f3
  go_upto_region 10 with (first | (go_at_call 75; with_reducible refine QH2.out.mono ?_; rintro e w1 ⟨rfl, hw⟩; rw [hw]; clear hw) | (go_at_call 74; with_reducible refine QA.out.mono ?_; rintro e w3 ⟨sb, rfl, HA⟩))
  obtain ⟨W4, hW4⟩ : ∃ W4, W4 = w3.alloc (.cells #[.bool false, .int .i64 0, .int .i64 0, .int .i64 0, .slice none 0 0, .slice (some ⟨sb, 0, none⟩) 1 1] 42) := ⟨_, rfl⟩
  have hb4 : Below W2.heap.size W2 W4 := by rw [hW4]; exact HA.out.2.2.2.alloc HA.out.2.2.2.size _
  have ho4 : W4.heap[w3.heap.size]? = some (.cells #[.bool false, .int .i64 0, .int .i64 0, .int .i64 0, .slice none 0 0, .slice (some ⟨sb, 0, none⟩) 1 1] 42 (0, 0)) := by rw [hW4]; exact box_new w3 _
  have HOU4 := Lib.hid (show OutIs (fun k => W2.heap.size ≤ k) W4 (.agg #[.bool false, .int .i64 0, .int .i64 0, .int .i64 0, .slice none 0 0, .slice (some ⟨sb, 0, none⟩) 1 1]) _ by rw [hW4]; exact HA.out.1.alloc _)
  have HSB4 := Lib.hid (show PM.at _ W4 sb by rw [hW4]; exact box_on HA.out.2.1 (below_new w3 _))
  have HX4 := Lib.hid (show PM.at ⟨⟨mk, mfr, mdst, mtm, (i0 : Int), mpv, mcm, myes, mrs⟩, ma, mc⟩ W4 w.heap.size from box_on HX2.out hb4)
  have HREP4 := Lib.hid (HREP.out.on hb4)
  have HLT := Lib.hid (show w.heap.size + 1 < W2.heap.size ∧ W2.heap.size ≤ w3.heap.size ∧ W2.heap.size ≤ sb ∧ sb < w3.heap.size from ⟨box_lt HOW.out, HA.out.2.2.2.size, HA.out.2.2.1, box_lt HA.out.2.1⟩)
  have HOW4 := Lib.hid (box_on HOW.out hb4)
  have HB6 := Lib.hid ho4
  have HKW4 := Lib.hid (HKW.out.trans (Kept.below (S := fun k => k = b) hb4) (fun _ _ e => e))
  have HP4 := Lib.hid (show Src (fun k => (k ≠ b ∧ (Value.slice la r.l.length lc).ownBlock ≠ some k) ∧ k < w.heap.size) W4 ma mc mrs.length (recsV mrs) from by
    have h1 := Src.mono (G' := fun k => (k ≠ b ∧ (Value.slice la r.l.length lc).ownBlock ≠ some k) ∧ k < w.heap.size) HP.out (fun k hk hg => ⟨hg, hk⟩) (fun h0 e => by have := recsV_length mrs; rw [e] at this; simp at this; omega)
    exact Src.kept h1 HKW4.out (fun k _ hg e => hg.1.1 e))
  have QK := Lib.hid (show Calls Tryz.prog 76 #[.pointer (some ⟨b, 0, none⟩), .agg #[.int .i64 mk, .int .i64 mfr, .int .i64 mdst, .int .i64 mtm, .int .i64 (i0 : Int), .int .i64 mpv, .int .i64 mcm, .bool myes, .slice ma L mc]] W4 fun e w' => e = .returned (.int .i64 ((kk : Nat) : Int)) ∧ Hid (Below W4.heap.size W4 w') from by
    have h1 := known_c HREP4.out ⟨⟨mk, mfr, mdst, mtm, (i0 : Int), mpv, mcm, myes, mrs⟩, ma, mc⟩ HP4.out (by show 0 ≤ (i0 : Int); omega) (by show (i0 : Int) + (mrs.length : Int) ≤ 4000; rw [HL.out]; exact hsum)
    refine Calls.mono (R := fun e w' => e = .returned (.int .i64 ((kk : Nat) : Int)) ∧ Below W4.heap.size W4 w') ?_ (fun e w' hh => ⟨hh.1, Lib.hid hh.2⟩)
    have e1 : agree r.l ((i0 : Int)).toNat mrs = kk := by rw [Int.toNat_natCast]; exact HKK.out
    have h2 : Calls Tryz.prog 76 #[.pointer (some ⟨b, 0, none⟩), .agg #[.int .i64 mk, .int .i64 mfr, .int .i64 mdst, .int .i64 mtm, .int .i64 (i0 : Int), .int .i64 mpv, .int .i64 mcm, .bool myes, .slice ma mrs.length mc]] W4 fun e w' => e = .returned (.int .i64 ((agree r.l ((i0 : Int)).toNat mrs : Nat) : Int)) ∧ Below W4.heap.size W4 w' := h1
    rw [e1, HL.out] at h2
    exact h2)
  have h0 := HX4.out.c.c0
  have h1 := HX4.out.c.c1
  have h2 := HX4.out.c.c2
  have h3 := HX4.out.c.c3
  have h4 := HX4.out.c.c4
  have h5 := HX4.out.c.c5
  have h6 := HX4.out.c.c6
  have h7 := HX4.out.c.c7
  have h8' := HX4.out.c.c8
  have h8 : W4.cell? ⟨w.heap.size, 8, none⟩ = some (.slice ma L mc) := by rw [← HL.out]; exact h8'
  rw [← hW4]
  clear hW4 hb4 ho4 h8' f1 f4 f5 f6 f8 c3
  go_upto_region 11 with (with_reducible refine QK.out.mono ?_; rintro e w5 ⟨rfl, HB5⟩)
  have HX5 := Lib.hid (show PM.at ⟨⟨mk, mfr, mdst, mtm, (i0 : Int), mpv, mcm, myes, mrs⟩, ma, mc⟩ w5 w.heap.size from box_on HX4.out HB5.out)
  have HREP5 := Lib.hid (HREP4.out.on HB5.out)
  clear h0 h1 h2 h3 h4 h5 h6 h7 h8
  have h4 := HX5.out.c.c4
  have h6 := HX5.out.c.c6
  have h8' := HX5.out.c.c8
  have h8 : w5.cell? ⟨w.heap.size, 8, none⟩ = some (.slice ma L mc) := by rw [← HL.out]; exact h8'
  have c5 := HREP5.out.c.c5
  have z5 := HREP5.out.c.z 5
  have HKW5 := Lib.hid (HKW4.out.trans (Kept.below (S := fun k => k = b) HB5.out) (fun _ _ e => e))
  have HOW5 := Lib.hid (box_on HOW4.out HB5.out)
  have HB65 := Lib.hid (box_on HB6.out HB5.out)
  have HOU5 := Lib.hid (HOU4.out.on HB5.out)
  have HSB5 := Lib.hid (box_on HSB4.out HB5.out)
  have hcb : 0 ≤ r.cm ∧ r.cm ≤ 4000 := by have := HFI.out.cm; have := HFI.out.len; omega
  clear h8'
  have hkL' : (kk : Int) < (L : Int) := by omega
  obtain ⟨A, hsl, hAd, hAn⟩ := rec_from ma L mc kk (by omega)
  obtain ⟨n, hn⟩ : ∃ n, L - kk = n := ⟨_, rfl⟩
  rw [hn] at hsl
  have HNN := Lib.hid hn
  have HPART := Lib.hid (fun (W : World) (hW : Kept (fun k => k = b ∨ (Value.slice la r.l.length lc).ownBlock = some k) W4 W) => (show Src (fun _ => True) W A (mc - kk) n (recsV (mrs.drop kk)) from by
    have h1 : Src (fun _ => True) W ma mc mrs.length (recsV mrs) := (Src.kept HP4.out hW (fun k _ hg e => e.elim (fun e => hg.1.1 e) (fun e => hg.1.2 e))).mono' (fun _ _ => trivial)
    have h2 := h1.part (k := kk) (n := n) hAd (by rw [HL.out]; omega)
    rwa [List.take_of_length_le (by rw [List.length_drop, HL.out]; omega)] at h2))
  have HNL := Lib.hid (show (mrs.drop kk).length = n by rw [List.length_drop, HL.out]; exact hn)
  have hmc : L ≤ mc := by have := HP4.out.1; rw [HL.out] at this; exact this
  clear hAd hAn hn hK
  go_upto_region 12 with fail
  go_quiet (fail)
  have hbA := below_drewN (Below.refl w5.heap.size w5) nq
  generalize w5.drewN nq = W6 at hbA ⊢
  have HB6A := Lib.hid hbA
  have HREP6 := Lib.hid (HREP5.out.on hbA)
  have HKW6 := Lib.hid (HKW5.out.trans (Kept.below (S := fun k => k = b) hbA) (fun _ _ e => e))
  have hox := box_on HOW5.out hbA
  have HOX := Lib.hid hox
  have c5 := HREP6.out.c.c5
  have g0 : W6.cell? ⟨w.heap.size + 1, 0, none⟩ = some (.bool false) := by rw [Lib.cell_of_heap hox]; rfl
  have zg0 := Lib.frozen_of_heap hox 0
  have g1 : W6.cell? ⟨w.heap.size + 1, 1, none⟩ = some (.int .i64 0) := by rw [Lib.cell_of_heap hox]; rfl
  have zg1 := Lib.frozen_of_heap hox 1
  have g2 : W6.cell? ⟨w.heap.size + 1, 2, none⟩ = some (.int .i64 0) := by rw [Lib.cell_of_heap hox]; rfl
  have zg2 := Lib.frozen_of_heap hox 2
  have g3 : W6.cell? ⟨w.heap.size + 1, 3, none⟩ = some (.int .i64 0) := by rw [Lib.cell_of_heap hox]; rfl
  have zg3 := Lib.frozen_of_heap hox 3
  have g4 : W6.cell? ⟨w.heap.size + 1, 4, none⟩ = some (.slice none 0 0) := by rw [Lib.cell_of_heap hox]; rfl
  have zg4 := Lib.frozen_of_heap hox 4
  have g5 : W6.cell? ⟨w.heap.size + 1, 5, none⟩ = some (.slice none 0 0) := by rw [Lib.cell_of_heap hox]; rfl
  have zg5 := Lib.frozen_of_heap hox 5
  clear hbA hox
  go_wp2_with fail
  (try simp only [Exit.inBlock, Exit.then])
  refine bodyPost_ret (ret_out rfl _ _ (w.heap.size + 1) _ _ _ _ _ _ rfl (cells6_set HOX.out _ _ _ _ _ _)) rfl ?_
  have hlts := HLT.out
  exact ⟨_, rfl, did_set6 HREP6.out (Or.inl rfl) (HKW6.out.mono (fun _ _ e => Or.inl e)) HBL.out.1 (by omega) (fun e => by have := HBL.out.2 _ e; omega) (OutIs.zero _ _) _ _ _ _ _ _⟩
end Go.Proofs.YtkmojcpiadpbaaaGreatDoor

namespace Go.Proofs.YtkmojcpiadpbaaaGreatDoor
set_option maxRecDepth 100000
open Go Go.RowKit Rp

theorem take_fine {r : R} {m : Msg} (hA : ¬ m.tm < r.h.tm) (hB : r.role ≠ 2) (hC : m.ix ≤ (r.l.length : Int) ∧ tI r.l m.ix = m.pv) (hK : agree r.l m.ix.toNat m.rs < m.rs.length) (hD : ¬ m.ix + agree r.l m.ix.toNat m.rs + 1 ≤ r.cm) :
    appendR r m = ({ r with role := 0, cm := max r.cm (min m.cm (m.ix + m.rs.length)), l := r.l.take (m.ix.toNat + agree r.l m.ix.toNat m.rs) ++ m.rs.drop (agree r.l m.ix.toNat m.rs) }, ⟨false, ⟨0, 0⟩, m.ix + agree r.l m.ix.toNat m.rs + 1, m.rs.drop (agree r.l m.ix.toNat m.rs), [{ msg r 3 m.fr with yes := true, ix := m.ix + m.rs.length }]⟩) := by
  unfold appendR
  rw [if_neg hA, if_neg hB, if_neg (fun w => by rcases w with w | w; omega; exact w hC.2)]
  show (if agree r.l m.ix.toNat m.rs < m.rs.length then _ else _ : R × Out) = _
  rw [if_pos hK, if_neg hD]
/-- The log is another one, the commit number not yet. -/
theorem fine_log {r : R} (h : Fine r) {l : List Rec} {c : Int} (hf : Fine { r with role := 0, cm := c, l := l }) (hc : r.cm ≤ (l.length : Int)) : Fine { r with role := 0, l := l } :=
  ⟨h.id, h.tm, h.vt, hf.len, hf.snd, hf.ord, Or.inl rfl, ⟨h.cm.1, hc⟩, (fun e => by cases e), (fun e => absurd rfl e), (fun e => by cases e), (fun e => by cases e), (fun e => by cases e)⟩
set_option maxHeartbeats 4000000 in
theorem take_new {w : World} {b : Nat} {lv : Value} {r : R} (h : RepAt w b lv r) (p : PM) (hp : p.ok (fun k => k ≠ b ∧ lv.ownBlock ≠ some k) w) (hm : Right r.id p.m) (hT : p.m.tm ≤ r.h.tm) (hA : ¬ p.m.tm < r.h.tm) (hB : r.role ≠ 2) (hC : p.m.ix ≤ (r.l.length : Int) ∧ tI r.l p.m.ix = p.m.pv) (hK : agree r.l p.m.ix.toNat p.m.rs < p.m.rs.length) (hD : ¬ p.m.ix + agree r.l p.m.ix.toNat p.m.rs + 1 ≤ r.cm) : Calls Tryz.prog 65 #[.pointer (some ⟨b, 0, none⟩), p.val] w fun e w' => ∃ v, e = .returned v ∧ Did w w' b lv (appendR r p.m).1 v (appendR r p.m).2 := by
  have hmod := take_fine hA hB hC hK hD
  have hfine := append_fine h.fine hm hT
  rw [hmod] at hfine ⊢
  obtain ⟨⟨mk, mfr, mdst, mtm, mix, mpv, mcm, myes, mrs⟩, ma, mc⟩ := p
  obtain ⟨L, hL⟩ : ∃ L : Nat, mrs.length = L := ⟨_, rfl⟩
  have HL := Lib.hid hL
  show Calls Tryz.prog _ #[_, .agg #[.int .i64 mk, .int .i64 mfr, .int .i64 mdst, .int .i64 mtm, .int .i64 mix, .int .i64 mpv, .int .i64 mcm, .bool myes, .slice ma mrs.length mc]] w _
  rw [hL]
  have HP := Lib.hid (show Src (fun k => k ≠ b ∧ lv.ownBlock ≠ some k) w ma mc mrs.length (recsV mrs) from hp)
  obtain ⟨W1, hW1⟩ : ∃ W1, W1 = (w.alloc (.cells #[.int .i64 mk, .int .i64 mfr, .int .i64 mdst, .int .i64 mtm, .int .i64 mix, .int .i64 mpv, .int .i64 mcm, .bool myes, .slice ma L mc] 24)).alloc (.cells #[.bool false, .int .i64 0, .int .i64 0, .int .i64 0, .slice none 0 0, .slice none 0 0] 42) := ⟨_, rfl⟩
  have hb1 : Below w.heap.size w W1 := by rw [hW1]; exact (below_new w _).trans ((below_new _ _).mono (by simp))
  have hx1 : PM.at ⟨⟨mk, mfr, mdst, mtm, mix, mpv, mcm, myes, mrs⟩, ma, mc⟩ W1 w.heap.size := by
    rw [hW1, ← hL]
    exact box_on (box_new w _) (below_new _ _)
  have ho1 : W1.heap[w.heap.size + 1]? = some (.cells #[.bool false, .int .i64 0, .int .i64 0, .int .i64 0, .slice none 0 0, .slice none 0 0] 42) := by
    rw [hW1]
    have := box_new (w.alloc (.cells #[.int .i64 mk, .int .i64 mfr, .int .i64 mdst, .int .i64 mtm, .int .i64 mix, .int .i64 mpv, .int .i64 mcm, .bool myes, .slice ma L mc] 24)) (.cells #[.bool false, .int .i64 0, .int .i64 0, .int .i64 0, .slice none 0 0, .slice none 0 0] 42)
    rw [show (w.alloc (.cells #[.int .i64 mk, .int .i64 mfr, .int .i64 mdst, .int .i64 mtm, .int .i64 mix, .int .i64 mpv, .int .i64 mcm, .bool myes, .slice ma L mc] 24)).heap.size = w.heap.size + 1 by simp] at this
    exact this
  have HS1 := Lib.hid (show w.heap.size + 2 = W1.heap.size by rw [hW1]; simp)
  have hr1 := h.on hb1
  have HBL := Lib.hid (show b < w.heap.size ∧ ∀ k, lv.ownBlock = some k → k < w.heap.size from ⟨h.lt, fun k e => h.row.lt e⟩)
  have HX1 := Lib.hid hx1
  have HO1 := Lib.hid ho1
  have HB1 := Lib.hid hb1
  have HR1 := Lib.hid hr1
  have HFI := Lib.hid h.fine
  have HMR := Lib.hid hm
  have c4 := hr1.c.c4
  have c1 := hr1.c.c1
  have f1 := hx1.c.c1
  have f3 := hx1.c.c3
  have hA : ¬ mtm < r.h.tm := hA
  have hAd : decide (mtm < r.h.tm) = false := by simp only [decide_eq_false_iff_not]; exact hA
  have eB : (r.role == 2) = false := by simp [hB]
  have hix : 0 ≤ mix ∧ mix ≤ 4000 := hm.ix
  have hix0 := hix.1
  have hix1 := hix.2
  have z4 := hr1.c.z 4
  have hsum : mix + (L : Int) ≤ 4000 := by rw [← hL]; exact hm.sum
  have hcm : 0 ≤ mcm ∧ mcm ≤ 4000 := hm.cm
  have hC : mix ≤ (r.l.length : Int) ∧ tI r.l mix = mpv := hC
  have HQ := Lib.hid (show decide (mix ≤ (r.l.length : Int) ∧ tI r.l mix = mpv) = true by rw [decide_eq_true_eq]; exact hC)
  have hCix := hC.1
  have hK : agree r.l mix.toNat mrs < mrs.length := hK
  clear hC
  have HF9 := Lib.hid hfine
  have HD := Lib.hid hD
  clear hmod hfine hD hT
  clear h hp hm hL hb1 hx1 ho1 hr1 hB hix
  go_enter Tryz.func65, Tryz.ntmps65
  go_upto_region 1 with fail
  rw [← hW1]
  clear hW1
  go_quiet (fail)
  obtain ⟨W2, hW2⟩ : ∃ W2, W2 = (W1.drewN nq).setCell ⟨b, 4, none⟩ (.int .i64 0) := ⟨_, rfl⟩
  have hk2 : Kept (fun k => k = b) W1 W2 := by rw [hW2]; exact (Kept.below (below_drewN (Below.refl _ _) nq)).trans (Kept.set _ _ _ _) (fun _ _ e => e)
  have hr2 : RepAt W2 b lv { r with role := 0 } := by rw [hW2]; exact rep_follow (HR1.out.on (below_drewN (Below.refl _ _) nq))
  have hx2 : PM.at ⟨⟨mk, mfr, mdst, mtm, mix, mpv, mcm, myes, mrs⟩, ma, mc⟩ W2 w.heap.size := hk2.heap HX1.out (fun e => by have := HBL.out; omega)
  have HREP := Lib.hid hr2
  have HX2 := Lib.hid hx2
  have HOW := Lib.hid (hk2.heap HO1.out (fun e => by have := HBL.out; omega))
  have HKW := Lib.hid ((kept_b (b := b) HB1.out).trans hk2 (fun _ _ e => e))
  have QH := Lib.hid (has_c hr2 mix mpv hix0)
  have f1 := hx2.c.c1
  have f4 := hx2.c.c4
  have f5 := hx2.c.c5
  have f6 := hx2.c.c6
  have f8' := hx2.c.c8
  have f8 : W2.cell? ⟨w.heap.size, 8, none⟩ = some (.slice ma L mc) := by rw [← HL.out]; exact f8'
  have c3' := hr2.c.c3
  obtain ⟨la, lc, rfl, _⟩ := HREP.out.row.shape
  obtain ⟨l0, hl0⟩ : ∃ l0 : Nat, r.l.length = l0 := ⟨_, rfl⟩
  have HL0 := Lib.hid hl0
  have hl63 : (l0 : Int) ≤ 4000 := by have := HFI.out.len; omega
  have c3 : W2.cell? ⟨b, 3, none⟩ = some (.slice la l0 lc) := by rw [← hl0]; exact c3'
  clear hk2 hr2 hx2 f8' c3' hl0
  have hCix : mix ≤ (l0 : Int) := by rw [← HL0.out]; exact hCix
  have QH2 := Lib.hid (show Calls Tryz.prog 75 #[.pointer (some ⟨b, 0, none⟩), .int .i64 mix, .int .i64 mpv] W2 fun e w' => e = .returned (.bool true) ∧ w' = W2 by have := QH.out; rw [HQ.out] at this; exact this)
  obtain ⟨i0, hi0⟩ : ∃ i0 : Nat, mix = (i0 : Int) := ⟨mix.toNat, by omega⟩
  subst hi0
  have hL8 : (L : Int) ≤ 8 := by have := HMR.out.len; have e : mrs.length ≤ 8 := this; have := HL.out; omega
  obtain ⟨kk, hkk⟩ : ∃ kk : Nat, agree r.l i0 mrs = kk := ⟨_, rfl⟩
  have HKK := Lib.hid hkk
  have hkL : kk ≤ L := by rw [← hkk, ← HL.out]; exact agree_le _ _ _
  have hK : kk < L := by rw [Int.toNat_natCast, hkk, HL.out] at hK; exact hK
  have QA := Lib.hid (answer_h HREP.out mfr true ((i0 : Int) + (L : Int)))
  have hD : ¬ (i0 : Int) + (kk : Int) + 1 ≤ r.cm := by rw [← hkk]; have e : ¬ (i0 : Int) + ((agree r.l ((i0 : Int)).toNat mrs : Nat) : Int) + 1 ≤ r.cm := HD.out; rw [Int.toNat_natCast] at e; exact e
  clear QH hkk
  go_upto_region 6 with fail
  rw [← hW2]
  clear hW2 c4 z4 c1 f3
  go_upto_region 10 with (first | (go_at_call 75; with_reducible refine QH2.out.mono ?_; rintro e w1 ⟨rfl, hw⟩; rw [hw]; clear hw) | (go_at_call 74; with_reducible refine QA.out.mono ?_; rintro e w3 ⟨sb, rfl, HA⟩))
  obtain ⟨W4, hW4⟩ : ∃ W4, W4 = w3.alloc (.cells #[.bool false, .int .i64 0, .int .i64 0, .int .i64 0, .slice none 0 0, .slice (some ⟨sb, 0, none⟩) 1 1] 42) := ⟨_, rfl⟩
  have hb4 : Below W2.heap.size W2 W4 := by rw [hW4]; exact HA.out.2.2.2.alloc HA.out.2.2.2.size _
  have ho4 : W4.heap[w3.heap.size]? = some (.cells #[.bool false, .int .i64 0, .int .i64 0, .int .i64 0, .slice none 0 0, .slice (some ⟨sb, 0, none⟩) 1 1] 42 (0, 0)) := by rw [hW4]; exact box_new w3 _
  have HOU4 := Lib.hid (show OutIs (fun k => W2.heap.size ≤ k) W4 (.agg #[.bool false, .int .i64 0, .int .i64 0, .int .i64 0, .slice none 0 0, .slice (some ⟨sb, 0, none⟩) 1 1]) _ by rw [hW4]; exact HA.out.1.alloc _)
  have HSB4 := Lib.hid (show PM.at _ W4 sb by rw [hW4]; exact box_on HA.out.2.1 (below_new w3 _))
  have HX4 := Lib.hid (show PM.at ⟨⟨mk, mfr, mdst, mtm, (i0 : Int), mpv, mcm, myes, mrs⟩, ma, mc⟩ W4 w.heap.size from box_on HX2.out hb4)
  have HREP4 := Lib.hid (HREP.out.on hb4)
  have HLT := Lib.hid (show w.heap.size + 1 < W2.heap.size ∧ W2.heap.size ≤ w3.heap.size ∧ W2.heap.size ≤ sb ∧ sb < w3.heap.size from ⟨box_lt HOW.out, HA.out.2.2.2.size, HA.out.2.2.1, box_lt HA.out.2.1⟩)
  have HOW4 := Lib.hid (box_on HOW.out hb4)
  have HB6 := Lib.hid ho4
  have HKW4 := Lib.hid (HKW.out.trans (Kept.below (S := fun k => k = b) hb4) (fun _ _ e => e))
  have HP4 := Lib.hid (show Src (fun k => (k ≠ b ∧ (Value.slice la r.l.length lc).ownBlock ≠ some k) ∧ k < w.heap.size) W4 ma mc mrs.length (recsV mrs) from by
    have h1 := Src.mono (G' := fun k => (k ≠ b ∧ (Value.slice la r.l.length lc).ownBlock ≠ some k) ∧ k < w.heap.size) HP.out (fun k hk hg => ⟨hg, hk⟩) (fun h0 e => by have := recsV_length mrs; rw [e] at this; simp at this; omega)
    exact Src.kept h1 HKW4.out (fun k _ hg e => hg.1.1 e))
  have QK := Lib.hid (show Calls Tryz.prog 76 #[.pointer (some ⟨b, 0, none⟩), .agg #[.int .i64 mk, .int .i64 mfr, .int .i64 mdst, .int .i64 mtm, .int .i64 (i0 : Int), .int .i64 mpv, .int .i64 mcm, .bool myes, .slice ma L mc]] W4 fun e w' => e = .returned (.int .i64 ((kk : Nat) : Int)) ∧ Hid (Below W4.heap.size W4 w') from by
    have h1 := known_c HREP4.out ⟨⟨mk, mfr, mdst, mtm, (i0 : Int), mpv, mcm, myes, mrs⟩, ma, mc⟩ HP4.out (by show 0 ≤ (i0 : Int); omega) (by show (i0 : Int) + (mrs.length : Int) ≤ 4000; rw [HL.out]; exact hsum)
    refine Calls.mono (R := fun e w' => e = .returned (.int .i64 ((kk : Nat) : Int)) ∧ Below W4.heap.size W4 w') ?_ (fun e w' hh => ⟨hh.1, Lib.hid hh.2⟩)
    have e1 : agree r.l ((i0 : Int)).toNat mrs = kk := by rw [Int.toNat_natCast]; exact HKK.out
    have h2 : Calls Tryz.prog 76 #[.pointer (some ⟨b, 0, none⟩), .agg #[.int .i64 mk, .int .i64 mfr, .int .i64 mdst, .int .i64 mtm, .int .i64 (i0 : Int), .int .i64 mpv, .int .i64 mcm, .bool myes, .slice ma mrs.length mc]] W4 fun e w' => e = .returned (.int .i64 ((agree r.l ((i0 : Int)).toNat mrs : Nat) : Int)) ∧ Below W4.heap.size W4 w' := h1
    rw [e1, HL.out] at h2
    exact h2)
  have h0 := HX4.out.c.c0
  have h1 := HX4.out.c.c1
  have h2 := HX4.out.c.c2
  have h3 := HX4.out.c.c3
  have h4 := HX4.out.c.c4
  have h5 := HX4.out.c.c5
  have h6 := HX4.out.c.c6
  have h7 := HX4.out.c.c7
  have h8' := HX4.out.c.c8
  have h8 : W4.cell? ⟨w.heap.size, 8, none⟩ = some (.slice ma L mc) := by rw [← HL.out]; exact h8'
  rw [← hW4]
  clear hW4 hb4 ho4 h8' f1 f4 f5 f6 f8 c3
  go_upto_region 11 with (with_reducible refine QK.out.mono ?_; rintro e w5 ⟨rfl, HB5⟩)
  have HX5 := Lib.hid (show PM.at ⟨⟨mk, mfr, mdst, mtm, (i0 : Int), mpv, mcm, myes, mrs⟩, ma, mc⟩ w5 w.heap.size from box_on HX4.out HB5.out)
  have HREP5 := Lib.hid (HREP4.out.on HB5.out)
  clear h0 h1 h2 h3 h4 h5 h6 h7 h8
  have h4 := HX5.out.c.c4
  have h6 := HX5.out.c.c6
  have h8' := HX5.out.c.c8
  have h8 : w5.cell? ⟨w.heap.size, 8, none⟩ = some (.slice ma L mc) := by rw [← HL.out]; exact h8'
  have c5 := HREP5.out.c.c5
  have z5 := HREP5.out.c.z 5
  have HKW5 := Lib.hid (HKW4.out.trans (Kept.below (S := fun k => k = b) HB5.out) (fun _ _ e => e))
  have HOW5 := Lib.hid (box_on HOW4.out HB5.out)
  have HB65 := Lib.hid (box_on HB6.out HB5.out)
  have HOU5 := Lib.hid (HOU4.out.on HB5.out)
  have HSB5 := Lib.hid (box_on HSB4.out HB5.out)
  have hcb : 0 ≤ r.cm ∧ r.cm ≤ 4000 := by have := HFI.out.cm; have := HFI.out.len; omega
  clear h8'
  have hkL' : (kk : Int) < (L : Int) := by omega
  obtain ⟨A, hsl, hAd, hAn⟩ := rec_from ma L mc kk (by omega)
  obtain ⟨n, hn⟩ : ∃ n, L - kk = n := ⟨_, rfl⟩
  rw [hn] at hsl
  have HNN := Lib.hid hn
  have HPART := Lib.hid (fun (W : World) (hW : Kept (fun k => k = b ∨ (Value.slice la r.l.length lc).ownBlock = some k) W4 W) => (show Src (fun _ => True) W A (mc - kk) n (recsV (mrs.drop kk)) from by
    have h1 : Src (fun _ => True) W ma mc mrs.length (recsV mrs) := (Src.kept HP4.out hW (fun k _ hg e => e.elim (fun e => hg.1.1 e) (fun e => hg.1.2 e))).mono' (fun _ _ => trivial)
    have h2 := h1.part (k := kk) (n := n) hAd (by rw [HL.out]; omega)
    rwa [List.take_of_length_le (by rw [List.length_drop, HL.out]; omega)] at h2))
  have HNL := Lib.hid (show (mrs.drop kk).length = n by rw [List.length_drop, HL.out]; exact hn)
  have hmc : L ≤ mc := by have := HP4.out.1; rw [HL.out] at this; exact this
  clear hAd hAn hn hK
  go_upto_region 12 with fail
  go_quiet (fail)
  have hbA := below_drewN (Below.refl w5.heap.size w5) nq
  generalize w5.drewN nq = W6 at hbA ⊢
  have HB6A := Lib.hid hbA
  have HREP6 := Lib.hid (HREP5.out.on hbA)
  have HKW6 := Lib.hid (HKW5.out.trans (Kept.below (S := fun k => k = b) hbA) (fun _ _ e => e))
  have hox := box_on HOW5.out hbA
  have HOX := Lib.hid hox
  have c5 := HREP6.out.c.c5
  have hj : i0 + kk ≤ l0 := by
    rcases Nat.eq_zero_or_pos kk with q | q
    · rw [q, Nat.add_zero]; omega
    · have := (agree_at r.l i0 mrs kk (by rw [HKK.out]; exact Nat.le_refl _) q).1
      have := HL0.out; omega
  have hlc : l0 ≤ lc := by
    obtain ⟨a', c', e, q1, _⟩ := HREP6.out.row.shape
    injection e with _ _ e
    subst e
    have : r.l.length ≤ lc := q1
    have := HL0.out; omega
  obtain ⟨N, hN⟩ : ∃ N : Int, max r.cm (min mcm ((i0 : Int) + (L : Int))) = N := ⟨_, rfl⟩
  have hsl2 := fun wx => rec_to la l0 lc (i0 + kk) (by omega) wx
  simp only [Int.natCast_add] at hsl2
  have hrow6 : RecRow W6 0 (.slice la (i0 + kk) lc) (r.l.take (i0 + kk)) := by
    have h1 := own_take HREP6.out.row (m := i0 + kk) (by show i0 + kk ≤ r.l.length; have := HL0.out; omega)
    rw [recsV_take] at h1
    have e : (r.l.take (i0 + kk)).length = i0 + kk := by rw [List.length_take]; have := HL0.out; omega
    unfold RecRow
    rw [e]
    exact h1
  have hk46 : Kept (fun k => k = b ∨ (Value.slice la r.l.length lc).ownBlock = some k) W4 W6 := (Kept.below HB5.out).trans (Kept.below (S := fun _ => False) hbA) (fun _ _ e => e.elim)
  have htl : (r.l.take (i0 + kk)).length = i0 + kk := by rw [List.length_take]; have := HL0.out; omega
  obtain ⟨a7, c7, w7, hr7, hrow7, hown7, hk7⟩ := app_recs W6 0 _ _ hrow6 A (mc - kk) (mrs.drop kk) (by rw [HNL.out]; exact HPART.out W6 hk46) (by rw [htl, HNL.out]; have := HNN.out; omega) (Nat.zero_le _)
  rw [htl, HNL.out] at hr7 hrow7 hown7
  have hoeq : (Value.slice la (i0 + kk) lc).ownBlock = (Value.slice la r.l.length lc).ownBlock := by cases la <;> rfl
  rw [hoeq] at hown7
  have hown7 : (Value.slice a7 (i0 + kk + n) c7).ownBlock = (Value.slice la r.l.length lc).ownBlock ∨ ∃ y, (Value.slice a7 (i0 + kk + n) c7).ownBlock = some y ∧ W6.heap.size ≤ y := hown7
  have hk7 : Kept (fun k => (Value.slice la r.l.length lc).ownBlock = some k) W6 w7 := by rw [← hoeq]; exact hk7
  have hblk7 := hk7.heap HREP6.out.blk (fun e => HREP6.out.apart e)
  obtain ⟨W8, hW8⟩ : ∃ W8, W8 = w7.setCell ⟨b, 3, none⟩ (.slice a7 (i0 + kk + n) c7) := ⟨_, rfl⟩
  have hk8 : Kept (fun k => k = b ∨ (Value.slice la r.l.length lc).ownBlock = some k) W6 W8 := by rw [hW8]; exact (hk7.mono (fun _ _ e => Or.inr e)).trans (Kept.set _ _ _ _) (fun _ _ e => Or.inl e)
  have hbs := HBL.out
  have hb6lt : w.heap.size < W6.heap.size := by have := box_lt hox; omega
  have hnb8 : (Value.slice a7 (i0 + kk + n) c7).ownBlock ≠ some b := fun e => by
    rcases hown7 with q | ⟨y, q, q2⟩
    · exact HREP6.out.apart (by rw [← q]; exact e)
    · rw [q] at e; injection e with e; omega
  have hr8 : RepAt W8 b (.slice a7 (i0 + kk + n) c7) { r with role := 0, l := r.l.take (i0 + kk) ++ mrs.drop kk } := by
    refine ⟨by rw [hW8]; exact box_set hblk7 3 _, ?_, hnb8, ?_⟩
    · rw [hW8]; exact hrow7.kept (Kept.set b 3 w7 _) (fun k e e' => hnb8 (by rw [e, e']))
    · have h9 := HF9.out
      have e2 : agree r.l ((i0 : Int)).toNat mrs = kk := by rw [Int.toNat_natCast]; exact HKK.out
      have h9 : Fine { r with role := 0, cm := max r.cm (min mcm ((i0 : Int) + (mrs.length : Int))), l := r.l.take (((i0 : Int)).toNat + agree r.l ((i0 : Int)).toNat mrs) ++ mrs.drop (agree r.l ((i0 : Int)).toNat mrs) } := h9
      rw [e2, Int.toNat_natCast] at h9
      exact fine_log HFI.out h9 (by rw [List.length_append, htl, HNL.out]; omega)
  have HR8 := Lib.hid hr8
  have HK8 := Lib.hid hk8
  have HR7 := Lib.hid hr7
  have HOWN := Lib.hid (fun k (e : (Value.slice a7 (i0 + kk + n) c7).ownBlock = some k) => (show k < w.heap.size ∨ (W6.heap.size ≤ k ∧ k < W8.heap.size) from by
    rcases hown7 with q | ⟨y, q, q2⟩
    · exact Or.inl (hbs.2 k (by rw [← q]; exact e))
    · exact Or.inr ⟨by rw [q] at e; injection e with e; omega, hr8.row.lt e⟩))
  have HOWN7 := Lib.hid hown7
  have QC := Lib.hid (show Calls Tryz.prog 43 #[.slice A n (mc - kk)] W8 fun e w' => ∃ a' c', e = .returned (.slice a' n c') ∧ Hid (RecRow w' W8.heap.size (.slice a' n c') (mrs.drop kk) ∧ Below W8.heap.size W8 w') from by
    have h1 := HPART.out W8 (hk46.trans hk8 (fun _ _ e => e))
    have h2 := clone_c A (mc - kk) (mrs.drop kk) W8 (by rw [HNL.out]; exact h1) (by rw [HNL.out]; have := HNN.out; omega)
    rw [HNL.out] at h2
    exact h2.mono (fun e w' hh => by
      obtain ⟨a', c', q1, q2, q3⟩ := hh
      exact ⟨a', c', q1, Lib.hid ⟨q2, q3⟩⟩))
  have c3 : W6.cell? ⟨b, 3, none⟩ = some (.slice la l0 lc) := by have := HREP6.out.c.c3; rw [← HL0.out]; exact this
  have c37 : w7.cell? ⟨b, 3, none⟩ = some (.slice la l0 lc) := by rw [← HL0.out, Lib.cell_of_heap hblk7]; rfl
  have z37 : w7.frozen? ⟨b, 3, none⟩ = false := Lib.frozen_of_heap hblk7 3
  have c56 := c5
  have HB6W := Lib.hid (box_on HB65.out hbA)
  have HSB6 := Lib.hid (box_on HSB5.out hbA)
  have HX6 := Lib.hid (box_on HX5.out hbA)
  have HTL := Lib.hid htl
  have HN := Lib.hid hN
  have HJB := Lib.hid (show r.cm ≤ (i0 : Int) + (kk : Int) by omega)
  have hbl8 := HBL.out
  have hlt8 := HLT.out
  have HB68 := Lib.hid (hk8.heap HB6W.out (fun e => by rcases e with e | e; omega; have := hbl8.2 _ e; omega))
  have HSB8 := Lib.hid (hk8.heap HSB6.out (fun e => by rcases e with e | e; omega; have := hbl8.2 _ e; omega))
  have HX8 := Lib.hid (hk8.heap HX6.out (fun e => by rcases e with e | e; omega; have := hbl8.2 _ e; omega))
  have HOX8 := Lib.hid (hk8.heap HOX.out (fun e => by rcases e with e | e; omega; have := hbl8.2 _ e; omega))
  clear hbl8 hlt8
  have hdd : ¬ (i0 : Int) + (kk : Int) + 1 ≤ r.cm := by omega
  have hdd2 : decide ((i0 : Int) + (kk : Int) + 1 ≤ r.cm) = false := by simp only [decide_eq_false_iff_not]; omega
  have hj' : (i0 : Int) + (kk : Int) ≤ 4000 := by omega
  clear hbA hox hr8 hk8 hr7 hown7 hk7 hrow7 hrow6 hblk7 hk46 hnb8 hbs hoeq hD
  go_upto_region 16 with (at_builtin; refine Lib.wpList_append_run _ rfl _ _ _ _ rfl _ _ rfl rfl _ w7 HR7.out ?_)
  rw [← hW8]
  clear hW8 c3 c37 z37 c56 c5 hsl hsl2
  go_upto_region 17 with ((with_reducible refine QC.out.mono ?_); rintro e w9 ⟨a9, c9, rfl, H9⟩; have h6w := box_on HB68.out H9.out.2; have u3 : w9.cell? ⟨w3.heap.size, 3, none⟩ = some (.int .i64 0) := by { rw [Lib.cell_of_heap h6w]; rfl }; have u4 : w9.cell? ⟨w3.heap.size, 4, none⟩ = some (.slice none 0 0) := by { rw [Lib.cell_of_heap h6w]; rfl }; have zu3 := Lib.frozen_of_heap h6w 3; have zu4 := Lib.frozen_of_heap h6w 4; clear h6w)
  obtain ⟨W10, hW10⟩ : ∃ W10, W10 = (w9.setCell ⟨w3.heap.size, 3, none⟩ (.int .i64 ((i0 : Int) + (kk : Int) + 1))).setCell ⟨w3.heap.size, 4, none⟩ (.slice a9 n c9) := ⟨_, rfl⟩
  have hk10 : Kept (fun k => k = w3.heap.size) w9 W10 := by rw [hW10]; exact (Kept.set _ _ _ _).trans (Kept.set _ _ _ _) (fun _ _ e => e)
  have hblk10 : W10.heap[w3.heap.size]? = some (.cells #[.bool false, .int .i64 0, .int .i64 0, .int .i64 ((i0 : Int) + (kk : Int) + 1), .slice a9 n c9, .slice (some ⟨sb, 0, none⟩) 1 1] 42 (0, 0)) := by
    have q1 : (w9.setCell ⟨w3.heap.size, 3, none⟩ (.int .i64 ((i0 : Int) + (kk : Int) + 1))).heap[w3.heap.size]? = some (.cells #[.bool false, .int .i64 0, .int .i64 0, .int .i64 ((i0 : Int) + (kk : Int) + 1), .slice none 0 0, .slice (some ⟨sb, 0, none⟩) 1 1] 42 (0, 0)) := box_set (box_on HB68.out H9.out.2) 3 _
    rw [hW10]
    exact box_set q1 4 _
  have hbl := HBL.out
  have hlts := HLT.out
  have hown := HOWN.out
  have hs89 := H9.out.2.size
  have hs6 : w3.heap.size < W6.heap.size := box_lt HB6W.out
  have hr10 : RepAt W10 b (.slice a7 (i0 + kk + n) c7) { r with role := 0, l := r.l.take (i0 + kk) ++ mrs.drop kk } := (HR8.out.on H9.out.2).kept hk10 (fun e => by omega) (fun k e e' => by have := hown k e; omega)
  have hx10 := hk10.heap (box_on HX8.out H9.out.2) (fun e => by omega)
  have c5 := hr10.c.c5
  have z5 := hr10.c.z 5
  have h6 : W10.cell? ⟨w.heap.size, 6, none⟩ = some (.int .i64 mcm) := (show PM.at ⟨⟨mk, mfr, mdst, mtm, (i0 : Int), mpv, mcm, myes, mrs⟩, ma, mc⟩ W10 w.heap.size from hx10).c.c6
  have HE := Lib.hid (rep_commit hr10 (n := N) (by
    have h1 := HFI.out.cm
    have h2 := HN.out
    have h3 := HJB.out
    show 0 ≤ N ∧ N ≤ ((r.l.take (i0 + kk) ++ mrs.drop kk).length : Int)
    rw [List.length_append, HTL.out, HNL.out]
    have h4 := HNN.out
    push_cast
    omega))
  have HB10 := Lib.hid hblk10
  have HK10 := Lib.hid hk10
  have HOX10 := Lib.hid (hk10.heap (box_on HOX8.out H9.out.2) (fun e => by omega))
  have HSB10 := Lib.hid (hk10.heap (box_on HSB8.out H9.out.2) (fun e => by omega))
  clear hk10 hblk10 hbl hlts hown hs89 hs6 hr10 hx10
  rw [← hW10]
  clear hW10 u3 u4 zu3 zu4
  go_cut [114] (fun t114 wx => Hid (RepAt wx b (.slice a7 (i0 + kk + n) c7) { r with role := 0, cm := N, l := r.l.take (i0 + kk) ++ mrs.drop kk } ∧ Kept (fun k => k = b) W10 wx))
  case first =>
    go_region
    all_goals
      go_wp2_with fail
      go_meet
      exact Lib.hid ⟨HE.out.1.on (below_drew (Below.refl _ _)), HE.out.2.trans (Kept.drew _ _) (fun _ _ e => e)⟩
  case rest =>
    have hbl := HBL.out
    have hlts := HLT.out
    have h6x := hcut.out.2.heap HB10.out (fun e => by omega)
    have hox := hcut.out.2.heap HOX10.out (fun e => by omega)
    have HOXX := Lib.hid hox
    have b0 : wc.cell? ⟨w3.heap.size, 0, none⟩ = some (.bool false) := by rw [Lib.cell_of_heap h6x]; rfl
    have zb0 := Lib.frozen_of_heap h6x 0
    have b1 : wc.cell? ⟨w3.heap.size, 1, none⟩ = some (.int .i64 0) := by rw [Lib.cell_of_heap h6x]; rfl
    have zb1 := Lib.frozen_of_heap h6x 1
    have b2 : wc.cell? ⟨w3.heap.size, 2, none⟩ = some (.int .i64 0) := by rw [Lib.cell_of_heap h6x]; rfl
    have zb2 := Lib.frozen_of_heap h6x 2
    have b3 : wc.cell? ⟨w3.heap.size, 3, none⟩ = some (.int .i64 ((i0 : Int) + (kk : Int) + 1)) := by rw [Lib.cell_of_heap h6x]; rfl
    have zb3 := Lib.frozen_of_heap h6x 3
    have b4 : wc.cell? ⟨w3.heap.size, 4, none⟩ = some (.slice a9 n c9) := by rw [Lib.cell_of_heap h6x]; rfl
    have zb4 := Lib.frozen_of_heap h6x 4
    have b5 : wc.cell? ⟨w3.heap.size, 5, none⟩ = some (.slice (some ⟨sb, 0, none⟩) 1 1) := by rw [Lib.cell_of_heap h6x]; rfl
    have zb5 := Lib.frozen_of_heap h6x 5
    have g0 : wc.cell? ⟨w.heap.size + 1, 0, none⟩ = some (.bool false) := by rw [Lib.cell_of_heap hox]; rfl
    have zg0 := Lib.frozen_of_heap hox 0
    have g1 : wc.cell? ⟨w.heap.size + 1, 1, none⟩ = some (.int .i64 0) := by rw [Lib.cell_of_heap hox]; rfl
    have zg1 := Lib.frozen_of_heap hox 1
    have g2 : wc.cell? ⟨w.heap.size + 1, 2, none⟩ = some (.int .i64 0) := by rw [Lib.cell_of_heap hox]; rfl
    have zg2 := Lib.frozen_of_heap hox 2
    have g3 : wc.cell? ⟨w.heap.size + 1, 3, none⟩ = some (.int .i64 0) := by rw [Lib.cell_of_heap hox]; rfl
    have zg3 := Lib.frozen_of_heap hox 3
    have g4 : wc.cell? ⟨w.heap.size + 1, 4, none⟩ = some (.slice none 0 0) := by rw [Lib.cell_of_heap hox]; rfl
    have zg4 := Lib.frozen_of_heap hox 4
    have g5 : wc.cell? ⟨w.heap.size + 1, 5, none⟩ = some (.slice none 0 0) := by rw [Lib.cell_of_heap hox]; rfl
    have zg5 := Lib.frozen_of_heap hox 5
    clear h6x hox hbl hlts
    go_wp2_with fail
    (try simp only [Exit.inBlock, Exit.then])
    refine bodyPost_ret (ret_out rfl _ _ (w.heap.size + 1) _ _ _ _ _ _ rfl (cells6_set HOXX.out _ _ _ _ _ _)) rfl ?_
    refine ⟨_, rfl, ?_⟩
    have hbl := HBL.out
    have hlts := HLT.out
    have hown := HOWN.out
    have hs89 := H9.out.2.size
    have hs6 : w3.heap.size < W6.heap.size := box_lt HB6W.out
    have hs68 := HK8.out.size
    have hat : PM.at ⟨{ msg r 3 mfr with yes := true, ix := (i0 : Int) + (L : Int) }, none, 0⟩ wc sb := hcut.out.2.heap HSB10.out (fun e => by omega)
    have hrow : RecRow wc W8.heap.size (.slice a9 n c9) (mrs.drop kk) := (H9.out.1.kept HK10.out (fun k e e' => by have := H9.out.1.above e; omega)).kept hcut.out.2 (fun k e e' => by have := H9.out.1.above e; omega)
    have hou : OutIs (fun k => (w.heap.size ≤ k ∧ (Value.slice a7 (i0 + kk + n) c7).ownBlock ≠ some k) ∧ k ≠ w.heap.size + 1) wc (.agg #[.bool false, .int .i64 0, .int .i64 0, .int .i64 ((i0 : Int) + (kk : Int) + 1), .slice a9 n c9, .slice (some ⟨sb, 0, none⟩) 1 1]) ⟨false, ⟨0, 0⟩, (i0 : Int) + (kk : Int) + 1, mrs.drop kk, [{ msg r 3 mfr with yes := true, ix := (i0 : Int) + (L : Int) }]⟩ := by
      have hsrc := hrow.src (G := fun k => (w.heap.size ≤ k ∧ (Value.slice a7 (i0 + kk + n) c7).ownBlock ≠ some k) ∧ k ≠ w.heap.size + 1) (fun k e => by
        have h1 := hrow.above e
        exact ⟨⟨by omega, fun e' => by have := hown k e'; omega⟩, by omega⟩)
      refine ⟨a9, c9, some ⟨sb, 0, none⟩, 1, [⟨{ msg r 3 mfr with yes := true, ix := (i0 : Int) + (L : Int) }, none, 0⟩], ?_, hsrc, rfl, hat.src ⟨⟨by omega, fun e' => by have := hown sb e'; omega⟩, by omega⟩, fun q hq => ?_⟩
      · show _ = Value.agg #[_, _, _, _, .slice a9 (mrs.drop kk).length c9, _]
        rw [HNL.out]
        rfl
      · obtain rfl := List.mem_singleton.1 hq
        exact Src.nil _ _
    have e2 : agree r.l ((i0 : Int)).toNat mrs = kk := by rw [Int.toNat_natCast]; exact HKK.out
    (try simp only [e2, Int.toNat_natCast, HL.out, HN.out])
    simp only [HKK.out]
    have hkk : Kept (fun k => k = b ∨ (Value.slice la r.l.length lc).ownBlock = some k) w wc :=
      ((((HKW6.out.mono (fun _ _ e => Or.inl e)).trans HK8.out (fun _ _ e => e)).trans (Kept.below (S := fun _ => False) H9.out.2) (fun _ _ e => e.elim)).trans HK10.out (fun k hk e => by omega)).trans hcut.out.2 (fun _ _ e => Or.inl e)
    refine did_set6 hcut.out.1 ?_ hkk hbl.1 (by omega) (fun e => by have := hown _ e; omega) hou _ _ _ _ _ _
    rcases HOWN7.out with q | ⟨y, q, q2⟩
    · exact Or.inl q
    · exact Or.inr ⟨y, q, by omega⟩
end Go.Proofs.YtkmojcpiadpbaaaGreatDoor
