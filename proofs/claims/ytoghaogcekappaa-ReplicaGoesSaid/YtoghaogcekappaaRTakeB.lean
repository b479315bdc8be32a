/-
  What a replica does with the entries of a leader that fit its log.
-/
import Derived.Test.YtoghaogcekappaaRTakeA
namespace Go.Proofs.Ytoghaogcekappaa
set_option maxRecDepth 100000
open Go Go.RowKit Rp

theorem OutIs.alloc {G : Nat → Prop} {w : World} {v : Value} {o : Out} (h : OutIs G w v o) (O : Obj) : OutIs G (w.alloc O) v o := h.on (below_new w O)
set_option maxHeartbeats 4000000 in
theorem take_all {w : World} {b : Nat} {lv : Value} {r : R} (h : RepAt w b lv r) (p : PM) (hp : p.ok (fun k => k ≠ b ∧ lv.ownBlock ≠ some k) w) (hm : Right r.id p.m) (hA : ¬ p.m.tm < r.h.tm) (hB : r.role ≠ 2) (hC : p.m.ix ≤ (r.l.length : Int) ∧ tI r.l p.m.ix = p.m.pv) (hK : agree r.l p.m.ix.toNat p.m.rs = p.m.rs.length) : Calls Try.prog 55 #[.pointer (some ⟨b, 0, none⟩), p.val] w fun e w' => ∃ v, e = .returned v ∧ Did w w' b lv { r with role := 0, cm := max r.cm (min p.m.cm (p.m.ix + p.m.rs.length)) } v (Out.just [{ msg r 3 p.m.fr with yes := true, ix := p.m.ix + p.m.rs.length }]) := by
  obtain ⟨⟨mk, mfr, mdst, mtm, mix, mpv, mcm, myes, mrs⟩, ma, mc⟩ := p
  obtain ⟨L, hL⟩ : ∃ L : Nat, mrs.length = L := ⟨_, rfl⟩
  have HL := Lib.hid hL
  show Calls Try.prog _ #[_, .agg #[.int .i64 mk, .int .i64 mfr, .int .i64 mdst, .int .i64 mtm, .int .i64 mix, .int .i64 mpv, .int .i64 mcm, .bool myes, .slice ma mrs.length mc]] w _
  rw [hL]
  have HP := Lib.hid (show Src (fun k => k ≠ b ∧ lv.ownBlock ≠ some k) w ma mc mrs.length (recsV mrs) from hp)
  obtain ⟨W1, hW1⟩ : ∃ W1, W1 = (w.alloc (.cells #[.int .i64 mk, .int .i64 mfr, .int .i64 mdst, .int .i64 mtm, .int .i64 mix, .int .i64 mpv, .int .i64 mcm, .bool myes, .slice ma L mc] 39)).alloc (.cells #[.bool false, .int .i64 0, .int .i64 0, .int .i64 0, .slice none 0 0, .slice none 0 0] 35) := ⟨_, rfl⟩
  have hb1 : Below w.heap.size w W1 := by rw [hW1]; exact (below_new w _).trans ((below_new _ _).mono (by simp))
  have hx1 : PM.at ⟨⟨mk, mfr, mdst, mtm, mix, mpv, mcm, myes, mrs⟩, ma, mc⟩ W1 w.heap.size := by
    rw [hW1, ← hL]
    exact box_on (box_new w _) (below_new _ _)
  have ho1 : W1.heap[w.heap.size + 1]? = some (.cells #[.bool false, .int .i64 0, .int .i64 0, .int .i64 0, .slice none 0 0, .slice none 0 0] 35) := by
    rw [hW1]
    have := box_new (w.alloc (.cells #[.int .i64 mk, .int .i64 mfr, .int .i64 mdst, .int .i64 mtm, .int .i64 mix, .int .i64 mpv, .int .i64 mcm, .bool myes, .slice ma L mc] 39)) (.cells #[.bool false, .int .i64 0, .int .i64 0, .int .i64 0, .slice none 0 0, .slice none 0 0] 35)
    rw [show (w.alloc (.cells #[.int .i64 mk, .int .i64 mfr, .int .i64 mdst, .int .i64 mtm, .int .i64 mix, .int .i64 mpv, .int .i64 mcm, .bool myes, .slice ma L mc] 39)).heap.size = w.heap.size + 1 by simp] at this
    exact this
  have HS1 := Lib.hid (show w.heap.size + 2 = W1.heap.size by rw [hW1]; simp)
  have hr1 := h.on hb1
  have HBL := Lib.hid (show b < w.heap.size ∧ ∀ k, lv.ownBlock = some k → k < w.heap.size from ⟨h.lt, fun k e => h.row.lt e⟩)
  have HX1 := Lib.hid hx1
  have HO1 := Lib.hid ho1
  have HB1 := Lib.hid hb1
  have HR1 := Lib.hid hr1
  have HFI := Lib.hid h.fine
  have HMR := Lib.hid hm
  have c4 := hr1.c.c4
  have c1 := hr1.c.c1
  have f1 := hx1.c.c1
  have f3 := hx1.c.c3
  have hA : ¬ mtm < r.h.tm := hA
  have hAd : decide (mtm < r.h.tm) = false := by simp only [decide_eq_false_iff_not]; exact hA
  have eB : (r.role == 2) = false := by simp [hB]
  have hix : 0 ≤ mix ∧ mix ≤ 4000 := hm.ix
  have hix0 := hix.1
  have hix1 := hix.2
  have z4 := hr1.c.z 4
  have hsum : mix + (L : Int) ≤ 4000 := by rw [← hL]; exact hm.sum
  have hcm : 0 ≤ mcm ∧ mcm ≤ 4000 := hm.cm
  have hC : mix ≤ (r.l.length : Int) ∧ tI r.l mix = mpv := hC
  have HQ := Lib.hid (show decide (mix ≤ (r.l.length : Int) ∧ tI r.l mix = mpv) = true by rw [decide_eq_true_eq]; exact hC)
  have hCix := hC.1
  have hK : agree r.l mix.toNat mrs = mrs.length := hK
  clear hC
  clear h hp hm hL hb1 hx1 ho1 hr1 hB hix
  go_enter Try.func55, Try.ntmps55
  go_upto_region 1 with fail
  rw [← hW1]
  clear hW1
  go_quiet (fail)
  obtain ⟨W2, hW2⟩ : ∃ W2, W2 = (W1.drewN nq).setCell ⟨b, 4, none⟩ (.int .i64 0) := ⟨_, rfl⟩
  have hk2 : Kept (fun k => k = b) W1 W2 := by rw [hW2]; exact (Kept.below (below_drewN (Below.refl _ _) nq)).trans (Kept.set _ _ _ _) (fun _ _ e => e)
  have hr2 : RepAt W2 b lv { r with role := 0 } := by rw [hW2]; exact rep_follow (HR1.out.on (below_drewN (Below.refl _ _) nq))
  have hx2 : PM.at ⟨⟨mk, mfr, mdst, mtm, mix, mpv, mcm, myes, mrs⟩, ma, mc⟩ W2 w.heap.size := hk2.heap HX1.out (fun e => by have := HBL.out; omega)
  have HREP := Lib.hid hr2
  have HX2 := Lib.hid hx2
  have HOW := Lib.hid (hk2.heap HO1.out (fun e => by have := HBL.out; omega))
  have HKW := Lib.hid ((kept_b (b := b) HB1.out).trans hk2 (fun _ _ e => e))
  have QH := Lib.hid (has_c hr2 mix mpv hix0)
  have f1 := hx2.c.c1
  have f4 := hx2.c.c4
  have f5 := hx2.c.c5
  have f6 := hx2.c.c6
  have f8' := hx2.c.c8
  have f8 : W2.cell? ⟨w.heap.size, 8, none⟩ = some (.slice ma L mc) := by rw [← HL.out]; exact f8'
  have c3' := hr2.c.c3
  obtain ⟨la, lc, rfl, _⟩ := HREP.out.row.shape
  obtain ⟨l0, hl0⟩ : ∃ l0 : Nat, r.l.length = l0 := ⟨_, rfl⟩
  have HL0 := Lib.hid hl0
  have hl63 : (l0 : Int) ≤ 4000 := by have := HFI.out.len; omega
  have c3 : W2.cell? ⟨b, 3, none⟩ = some (.slice la l0 lc) := by rw [← hl0]; exact c3'
  clear hk2 hr2 hx2 f8' c3' hl0
  have hCix : mix ≤ (l0 : Int) := by rw [← HL0.out]; exact hCix
  have QH2 := Lib.hid (show Calls Try.prog 62 #[.pointer (some ⟨b, 0, none⟩), .int .i64 mix, .int .i64 mpv] W2 fun e w' => e = .returned (.bool true) ∧ w' = W2 by have := QH.out; rw [HQ.out] at this; exact this)
  obtain ⟨i0, hi0⟩ : ∃ i0 : Nat, mix = (i0 : Int) := ⟨mix.toNat, by omega⟩
  subst hi0
  have hL8 : (L : Int) ≤ 8 := by have := HMR.out.len; have e : mrs.length ≤ 8 := this; have := HL.out; omega
  obtain ⟨kk, hkk⟩ : ∃ kk : Nat, agree r.l i0 mrs = kk := ⟨_, rfl⟩
  have HKK := Lib.hid hkk
  have hkL : kk ≤ L := by rw [← hkk, ← HL.out]; exact agree_le _ _ _
  have hK : kk = L := by rw [Int.toNat_natCast, hkk, HL.out] at hK; exact hK
  have QA := Lib.hid (answer_h HREP.out mfr true ((i0 : Int) + (L : Int)))
  clear QH hkk
  go_upto_region 6 with fail
  rw [← hW2]
  clear hW2 c4 z4 c1 f3
  go_upto_region 10 with (first | (go_at_call 62; with_reducible refine QH2.out.mono ?_; rintro e w1 ⟨rfl, hw⟩; rw [hw]; clear hw) | (go_at_call 61; with_reducible refine QA.out.mono ?_; rintro e w3 ⟨sb, rfl, HA⟩))
  obtain ⟨W4, hW4⟩ : ∃ W4, W4 = w3.alloc (.cells #[.bool false, .int .i64 0, .int .i64 0, .int .i64 0, .slice none 0 0, .slice (some ⟨sb, 0, none⟩) 1 1] 35) := ⟨_, rfl⟩
  have hb4 : Below W2.heap.size W2 W4 := by rw [hW4]; exact HA.out.2.2.2.alloc HA.out.2.2.2.size _
  have ho4 : W4.heap[w3.heap.size]? = some (.cells #[.bool false, .int .i64 0, .int .i64 0, .int .i64 0, .slice none 0 0, .slice (some ⟨sb, 0, none⟩) 1 1] 35 (0, 0)) := by rw [hW4]; exact box_new w3 _
  have HOU4 := Lib.hid (show OutIs (fun k => W2.heap.size ≤ k) W4 (.agg #[.bool false, .int .i64 0, .int .i64 0, .int .i64 0, .slice none 0 0, .slice (some ⟨sb, 0, none⟩) 1 1]) _ by rw [hW4]; exact HA.out.1.alloc _)
  have HSB4 := Lib.hid (show PM.at _ W4 sb by rw [hW4]; exact box_on HA.out.2.1 (below_new w3 _))
  have HX4 := Lib.hid (show PM.at ⟨⟨mk, mfr, mdst, mtm, (i0 : Int), mpv, mcm, myes, mrs⟩, ma, mc⟩ W4 w.heap.size from box_on HX2.out hb4)
  have HREP4 := Lib.hid (HREP.out.on hb4)
  have HLT := Lib.hid (show w.heap.size + 1 < W2.heap.size ∧ W2.heap.size ≤ w3.heap.size ∧ W2.heap.size ≤ sb ∧ sb < w3.heap.size from ⟨box_lt HOW.out, HA.out.2.2.2.size, HA.out.2.2.1, box_lt HA.out.2.1⟩)
  have HOW4 := Lib.hid (box_on HOW.out hb4)
  have HB6 := Lib.hid ho4
  have HKW4 := Lib.hid (HKW.out.trans (Kept.below (S := fun k => k = b) hb4) (fun _ _ e => e))
  have HP4 := Lib.hid (show Src (fun k => (k ≠ b ∧ (Value.slice la r.l.length lc).ownBlock ≠ some k) ∧ k < w.heap.size) W4 ma mc mrs.length (recsV mrs) from by
    have h1 := Src.mono (G' := fun k => (k ≠ b ∧ (Value.slice la r.l.length lc).ownBlock ≠ some k) ∧ k < w.heap.size) HP.out (fun k hk hg => ⟨hg, hk⟩) (fun h0 e => by have := recsV_length mrs; rw [e] at this; simp at this; omega)
    exact Src.kept h1 HKW4.out (fun k _ hg e => hg.1.1 e))
  have QK := Lib.hid (show Calls Try.prog 63 #[.pointer (some ⟨b, 0, none⟩), .agg #[.int .i64 mk, .int .i64 mfr, .int .i64 mdst, .int .i64 mtm, .int .i64 (i0 : Int), .int .i64 mpv, .int .i64 mcm, .bool myes, .slice ma L mc]] W4 fun e w' => e = .returned (.int .i64 ((kk : Nat) : Int)) ∧ Hid (Below W4.heap.size W4 w') from by
    have h1 := known_c HREP4.out ⟨⟨mk, mfr, mdst, mtm, (i0 : Int), mpv, mcm, myes, mrs⟩, ma, mc⟩ HP4.out (by show 0 ≤ (i0 : Int); omega) (by show (i0 : Int) + (mrs.length : Int) ≤ 4000; rw [HL.out]; exact hsum)
    refine Calls.mono (R := fun e w' => e = .returned (.int .i64 ((kk : Nat) : Int)) ∧ Below W4.heap.size W4 w') ?_ (fun e w' hh => ⟨hh.1, Lib.hid hh.2⟩)
    have e1 : agree r.l ((i0 : Int)).toNat mrs = kk := by rw [Int.toNat_natCast]; exact HKK.out
    have h2 : Calls Try.prog 63 #[.pointer (some ⟨b, 0, none⟩), .agg #[.int .i64 mk, .int .i64 mfr, .int .i64 mdst, .int .i64 mtm, .int .i64 (i0 : Int), .int .i64 mpv, .int .i64 mcm, .bool myes, .slice ma mrs.length mc]] W4 fun e w' => e = .returned (.int .i64 ((agree r.l ((i0 : Int)).toNat mrs : Nat) : Int)) ∧ Below W4.heap.size W4 w' := h1
    rw [e1, HL.out] at h2
    exact h2)
  have h0 := HX4.out.c.c0
  have h1 := HX4.out.c.c1
  have h2 := HX4.out.c.c2
  have h3 := HX4.out.c.c3
  have h4 := HX4.out.c.c4
  have h5 := HX4.out.c.c5
  have h6 := HX4.out.c.c6
  have h7 := HX4.out.c.c7
  have h8' := HX4.out.c.c8
  have h8 : W4.cell? ⟨w.heap.size, 8, none⟩ = some (.slice ma L mc) := by rw [← HL.out]; exact h8'
  rw [← hW4]
  clear hW4 hb4 ho4 h8' f1 f4 f5 f6 f8 c3
  go_upto_region 11 with (with_reducible refine QK.out.mono ?_; rintro e w5 ⟨rfl, HB5⟩)
  have HX5 := Lib.hid (show PM.at ⟨⟨mk, mfr, mdst, mtm, (i0 : Int), mpv, mcm, myes, mrs⟩, ma, mc⟩ w5 w.heap.size from box_on HX4.out HB5.out)
  have HREP5 := Lib.hid (HREP4.out.on HB5.out)
  clear h0 h1 h2 h3 h4 h5 h6 h7 h8
  have h4 := HX5.out.c.c4
  have h6 := HX5.out.c.c6
  have h8' := HX5.out.c.c8
  have h8 : w5.cell? ⟨w.heap.size, 8, none⟩ = some (.slice ma L mc) := by rw [← HL.out]; exact h8'
  have c5 := HREP5.out.c.c5
  have z5 := HREP5.out.c.z 5
  have HKW5 := Lib.hid (HKW4.out.trans (Kept.below (S := fun k => k = b) HB5.out) (fun _ _ e => e))
  have HOW5 := Lib.hid (box_on HOW4.out HB5.out)
  have HB65 := Lib.hid (box_on HB6.out HB5.out)
  have HOU5 := Lib.hid (HOU4.out.on HB5.out)
  have HSB5 := Lib.hid (box_on HSB4.out HB5.out)
  have hcb : 0 ≤ r.cm ∧ r.cm ≤ 4000 := by have := HFI.out.cm; have := HFI.out.len; omega
  clear h8'
  show_term skip
  obtain ⟨N, hN⟩ : ∃ N : Int, max r.cm (min mcm ((i0 : Int) + (L : Int))) = N := ⟨_, rfl⟩
  have HN := Lib.hid hN
  have HE := Lib.hid (rep_commit HREP5.out (n := N) (by
    have h1 := HFI.out.cm
    have e : agree r.l i0 mrs = L := by rw [HKK.out]; exact hK
    have h2 : i0 + L ≤ r.l.length := by
      rcases Nat.eq_zero_or_pos L with q | q
      · rw [q, Nat.add_zero]; have := HL0.out; omega
      · exact (agree_at r.l i0 mrs L (by omega) q).1
    show 0 ≤ N ∧ N ≤ (r.l.length : Int)
    omega))
  subst hK
  have hlt : ¬ (kk : Int) < (kk : Int) := by omega
  go_upto_region 17 with fail
  go_cut [114] (fun t114 wx => Hid (RepAt wx b (.slice la r.l.length lc) { r with role := 0, cm := N } ∧ Kept (fun k => k = b) w5 wx))
  case first =>
    go_region
    all_goals
      go_wp2_with fail
      go_meet
      exact Lib.hid ⟨HE.out.1.on (below_drew (Below.refl _ _)), HE.out.2.trans (Kept.drew _ _) (fun _ _ e => e)⟩
  case rest =>
    have hnb := HBL.out
    have hlts := HLT.out
    have h6x := hcut.out.2.heap HB65.out (fun e => by omega)
    have hox := hcut.out.2.heap HOW5.out (fun e => by omega)
    have HOX := Lib.hid hox
    have b0 : wc.cell? ⟨w3.heap.size, 0, none⟩ = some (.bool false) := by rw [Lib.cell_of_heap h6x]; rfl
    have zb0 := Lib.frozen_of_heap h6x 0
    have b1 : wc.cell? ⟨w3.heap.size, 1, none⟩ = some (.int .i64 0) := by rw [Lib.cell_of_heap h6x]; rfl
    have zb1 := Lib.frozen_of_heap h6x 1
    have b2 : wc.cell? ⟨w3.heap.size, 2, none⟩ = some (.int .i64 0) := by rw [Lib.cell_of_heap h6x]; rfl
    have zb2 := Lib.frozen_of_heap h6x 2
    have b3 : wc.cell? ⟨w3.heap.size, 3, none⟩ = some (.int .i64 0) := by rw [Lib.cell_of_heap h6x]; rfl
    have zb3 := Lib.frozen_of_heap h6x 3
    have b4 : wc.cell? ⟨w3.heap.size, 4, none⟩ = some (.slice none 0 0) := by rw [Lib.cell_of_heap h6x]; rfl
    have zb4 := Lib.frozen_of_heap h6x 4
    have b5 : wc.cell? ⟨w3.heap.size, 5, none⟩ = some (.slice (some ⟨sb, 0, none⟩) 1 1) := by rw [Lib.cell_of_heap h6x]; rfl
    have zb5 := Lib.frozen_of_heap h6x 5
    have g0 : wc.cell? ⟨w.heap.size + 1, 0, none⟩ = some (.bool false) := by rw [Lib.cell_of_heap hox]; rfl
    have zg0 := Lib.frozen_of_heap hox 0
    have g1 : wc.cell? ⟨w.heap.size + 1, 1, none⟩ = some (.int .i64 0) := by rw [Lib.cell_of_heap hox]; rfl
    have zg1 := Lib.frozen_of_heap hox 1
    have g2 : wc.cell? ⟨w.heap.size + 1, 2, none⟩ = some (.int .i64 0) := by rw [Lib.cell_of_heap hox]; rfl
    have zg2 := Lib.frozen_of_heap hox 2
    have g3 : wc.cell? ⟨w.heap.size + 1, 3, none⟩ = some (.int .i64 0) := by rw [Lib.cell_of_heap hox]; rfl
    have zg3 := Lib.frozen_of_heap hox 3
    have g4 : wc.cell? ⟨w.heap.size + 1, 4, none⟩ = some (.slice none 0 0) := by rw [Lib.cell_of_heap hox]; rfl
    have zg4 := Lib.frozen_of_heap hox 4
    have g5 : wc.cell? ⟨w.heap.size + 1, 5, none⟩ = some (.slice none 0 0) := by rw [Lib.cell_of_heap hox]; rfl
    have zg5 := Lib.frozen_of_heap hox 5
    clear h6x hox hnb hlts
    go_wp2_with fail
    (try simp only [Exit.inBlock, Exit.then])
    refine bodyPost_ret (ret_out rfl _ _ (w.heap.size + 1) _ _ _ _ _ _ rfl (cells6_set HOX.out _ _ _ _ _ _)) rfl ?_
    refine ⟨_, rfl, ?_⟩
    have hnb := HBL.out
    have hlts := HLT.out
    exact did_set6 hcut.out.1 (Or.inl rfl) ((HKW5.out.trans hcut.out.2 (fun _ _ e => e)).mono (fun _ _ e => Or.inl e)) hnb.1 (by omega) (fun e => by have := hnb.2 _ e; omega) ((HOU5.out.kept hcut.out.2 (fun k _ hg e => by omega)).mono (fun k hk => ⟨⟨by omega, fun e => by have := hnb.2 _ e; omega⟩, by omega⟩)) _ _ _ _ _ _
set_option maxHeartbeats 4000000 in
theorem take_behind {w : World} {b : Nat} {lv : Value} {r : R} (h : RepAt w b lv r) (p : PM) (hp : p.ok (fun k => k ≠ b ∧ lv.ownBlock ≠ some k) w) (hm : Right r.id p.m) (hA : ¬ p.m.tm < r.h.tm) (hB : r.role ≠ 2) (hC : p.m.ix ≤ (r.l.length : Int) ∧ tI r.l p.m.ix = p.m.pv) (hK : agree r.l p.m.ix.toNat p.m.rs < p.m.rs.length) (hD : p.m.ix + agree r.l p.m.ix.toNat p.m.rs + 1 ≤ r.cm) : Calls Try.prog 55 #[.pointer (some ⟨b, 0, none⟩), p.val] w fun e w' => ∃ v, e = .returned v ∧ Did w w' b lv { r with role := 0 } v Out.zero := by
  obtain ⟨⟨mk, mfr, mdst, mtm, mix, mpv, mcm, myes, mrs⟩, ma, mc⟩ := p
  obtain ⟨L, hL⟩ : ∃ L : Nat, mrs.length = L := ⟨_, rfl⟩
  have HL := Lib.hid hL
  show Calls Try.prog _ #[_, .agg #[.int .i64 mk, .int .i64 mfr, .int .i64 mdst, .int .i64 mtm, .int .i64 mix, .int .i64 mpv, .int .i64 mcm, .bool myes, .slice ma mrs.length mc]] w _
  rw [hL]
  have HP := Lib.hid (show Src (fun k => k ≠ b ∧ lv.ownBlock ≠ some k) w ma mc mrs.length (recsV mrs) from hp)
  obtain ⟨W1, hW1⟩ : ∃ W1, W1 = (w.alloc (.cells #[.int .i64 mk, .int .i64 mfr, .int .i64 mdst, .int .i64 mtm, .int .i64 mix, .int .i64 mpv, .int .i64 mcm, .bool myes, .slice ma L mc] 39)).alloc (.cells #[.bool false, .int .i64 0, .int .i64 0, .int .i64 0, .slice none 0 0, .slice none 0 0] 35) := ⟨_, rfl⟩
  have hb1 : Below w.heap.size w W1 := by rw [hW1]; exact (below_new w _).trans ((below_new _ _).mono (by simp))
  have hx1 : PM.at ⟨⟨mk, mfr, mdst, mtm, mix, mpv, mcm, myes, mrs⟩, ma, mc⟩ W1 w.heap.size := by
    rw [hW1, ← hL]
    exact box_on (box_new w _) (below_new _ _)
  have ho1 : W1.heap[w.heap.size + 1]? = some (.cells #[.bool false, .int .i64 0, .int .i64 0, .int .i64 0, .slice none 0 0, .slice none 0 0] 35) := by
    rw [hW1]
    have := box_new (w.alloc (.cells #[.int .i64 mk, .int .i64 mfr, .int .i64 mdst, .int .i64 mtm, .int .i64 mix, .int .i64 mpv, .int .i64 mcm, .bool myes, .slice ma L mc] 39)) (.cells #[.bool false, .int .i64 0, .int .i64 0, .int .i64 0, .slice none 0 0, .slice none 0 0] 35)
    rw [show (w.alloc (.cells #[.int .i64 mk, .int .i64 mfr, .int .i64 mdst, .int .i64 mtm, .int .i64 mix, .int .i64 mpv, .int .i64 mcm, .bool myes, .slice ma L mc] 39)).heap.size = w.heap.size + 1 by simp] at this
    exact this
  have HS1 := Lib.hid (show w.heap.size + 2 = W1.heap.size by rw [hW1]; simp)
  have hr1 := h.on hb1
  have HBL := Lib.hid (show b < w.heap.size ∧ ∀ k, lv.ownBlock = some k → k < w.heap.size from ⟨h.lt, fun k e => h.row.lt e⟩)
  have HX1 := Lib.hid hx1
  have HO1 := Lib.hid ho1
  have HB1 := Lib.hid hb1
  have HR1 := Lib.hid hr1
  have HFI := Lib.hid h.fine
  have HMR := Lib.hid hm
  have c4 := hr1.c.c4
  have c1 := hr1.c.c1
  have f1 := hx1.c.c1
  have f3 := hx1.c.c3
  have hA : ¬ mtm < r.h.tm := hA
  have hAd : decide (mtm < r.h.tm) = false := by simp only [decide_eq_false_iff_not]; exact hA
  have eB : (r.role == 2) = false := by simp [hB]
  have hix : 0 ≤ mix ∧ mix ≤ 4000 := hm.ix
  have hix0 := hix.1
  have hix1 := hix.2
  have z4 := hr1.c.z 4
  have hsum : mix + (L : Int) ≤ 4000 := by rw [← hL]; exact hm.sum
  have hcm : 0 ≤ mcm ∧ mcm ≤ 4000 := hm.cm
  have hC : mix ≤ (r.l.length : Int) ∧ tI r.l mix = mpv := hC
  have HQ := Lib.hid (show decide (mix ≤ (r.l.length : Int) ∧ tI r.l mix = mpv) = true by rw [decide_eq_true_eq]; exact hC)
  have hCix := hC.1
  have hK : agree r.l mix.toNat mrs < mrs.length := hK
  clear hC
  clear h hp hm hL hb1 hx1 ho1 hr1 hB hix
  go_enter Try.func55, Try.ntmps55
  go_upto_region 1 with fail
  rw [← hW1]
  clear hW1
  go_quiet (fail)
  obtain ⟨W2, hW2⟩ : ∃ W2, W2 = (W1.drewN nq).setCell ⟨b, 4, none⟩ (.int .i64 0) := ⟨_, rfl⟩
  have hk2 : Kept (fun k => k = b) W1 W2 := by rw [hW2]; exact (Kept.below (below_drewN (Below.refl _ _) nq)).trans (Kept.set _ _ _ _) (fun _ _ e => e)
  have hr2 : RepAt W2 b lv { r with role := 0 } := by rw [hW2]; exact rep_follow (HR1.out.on (below_drewN (Below.refl _ _) nq))
  have hx2 : PM.at ⟨⟨mk, mfr, mdst, mtm, mix, mpv, mcm, myes, mrs⟩, ma, mc⟩ W2 w.heap.size := hk2.heap HX1.out (fun e => by have := HBL.out; omega)
  have HREP := Lib.hid hr2
  have HX2 := Lib.hid hx2
  have HOW := Lib.hid (hk2.heap HO1.out (fun e => by have := HBL.out; omega))
  have HKW := Lib.hid ((kept_b (b := b) HB1.out).trans hk2 (fun _ _ e => e))
  have QH := Lib.hid (has_c hr2 mix mpv hix0)
  have f1 := hx2.c.c1
  have f4 := hx2.c.c4
  have f5 := hx2.c.c5
  have f6 := hx2.c.c6
  have f8' := hx2.c.c8
  have f8 : W2.cell? ⟨w.heap.size, 8, none⟩ = some (.slice ma L mc) := by rw [← HL.out]; exact f8'
  have c3' := hr2.c.c3
  obtain ⟨la, lc, rfl, _⟩ := HREP.out.row.shape
  obtain ⟨l0, hl0⟩ : ∃ l0 : Nat, r.l.length = l0 := ⟨_, rfl⟩
  have HL0 := Lib.hid hl0
  have hl63 : (l0 : Int) ≤ 4000 := by have := HFI.out.len; omega
  have c3 : W2.cell? ⟨b, 3, none⟩ = some (.slice la l0 lc) := by rw [← hl0]; exact c3'
  clear hk2 hr2 hx2 f8' c3' hl0
  have hCix : mix ≤ (l0 : Int) := by rw [← HL0.out]; exact hCix
  have QH2 := Lib.hid (show Calls Try.prog 62 #[.pointer (some ⟨b, 0, none⟩), .int .i64 mix, .int .i64 mpv] W2 fun e w' => e = .returned (.bool true) ∧ w' = W2 by have := QH.out; rw [HQ.out] at this; exact this)
  obtain ⟨i0, hi0⟩ : ∃ i0 : Nat, mix = (i0 : Int) := ⟨mix.toNat, by omega⟩
  subst hi0
  have hL8 : (L : Int) ≤ 8 := by have := HMR.out.len; have e : mrs.length ≤ 8 := this; have := HL.out; omega
  obtain ⟨kk, hkk⟩ : ∃ kk : Nat, agree r.l i0 mrs = kk := ⟨_, rfl⟩
  have HKK := Lib.hid hkk
  have hkL : kk ≤ L := by rw [← hkk, ← HL.out]; exact agree_le _ _ _
  have hK : kk < L := by rw [Int.toNat_natCast, hkk, HL.out] at hK; exact hK
  have QA := Lib.hid (answer_h HREP.out mfr true ((i0 : Int) + (L : Int)))
  have hD : (i0 : Int) + (kk : Int) + 1 ≤ r.cm := by rw [← hkk]; have e : (i0 : Int) + ((agree r.l ((i0 : Int)).toNat mrs : Nat) : Int) + 1 ≤ r.cm := hD; rw [Int.toNat_natCast] at e; exact e
  clear QH hkk
  go_upto_region 6 with fail
  rw [← hW2]
  clear hW2 c4 z4 c1 f3
  go_upto_region 10 with (first | (go_at_call 62; with_reducible refine QH2.out.mono ?_; rintro e w1 ⟨rfl, hw⟩; rw [hw]; clear hw) | (go_at_call 61; with_reducible refine QA.out.mono ?_; rintro e w3 ⟨sb, rfl, HA⟩))
  obtain ⟨W4, hW4⟩ : ∃ W4, W4 = w3.alloc (.cells #[.bool false, .int .i64 0, .int .i64 0, .int .i64 0, .slice none 0 0, .slice (some ⟨sb, 0, none⟩) 1 1] 35) := ⟨_, rfl⟩
  have hb4 : Below W2.heap.size W2 W4 := by rw [hW4]; exact HA.out.2.2.2.alloc HA.out.2.2.2.size _
  have ho4 : W4.heap[w3.heap.size]? = some (.cells #[.bool false, .int .i64 0, .int .i64 0, .int .i64 0, .slice none 0 0, .slice (some ⟨sb, 0, none⟩) 1 1] 35 (0, 0)) := by rw [hW4]; exact box_new w3 _
  have HOU4 := Lib.hid (show OutIs (fun k => W2.heap.size ≤ k) W4 (.agg #[.bool false, .int .i64 0, .int .i64 0, .int .i64 0, .slice none 0 0, .slice (some ⟨sb, 0, none⟩) 1 1]) _ by rw [hW4]; exact HA.out.1.alloc _)
  have HSB4 := Lib.hid (show PM.at _ W4 sb by rw [hW4]; exact box_on HA.out.2.1 (below_new w3 _))
  have HX4 := Lib.hid (show PM.at ⟨⟨mk, mfr, mdst, mtm, (i0 : Int), mpv, mcm, myes, mrs⟩, ma, mc⟩ W4 w.heap.size from box_on HX2.out hb4)
  have HREP4 := Lib.hid (HREP.out.on hb4)
  have HLT := Lib.hid (show w.heap.size + 1 < W2.heap.size ∧ W2.heap.size ≤ w3.heap.size ∧ W2.heap.size ≤ sb ∧ sb < w3.heap.size from ⟨box_lt HOW.out, HA.out.2.2.2.size, HA.out.2.2.1, box_lt HA.out.2.1⟩)
  have HOW4 := Lib.hid (box_on HOW.out hb4)
  have HB6 := Lib.hid ho4
  have HKW4 := Lib.hid (HKW.out.trans (Kept.below (S := fun k => k = b) hb4) (fun _ _ e => e))
  have HP4 := Lib.hid (show Src (fun k => (k ≠ b ∧ (Value.slice la r.l.length lc).ownBlock ≠ some k) ∧ k < w.heap.size) W4 ma mc mrs.length (recsV mrs) from by
    have h1 := Src.mono (G' := fun k => (k ≠ b ∧ (Value.slice la r.l.length lc).ownBlock ≠ some k) ∧ k < w.heap.size) HP.out (fun k hk hg => ⟨hg, hk⟩) (fun h0 e => by have := recsV_length mrs; rw [e] at this; simp at this; omega)
    exact Src.kept h1 HKW4.out (fun k _ hg e => hg.1.1 e))
  have QK := Lib.hid (show Calls Try.prog 63 #[.pointer (some ⟨b, 0, none⟩), .agg #[.int .i64 mk, .int .i64 mfr, .int .i64 mdst, .int .i64 mtm, .int .i64 (i0 : Int), .int .i64 mpv, .int .i64 mcm, .bool myes, .slice ma L mc]] W4 fun e w' => e = .returned (.int .i64 ((kk : Nat) : Int)) ∧ Hid (Below W4.heap.size W4 w') from by
    have h1 := known_c HREP4.out ⟨⟨mk, mfr, mdst, mtm, (i0 : Int), mpv, mcm, myes, mrs⟩, ma, mc⟩ HP4.out (by show 0 ≤ (i0 : Int); omega) (by show (i0 : Int) + (mrs.length : Int) ≤ 4000; rw [HL.out]; exact hsum)
    refine Calls.mono (R := fun e w' => e = .returned (.int .i64 ((kk : Nat) : Int)) ∧ Below W4.heap.size W4 w') ?_ (fun e w' hh => ⟨hh.1, Lib.hid hh.2⟩)
    have e1 : agree r.l ((i0 : Int)).toNat mrs = kk := by rw [Int.toNat_natCast]; exact HKK.out
    have h2 : Calls Try.prog 63 #[.pointer (some ⟨b, 0, none⟩), .agg #[.int .i64 mk, .int .i64 mfr, .int .i64 mdst, .int .i64 mtm, .int .i64 (i0 : Int), .int .i64 mpv, .int .i64 mcm, .bool myes, .slice ma mrs.length mc]] W4 fun e w' => e = .returned (.int .i64 ((agree r.l ((i0 : Int)).toNat mrs : Nat) : Int)) ∧ Below W4.heap.size W4 w' := h1
    rw [e1, HL.out] at h2
    exact h2)
  have h0 := HX4.out.c.c0
  have h1 := HX4.out.c.c1
  have h2 := HX4.out.c.c2
  have h3 := HX4.out.c.c3
  have h4 := HX4.out.c.c4
  have h5 := HX4.out.c.c5
  have h6 := HX4.out.c.c6
  have h7 := HX4.out.c.c7
  have h8' := HX4.out.c.c8
  have h8 : W4.cell? ⟨w.heap.size, 8, none⟩ = some (.slice ma L mc) := by rw [← HL.out]; exact h8'
  rw [← hW4]
  clear hW4 hb4 ho4 h8' f1 f4 f5 f6 f8 c3
  go_upto_region 11 with (with_reducible refine QK.out.mono ?_; rintro e w5 ⟨rfl, HB5⟩)
  have HX5 := Lib.hid (show PM.at ⟨⟨mk, mfr, mdst, mtm, (i0 : Int), mpv, mcm, myes, mrs⟩, ma, mc⟩ w5 w.heap.size from box_on HX4.out HB5.out)
  have HREP5 := Lib.hid (HREP4.out.on HB5.out)
  clear h0 h1 h2 h3 h4 h5 h6 h7 h8
  have h4 := HX5.out.c.c4
  have h6 := HX5.out.c.c6
  have h8' := HX5.out.c.c8
  have h8 : w5.cell? ⟨w.heap.size, 8, none⟩ = some (.slice ma L mc) := by rw [← HL.out]; exact h8'
  have c5 := HREP5.out.c.c5
  have z5 := HREP5.out.c.z 5
  have HKW5 := Lib.hid (HKW4.out.trans (Kept.below (S := fun k => k = b) HB5.out) (fun _ _ e => e))
  have HOW5 := Lib.hid (box_on HOW4.out HB5.out)
  have HB65 := Lib.hid (box_on HB6.out HB5.out)
  have HOU5 := Lib.hid (HOU4.out.on HB5.out)
  have HSB5 := Lib.hid (box_on HSB4.out HB5.out)
  have hcb : 0 ≤ r.cm ∧ r.cm ≤ 4000 := by have := HFI.out.cm; have := HFI.out.len; omega
  clear h8'
  have hkL' : (kk : Int) < (L : Int) := by omega
  obtain ⟨A, hsl, hAd, hAn⟩ := rec_from ma L mc kk (by omega)
  obtain ⟨n, hn⟩ : ∃ n, L - kk = n := ⟨_, rfl⟩
  rw [hn] at hsl
  have HNN := Lib.hid hn
  have HPART := Lib.hid (fun (W : World) (hW : Kept (fun k => k = b ∨ (Value.slice la r.l.length lc).ownBlock = some k) W4 W) => (show Src (fun _ => True) W A (mc - kk) n (recsV (mrs.drop kk)) from by
    have h1 : Src (fun _ => True) W ma mc mrs.length (recsV mrs) := (Src.kept HP4.out hW (fun k _ hg e => e.elim (fun e => hg.1.1 e) (fun e => hg.1.2 e))).mono' (fun _ _ => trivial)
    have h2 := h1.part (k := kk) (n := n) hAd (by rw [HL.out]; omega)
    rwa [List.take_of_length_le (by rw [List.length_drop, HL.out]; omega)] at h2))
  have HNL := Lib.hid (show (mrs.drop kk).length = n by rw [List.length_drop, HL.out]; exact hn)
  have hmc : L ≤ mc := by have := HP4.out.1; rw [HL.out] at this; exact this
  clear hAd hAn hn hK
  go_upto_region 12 with fail
  go_quiet (fail)
  have hbA := below_drewN (Below.refl w5.heap.size w5) nq
  generalize w5.drewN nq = W6 at hbA ⊢
  have HB6A := Lib.hid hbA
  have HREP6 := Lib.hid (HREP5.out.on hbA)
  have HKW6 := Lib.hid (HKW5.out.trans (Kept.below (S := fun k => k = b) hbA) (fun _ _ e => e))
  have hox := box_on HOW5.out hbA
  have HOX := Lib.hid hox
  have c5 := HREP6.out.c.c5
  have g0 : W6.cell? ⟨w.heap.size + 1, 0, none⟩ = some (.bool false) := by rw [Lib.cell_of_heap hox]; rfl
  have zg0 := Lib.frozen_of_heap hox 0
  have g1 : W6.cell? ⟨w.heap.size + 1, 1, none⟩ = some (.int .i64 0) := by rw [Lib.cell_of_heap hox]; rfl
  have zg1 := Lib.frozen_of_heap hox 1
  have g2 : W6.cell? ⟨w.heap.size + 1, 2, none⟩ = some (.int .i64 0) := by rw [Lib.cell_of_heap hox]; rfl
  have zg2 := Lib.frozen_of_heap hox 2
  have g3 : W6.cell? ⟨w.heap.size + 1, 3, none⟩ = some (.int .i64 0) := by rw [Lib.cell_of_heap hox]; rfl
  have zg3 := Lib.frozen_of_heap hox 3
  have g4 : W6.cell? ⟨w.heap.size + 1, 4, none⟩ = some (.slice none 0 0) := by rw [Lib.cell_of_heap hox]; rfl
  have zg4 := Lib.frozen_of_heap hox 4
  have g5 : W6.cell? ⟨w.heap.size + 1, 5, none⟩ = some (.slice none 0 0) := by rw [Lib.cell_of_heap hox]; rfl
  have zg5 := Lib.frozen_of_heap hox 5
  clear hbA hox
  go_wp2_with fail
  (try simp only [Exit.inBlock, Exit.then])
  refine bodyPost_ret (ret_out rfl _ _ (w.heap.size + 1) _ _ _ _ _ _ rfl (cells6_set HOX.out _ _ _ _ _ _)) rfl ?_
  have hlts := HLT.out
  exact ⟨_, rfl, did_set6 HREP6.out (Or.inl rfl) (HKW6.out.mono (fun _ _ e => Or.inl e)) HBL.out.1 (by omega) (fun e => by have := HBL.out.2 _ e; omega) (OutIs.zero _ _) _ _ _ _ _ _⟩
end Go.Proofs.Ytoghaogcekappaa
