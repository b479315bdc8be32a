/-
  A replica hears a message.
  A replica ticks.
-/
import Derived.Test.YtkmojcpiadpbaaaGreatDoorRHearL
namespace Go.Proofs.YtkmojcpiadpbaaaGreatDoor
set_option maxRecDepth 100000
open Go Go.RowKit Rp

set_option maxHeartbeats 4000000 in
theorem hear_c {w : World} {b : Nat} {lv : Value} {r : R} (h : RepAt w b lv r) (p : PM) (hp : p.ok (fun k => k ≠ b ∧ lv.ownBlock ≠ some k) w) (hn : p.m.rs.length ≤ 9223372036854775807) (hdd : ∀ x ∈ p.m.rs, x.d.length ≤ 9223372036854775807) : Calls Tryz.prog 14 #[.pointer (some ⟨b, 0, none⟩), p.val] w fun e w' => Did6 w w' b lv (hearR r p.m).1 (hearR r p.m).2 e := by
  obtain ⟨⟨mk, mfr, mdst, mtm, mix, mpv, mcm, myes, mrs⟩, ma, mc⟩ := p
  obtain ⟨L, hL⟩ : ∃ L : Nat, mrs.length = L := ⟨_, rfl⟩
  have HL := Lib.hid hL
  show Calls Tryz.prog _ #[_, .agg #[.int .i64 mk, .int .i64 mfr, .int .i64 mdst, .int .i64 mtm, .int .i64 mix, .int .i64 mpv, .int .i64 mcm, .bool myes, .slice ma mrs.length mc]] w _
  rw [hL]
  have HP := Lib.hid (show Src (fun k => k ≠ b ∧ lv.ownBlock ≠ some k) w ma mc mrs.length (recsV mrs) from hp)
  obtain ⟨W1, hW1⟩ : ∃ W1, W1 = (w.alloc (.cells #[.int .i64 mk, .int .i64 mfr, .int .i64 mdst, .int .i64 mtm, .int .i64 mix, .int .i64 mpv, .int .i64 mcm, .bool myes, .slice ma L mc] 24)).alloc (.cells #[.bool false, .int .i64 0, .int .i64 0, .int .i64 0, .slice none 0 0, .slice none 0 0] 42) := ⟨_, rfl⟩
  have hb1 : Below w.heap.size w W1 := by rw [hW1]; exact (below_new w _).trans ((below_new _ _).mono (by simp))
  have hx1 : PM.at ⟨⟨mk, mfr, mdst, mtm, mix, mpv, mcm, myes, mrs⟩, ma, mc⟩ W1 w.heap.size := by
    rw [hW1, ← hL]
    exact box_on (box_new w _) (below_new _ _)
  have ho1 : W1.heap[w.heap.size + 1]? = some (.cells #[.bool false, .int .i64 0, .int .i64 0, .int .i64 0, .slice none 0 0, .slice none 0 0] 42) := by
    rw [hW1]
    have := box_new (w.alloc (.cells #[.int .i64 mk, .int .i64 mfr, .int .i64 mdst, .int .i64 mtm, .int .i64 mix, .int .i64 mpv, .int .i64 mcm, .bool myes, .slice ma L mc] 24)) (.cells #[.bool false, .int .i64 0, .int .i64 0, .int .i64 0, .slice none 0 0, .slice none 0 0] 42)
    rw [show (w.alloc (.cells #[.int .i64 mk, .int .i64 mfr, .int .i64 mdst, .int .i64 mtm, .int .i64 mix, .int .i64 mpv, .int .i64 mcm, .bool myes, .slice ma L mc] 24)).heap.size = w.heap.size + 1 by simp] at this
    exact this
  have HS1 := Lib.hid (show w.heap.size + 2 = W1.heap.size by rw [hW1]; simp)
  have hr1 := h.on hb1
  have HBL := Lib.hid (show b < w.heap.size ∧ ∀ k, lv.ownBlock = some k → k < w.heap.size from ⟨h.lt, fun k e => h.row.lt e⟩)
  have HX1 := Lib.hid hx1
  have HO1 := Lib.hid ho1
  have HB1 := Lib.hid hb1
  have HR1 := Lib.hid hr1
  have f0 := hx1.c.c0
  have f1 := hx1.c.c1
  have f2 := hx1.c.c2
  have f3 := hx1.c.c3
  have f4 := hx1.c.c4
  have f5 := hx1.c.c5
  have f6 := hx1.c.c6
  have f7 := hx1.c.c7
  have f8' := hx1.c.c8
  have f8 : W1.cell? ⟨w.heap.size, 8, none⟩ = some (.slice ma L mc) := by rw [← hL]; exact f8'
  have hok1 : PM.ok (fun k => k ≠ b ∧ lv.ownBlock ≠ some k) W1 ⟨⟨mk, mfr, mdst, mtm, mix, mpv, mcm, myes, mrs⟩, ma, mc⟩ := Src.on HP.out hb1
  obtain ⟨y, hy⟩ : ∃ y, right r.id ⟨mk, mfr, mdst, mtm, mix, mpv, mcm, myes, mrs⟩ = y := ⟨_, rfl⟩
  have HY := Lib.hid hy
  have QR := Lib.hid (show Calls Tryz.prog 47 #[.pointer (some ⟨b, 0, none⟩), .agg #[.int .i64 mk, .int .i64 mfr, .int .i64 mdst, .int .i64 mtm, .int .i64 mix, .int .i64 mpv, .int .i64 mcm, .bool myes, .slice ma L mc]] W1 fun e w' => e = .returned (.bool y) ∧ Hid (Below W1.heap.size W1 w') from by
    have h1 : Calls Tryz.prog 47 #[.pointer (some ⟨b, 0, none⟩), .agg #[.int .i64 mk, .int .i64 mfr, .int .i64 mdst, .int .i64 mtm, .int .i64 mix, .int .i64 mpv, .int .i64 mcm, .bool myes, .slice ma mrs.length mc]] W1 fun e w' => e = .returned (.bool (right r.id ⟨mk, mfr, mdst, mtm, mix, mpv, mcm, myes, mrs⟩)) ∧ Below W1.heap.size W1 w' := right_c hr1 _ hok1 hn hdd
    rw [hL, hy] at h1
    exact h1)
  clear h hp hn hdd hx1 ho1 hr1 hb1 f8' hok1 hL hy
  show Calls _ _ _ _ (fun e w' => Did6 w w' b lv (hearR r ⟨mk, mfr, mdst, mtm, mix, mpv, mcm, myes, mrs⟩).1 (hearR r ⟨mk, mfr, mdst, mtm, mix, mpv, mcm, myes, mrs⟩).2 e)
  cases y with
  | false =>
    rw [hear_wrong HY.out]
    go_enter Tryz.func14, Tryz.ntmps14
    go_upto_region 1 with fail
    rw [← hW1]
    clear hW1
    go_wp2_with ((with_reducible refine QR.out.mono ?_); rintro e w2 ⟨rfl, HB2⟩; have HOZ := Lib.hid (box_on HO1.out HB2.out); have hoz := ozc HOZ.out; have g0 := hoz.c0; have g1 := hoz.c1; have g2 := hoz.c2; have g3 := hoz.c3; have g4 := hoz.c4; have g5 := hoz.c5; have y0 := hoz.z 0; have y1 := hoz.z 1; have y2 := hoz.z 2; have y3 := hoz.z 3; have y4 := hoz.z 4; have y5 := hoz.z 5; clear hoz)
    (try simp only [Exit.inBlock, Exit.then])
    refine bodyPost_ret (ret_out rfl _ _ (w.heap.size + 1) _ _ _ _ _ _ rfl (cells6_set HOZ.out _ _ _ _ _ _)) rfl ?_
    exact (did_set6 (HR1.out.on HB2.out) (Or.inl rfl) ((Kept.below (S := fun k => k = b ∨ lv.ownBlock = some k) HB1.out).trans (Kept.below (S := fun _ => False) HB2.out) (fun _ _ e => e.elim)) HBL.out.1 (by omega) (fun e => by have := HBL.out.2 _ e; omega) (OutIs.zero _ _) _ _ _ _ _ _).six
  | true =>
    have HMR := Lib.hid (right_iff.1 HY.out)
    rw [hear_right HY.out]
    obtain ⟨RL, hRL⟩ : ∃ RL, later r ⟨mk, mfr, mdst, mtm, mix, mpv, mcm, myes, mrs⟩ = RL := ⟨_, rfl⟩
    have HRL := Lib.hid hRL
    rw [hRL]
    clear hRL
    obtain ⟨KR, KO, hKR⟩ : ∃ KR KO, kindR RL ⟨mk, mfr, mdst, mtm, mix, mpv, mcm, myes, mrs⟩ = (KR, KO) := ⟨_, _, rfl⟩
    have HKR := Lib.hid hKR
    rw [hKR]
    clear hKR
    show Calls _ _ _ _ (fun e w' => Did6 w w' b lv KR (if KR.h = r.h then KO else { KO with save := true, h := KR.h }) e)
    by_cases hT : r.h.tm < mtm
    · have HT := Lib.hid hT
      go_enter Tryz.func14, Tryz.ntmps14
      go_upto_region 1 with fail
      rw [← hW1]
      clear hW1
      go_upto_region 3 with ((with_reducible refine QR.out.mono ?_); rintro e w2 ⟨rfl, HB2⟩)
      have HR2 := Lib.hid (HR1.out.on HB2.out)
      have c1 := HR2.out.c.c1
      have c2 := HR2.out.c.c2
      obtain ⟨W3, hW3⟩ : ∃ W3, W3 = w2.alloc (.cells #[.int .i64 r.h.tm, .int .i64 r.h.vt] 39) := ⟨_, rfl⟩
      have hb3 : Below W1.heap.size W1 W3 := by rw [hW3]; exact HB2.out.alloc HB2.out.size _
      have h53 : W3.heap[w2.heap.size]? = some (.cells #[.int .i64 r.h.tm, .int .i64 r.h.vt] 39 (0, 0)) := by rw [hW3]; exact box_new w2 _
      have HB3 := Lib.hid hb3
      have H53 := Lib.hid h53
      clear hb3 h53 f0 f1 f2 f3 f4 f5 f6 f7 f8
      go_upto_region 4 with fail
      rw [← hW3]
      clear hW3 c1 c2
      have HX3 := Lib.hid (show PM.at ⟨⟨mk, mfr, mdst, mtm, mix, mpv, mcm, myes, mrs⟩, ma, mc⟩ W3 w.heap.size from box_on HX1.out HB3.out)
      have f3 := HX3.out.c.c3
      have c1 := (HR1.out.on HB3.out).c.c1
      go_quiet (fail)
      have hbA := HB3.out.trans ((below_drewN (Below.refl W3.heap.size W3) nq).mono HB3.out.size)
      have h5A : (W3.drewN nq).heap[w2.heap.size]? = some (.cells #[.int .i64 r.h.tm, .int .i64 r.h.vt] 39 (0, 0)) := H53.out
      generalize W3.drewN nq = W4 at hbA h5A ⊢
      have HBA := Lib.hid hbA
      have H5A := Lib.hid h5A
      clear hbA h5A f3 c1
      have HR4 := Lib.hid (HR1.out.on HBA.out)
      have c1 := HR4.out.c.c1
      have c2 := HR4.out.c.c2
      have c4 := HR4.out.c.c4
      have z1 := HR4.out.c.z 1
      have z2 := HR4.out.c.z 2
      have z4 := HR4.out.c.z 4
      have f3 := (show PM.at ⟨⟨mk, mfr, mdst, mtm, mix, mpv, mcm, myes, mrs⟩, ma, mc⟩ W4 w.heap.size from box_on HX1.out HBA.out).c.c3
      obtain ⟨W5, hW5⟩ : ∃ W5, W5 = ((W4.setCell ⟨b, 1, none⟩ (.int .i64 mtm)).setCell ⟨b, 2, none⟩ (.int .i64 (-1))).setCell ⟨b, 4, none⟩ (.int .i64 0) := ⟨_, rfl⟩
      have hlat := rep_later (m := ⟨mk, mfr, mdst, mtm, mix, mpv, mcm, myes, mrs⟩) HR4.out HMR.out HT.out
      rw [HRL.out] at hlat
      have HREP := Lib.hid (show RepAt W5 b lv RL by rw [hW5]; exact hlat)
      clear hlat
      have HK5 := Lib.hid (show Kept (fun k => k = b) W4 W5 by rw [hW5]; exact ((Kept.set _ _ _ _).trans (Kept.set _ _ _ _) (fun _ _ e => e)).trans (Kept.set _ _ _ _) (fun _ _ e => e))
      go_upto_region 7 with fail
      rw [← hW5]
      clear hW5 c1 c2 c4 z1 z2 z4 f3
      have HX5 := Lib.hid (show PM.at ⟨⟨mk, mfr, mdst, mtm, mix, mpv, mcm, myes, mrs⟩, ma, mc⟩ W5 w.heap.size from HK5.out.heap (box_on HX1.out HBA.out) (fun e => by have := HBL.out; omega))
      have HOW5 := Lib.hid (HK5.out.heap (box_on HO1.out HBA.out) (fun e => by have := HBL.out; omega))
      have HKW5 := Lib.hid ((Kept.below (S := fun k => k = b) (HB1.out.trans (HBA.out.mono HB1.out.size))).trans HK5.out (fun _ _ e => e))
      have H55 := Lib.hid (HK5.out.heap H5A.out (fun e => by have := HBL.out; have := HB2.out.size; have := HS1.out; omega))
      have HLF := Lib.hid (later_fine HR1.out.fine HMR.out)
      have QX := Lib.hid (show Calls Tryz.prog 48 #[.pointer (some ⟨b, 0, none⟩), .agg #[.int .i64 mk, .int .i64 mfr, .int .i64 mdst, .int .i64 mtm, .int .i64 mix, .int .i64 mpv, .int .i64 mcm, .bool myes, .slice ma L mc]] W5 fun e w' => Did6 W5 w' b lv KR KO e from by
        have hid : RL.id = r.id := by rw [← HRL.out]; exact HLF.out.2.2
        have hTT : mtm ≤ RL.h.tm := by rw [← HRL.out]; exact HLF.out.2.1
        have hok5 : PM.ok (fun k => k ≠ b ∧ lv.ownBlock ≠ some k) W5 ⟨⟨mk, mfr, mdst, mtm, mix, mpv, mcm, myes, mrs⟩, ma, mc⟩ := Src.kept HP.out HKW5.out (fun k _ hg e => hg.1 e)
        have h1 : Calls Tryz.prog 48 #[.pointer (some ⟨b, 0, none⟩), .agg #[.int .i64 mk, .int .i64 mfr, .int .i64 mdst, .int .i64 mtm, .int .i64 mix, .int .i64 mpv, .int .i64 mcm, .bool myes, .slice ma mrs.length mc]] W5 fun e w' => Did6 W5 w' b lv (kindR RL ⟨mk, mfr, mdst, mtm, mix, mpv, mcm, myes, mrs⟩).1 (kindR RL ⟨mk, mfr, mdst, mtm, mix, mpv, mcm, myes, mrs⟩).2 e := handle_c HREP.out ⟨⟨mk, mfr, mdst, mtm, mix, mpv, mcm, myes, mrs⟩, ma, mc⟩ hok5 (by rw [hid]; exact HMR.out) hTT
        rw [HL.out, HKR.out] at h1
        exact h1)
      have f0 := HX5.out.c.c0
      have f1 := HX5.out.c.c1
      have f2 := HX5.out.c.c2
      have f3 := HX5.out.c.c3
      have f4 := HX5.out.c.c4
      have f5 := HX5.out.c.c5
      have f6 := HX5.out.c.c6
      have f7 := HX5.out.c.c7
      have f8' := HX5.out.c.c8
      have f8 : W5.cell? ⟨w.heap.size, 8, none⟩ = some (.slice ma L mc) := by rw [← HL.out]; exact f8'
      clear f8'
      go_upto_region 8 with ((with_reducible refine QX.out.mono ?_); rintro e w6 ⟨xs, xt, xv, xf, xa, xn, xc, ya, yn, yc, rfl, HD⟩)
      obtain ⟨W7, hW7⟩ : ∃ W7, W7 = w6.alloc (.cells #[.bool xs, .int .i64 xt, .int .i64 xv, .int .i64 xf, .slice xa xn xc, .slice ya yn yc] 42) := ⟨_, rfl⟩
      have HB7 := Lib.hid (show Below w6.heap.size w6 W7 by rw [hW7]; exact below_new _ _)
      have H67 := Lib.hid (show W7.heap[w6.heap.size]? = some (.cells #[.bool xs, .int .i64 xt, .int .i64 xv, .int .i64 xf, .slice xa xn xc, .slice ya yn yc] 42 (0, 0)) by rw [hW7]; exact box_new w6 _)
      rw [← hW7]
      clear hW7 f0 f1 f2 f3 f4 f5 f6 f7 f8
      obtain ⟨HRK, HSZ⟩ : (∃ lv', RepAt W7 b lv' KR) ∧ W5.heap.size ≤ w6.heap.size := by
        obtain ⟨lv', q1, _, q3, _⟩ := HD.out
        exact ⟨⟨lv', q1.on HB7.out⟩, q3.size⟩
      obtain ⟨lv', hrk⟩ := HRK
      have HRK := Lib.hid hrk
      have c1 := hrk.c.c1
      have c2 := hrk.c.c2
      have h57 := box_on (did_oz HD.out H55.out ⟨by have := HBL.out; have := HB2.out.size; have := HS1.out; omega, fun e => by have := HBL.out.2 _ e; have := HB2.out.size; have := HS1.out; omega⟩) HB7.out
      have HO7 := Lib.hid (box_on (did_oz HD.out HOW5.out ⟨by have := HBL.out; omega, fun e => by have := HBL.out.2 _ e; omega⟩) HB7.out)
      have e0 : W7.cell? ⟨w2.heap.size, 0, none⟩ = some (.int .i64 r.h.tm) := by rw [Lib.cell_of_heap h57]; rfl
      have e1 : W7.cell? ⟨w2.heap.size, 1, none⟩ = some (.int .i64 r.h.vt) := by rw [Lib.cell_of_heap h57]; rfl
      have HSZ5 := Lib.hid (show w.heap.size + 2 ≤ W5.heap.size by have := HS1.out; have := HBA.out.size; have := HK5.out.size; omega)
      clear hrk h57
      by_cases hH : KR.h.tm = r.h.tm ∧ KR.h.vt = r.h.vt
      · have hHd : decide (KR.h.tm = r.h.tm ∧ KR.h.vt = r.h.vt) = true := decide_eq_true hH
        have hnh : ∀ W, (binOp .neq 39 (.agg #[.int .i64 KR.h.tm, .int .i64 KR.h.vt]) (.agg #[.int .i64 r.h.tm, .int .i64 r.h.vt])).run Tryz.prog W = .ok (.bool false) W := fun W => by rw [neq_hard, hHd]; rfl
        have hHe : KR.h = r.h := by
          obtain ⟨q1, q2⟩ := hH
          cases hk : KR.h
          cases hr : r.h
          rw [hk, hr] at q1 q2
          simp only at q1 q2
          rw [q1, q2]
        have HHE := Lib.hid hHe
        clear hH hHe hHd
        go_quiet (fail)
        have hbB := (below_drewN (Below.refl W7.heap.size W7) nq)
        generalize W7.drewN nq = W8 at hbB ⊢
        have HB8 := Lib.hid (HB7.out.trans (hbB.mono HB7.out.size))
        have H68 := Lib.hid (box_on H67.out hbB)
        have HO8 := Lib.hid (box_on HO7.out hbB)
        have c1 := (HRK.out.on hbB).c.c1
        have c2 := (HRK.out.on hbB).c.c2
        clear hbB e0 e1
        have b0 : W8.cell? ⟨w6.heap.size, 0, none⟩ = some (.bool xs) := by rw [Lib.cell_of_heap H68.out]; rfl
        have zb0 := Lib.frozen_of_heap H68.out 0
        have b1 : W8.cell? ⟨w6.heap.size, 1, none⟩ = some (.int .i64 xt) := by rw [Lib.cell_of_heap H68.out]; rfl
        have zb1 := Lib.frozen_of_heap H68.out 1
        have b2 : W8.cell? ⟨w6.heap.size, 2, none⟩ = some (.int .i64 xv) := by rw [Lib.cell_of_heap H68.out]; rfl
        have zb2 := Lib.frozen_of_heap H68.out 2
        have b3 : W8.cell? ⟨w6.heap.size, 3, none⟩ = some (.int .i64 xf) := by rw [Lib.cell_of_heap H68.out]; rfl
        have zb3 := Lib.frozen_of_heap H68.out 3
        have b4 : W8.cell? ⟨w6.heap.size, 4, none⟩ = some (.slice xa xn xc) := by rw [Lib.cell_of_heap H68.out]; rfl
        have zb4 := Lib.frozen_of_heap H68.out 4
        have b5 : W8.cell? ⟨w6.heap.size, 5, none⟩ = some (.slice ya yn yc) := by rw [Lib.cell_of_heap H68.out]; rfl
        have zb5 := Lib.frozen_of_heap H68.out 5
        have g0 : W8.cell? ⟨w.heap.size + 1, 0, none⟩ = some (.bool false) := by rw [Lib.cell_of_heap HO8.out]; rfl
        have zg0 := Lib.frozen_of_heap HO8.out 0
        have g1 : W8.cell? ⟨w.heap.size + 1, 1, none⟩ = some (.int .i64 0) := by rw [Lib.cell_of_heap HO8.out]; rfl
        have zg1 := Lib.frozen_of_heap HO8.out 1
        have g2 : W8.cell? ⟨w.heap.size + 1, 2, none⟩ = some (.int .i64 0) := by rw [Lib.cell_of_heap HO8.out]; rfl
        have zg2 := Lib.frozen_of_heap HO8.out 2
        have g3 : W8.cell? ⟨w.heap.size + 1, 3, none⟩ = some (.int .i64 0) := by rw [Lib.cell_of_heap HO8.out]; rfl
        have zg3 := Lib.frozen_of_heap HO8.out 3
        have g4 : W8.cell? ⟨w.heap.size + 1, 4, none⟩ = some (.slice none 0 0) := by rw [Lib.cell_of_heap HO8.out]; rfl
        have zg4 := Lib.frozen_of_heap HO8.out 4
        have g5 : W8.cell? ⟨w.heap.size + 1, 5, none⟩ = some (.slice none 0 0) := by rw [Lib.cell_of_heap HO8.out]; rfl
        have zg5 := Lib.frozen_of_heap HO8.out 5
        have HOZ := Lib.hid HO8.out
        go_wp2_with fail
        (try simp only [Exit.inBlock, Exit.then])
        refine bodyPost_ret (ret_out rfl _ _ (w.heap.size + 1) _ _ _ _ _ _ rfl (cells6_set HOZ.out _ _ _ _ _ _)) rfl ?_
        (try rw [if_pos HHE.out])
        exact (did_end HKW5.out HD.out HB8.out (fun _ _ q => q) HBL.out ⟨by omega, by have := HSZ5.out; omega⟩ _ _ _ _ _ _).six
      · have hHd : decide (KR.h.tm = r.h.tm ∧ KR.h.vt = r.h.vt) = false := decide_eq_false hH
        have hnh : ∀ W, (binOp .neq 39 (.agg #[.int .i64 KR.h.tm, .int .i64 KR.h.vt]) (.agg #[.int .i64 r.h.tm, .int .i64 r.h.vt])).run Tryz.prog W = .ok (.bool true) W := fun W => by rw [neq_hard, hHd]; rfl
        have hHe : ¬ KR.h = r.h := fun q => hH (by rw [q]; exact ⟨rfl, rfl⟩)
        have HHN := Lib.hid hHe
        clear hH hHe hHd
        go_quiet (fail)
        have hbB := (below_drewN (Below.refl W7.heap.size W7) nq)
        generalize W7.drewN nq = W8 at hbB ⊢
        have HB8 := Lib.hid (HB7.out.trans (hbB.mono HB7.out.size))
        have H68 := Lib.hid (box_on H67.out hbB)
        have HO8 := Lib.hid (box_on HO7.out hbB)
        have c1 := (HRK.out.on hbB).c.c1
        have c2 := (HRK.out.on hbB).c.c2
        clear hbB e0 e1
        have b0 : W8.cell? ⟨w6.heap.size, 0, none⟩ = some (.bool xs) := by rw [Lib.cell_of_heap H68.out]; rfl
        have zb0 := Lib.frozen_of_heap H68.out 0
        have b1 : W8.cell? ⟨w6.heap.size, 1, none⟩ = some (.int .i64 xt) := by rw [Lib.cell_of_heap H68.out]; rfl
        have zb1 := Lib.frozen_of_heap H68.out 1
        have b2 : W8.cell? ⟨w6.heap.size, 2, none⟩ = some (.int .i64 xv) := by rw [Lib.cell_of_heap H68.out]; rfl
        have zb2 := Lib.frozen_of_heap H68.out 2
        have b3 : W8.cell? ⟨w6.heap.size, 3, none⟩ = some (.int .i64 xf) := by rw [Lib.cell_of_heap H68.out]; rfl
        have zb3 := Lib.frozen_of_heap H68.out 3
        have b4 : W8.cell? ⟨w6.heap.size, 4, none⟩ = some (.slice xa xn xc) := by rw [Lib.cell_of_heap H68.out]; rfl
        have zb4 := Lib.frozen_of_heap H68.out 4
        have b5 : W8.cell? ⟨w6.heap.size, 5, none⟩ = some (.slice ya yn yc) := by rw [Lib.cell_of_heap H68.out]; rfl
        have zb5 := Lib.frozen_of_heap H68.out 5
        go_upto_region 9 with fail
        go_cut [45] (fun t45 wx => Hid (wx.heap[w6.heap.size]? = some (.cells #[.bool true, .int .i64 KR.h.tm, .int .i64 KR.h.vt, .int .i64 xf, .slice xa xn xc, .slice ya yn yc] 42 (0, 0)) ∧ Kept (fun k => k = w6.heap.size) W8 wx))
        case first =>
          have hq1 : (W8.setCell ⟨w6.heap.size, 0, none⟩ (.bool true)).heap[w6.heap.size]? = some (.cells #[.bool true, .int .i64 xt, .int .i64 xv, .int .i64 xf, .slice xa xn xc, .slice ya yn yc] 42 (0, 0)) := box_set H68.out 0 _
          have hq2 : ((W8.setCell ⟨w6.heap.size, 0, none⟩ (.bool true)).setCell ⟨w6.heap.size, 1, none⟩ (.int .i64 KR.h.tm)).heap[w6.heap.size]? = some (.cells #[.bool true, .int .i64 KR.h.tm, .int .i64 xv, .int .i64 xf, .slice xa xn xc, .slice ya yn yc] 42 (0, 0)) := box_set hq1 1 _
          have hq3 : (((W8.setCell ⟨w6.heap.size, 0, none⟩ (.bool true)).setCell ⟨w6.heap.size, 1, none⟩ (.int .i64 KR.h.tm)).setCell ⟨w6.heap.size, 2, none⟩ (.int .i64 KR.h.vt)).heap[w6.heap.size]? = some (.cells #[.bool true, .int .i64 KR.h.tm, .int .i64 KR.h.vt, .int .i64 xf, .slice xa xn xc, .slice ya yn yc] 42 (0, 0)) := box_set hq2 2 _
          have hp1 : (W8.setCell ⟨w6.heap.size, 1, none⟩ (.int .i64 KR.h.tm)).heap[w6.heap.size]? = some (.cells #[.bool xs, .int .i64 KR.h.tm, .int .i64 xv, .int .i64 xf, .slice xa xn xc, .slice ya yn yc] 42 (0, 0)) := box_set H68.out 1 _
          have hp2 : ((W8.setCell ⟨w6.heap.size, 1, none⟩ (.int .i64 KR.h.tm)).setCell ⟨w6.heap.size, 2, none⟩ (.int .i64 KR.h.vt)).heap[w6.heap.size]? = some (.cells #[.bool xs, .int .i64 KR.h.tm, .int .i64 KR.h.vt, .int .i64 xf, .slice xa xn xc, .slice ya yn yc] 42 (0, 0)) := box_set hp1 2 _
          have hp3 : (((W8.setCell ⟨w6.heap.size, 1, none⟩ (.int .i64 KR.h.tm)).setCell ⟨w6.heap.size, 2, none⟩ (.int .i64 KR.h.vt)).setCell ⟨w6.heap.size, 0, none⟩ (.bool true)).heap[w6.heap.size]? = some (.cells #[.bool true, .int .i64 KR.h.tm, .int .i64 KR.h.vt, .int .i64 xf, .slice xa xn xc, .slice ya yn yc] 42 (0, 0)) := box_set hp2 0 _
          have HQ3 := Lib.hid hq3
          have HP3 := Lib.hid hp3
          clear hq1 hq2 hq3 hp1 hp2 hp3
          go_region
          all_goals
            go_wp2_with fail
            go_meet
            first | exact Lib.hid ⟨HQ3.out, (((Kept.set _ _ _ _).trans (Kept.set _ _ _ _) (fun _ _ e => e)).trans (Kept.set _ _ _ _) (fun _ _ e => e)).trans (Kept.drew _ _) (fun _ _ e => e)⟩ | exact Lib.hid ⟨HP3.out, (((Kept.set _ _ _ _).trans (Kept.set _ _ _ _) (fun _ _ e => e)).trans (Kept.set _ _ _ _) (fun _ _ e => e)).trans (Kept.drew _ _) (fun _ _ e => e)⟩
        case rest =>
          have h6x := hcut.out.1
          have hox := hcut.out.2.heap HO8.out (fun e => by have := HSZ5.out; omega)
          have HOZ := Lib.hid hox
          have b0 : wc.cell? ⟨w6.heap.size, 0, none⟩ = some (.bool true) := by rw [Lib.cell_of_heap h6x]; rfl
          have zb0 := Lib.frozen_of_heap h6x 0
          have b1 : wc.cell? ⟨w6.heap.size, 1, none⟩ = some (.int .i64 KR.h.tm) := by rw [Lib.cell_of_heap h6x]; rfl
          have zb1 := Lib.frozen_of_heap h6x 1
          have b2 : wc.cell? ⟨w6.heap.size, 2, none⟩ = some (.int .i64 KR.h.vt) := by rw [Lib.cell_of_heap h6x]; rfl
          have zb2 := Lib.frozen_of_heap h6x 2
          have b3 : wc.cell? ⟨w6.heap.size, 3, none⟩ = some (.int .i64 xf) := by rw [Lib.cell_of_heap h6x]; rfl
          have zb3 := Lib.frozen_of_heap h6x 3
          have b4 : wc.cell? ⟨w6.heap.size, 4, none⟩ = some (.slice xa xn xc) := by rw [Lib.cell_of_heap h6x]; rfl
          have zb4 := Lib.frozen_of_heap h6x 4
          have b5 : wc.cell? ⟨w6.heap.size, 5, none⟩ = some (.slice ya yn yc) := by rw [Lib.cell_of_heap h6x]; rfl
          have zb5 := Lib.frozen_of_heap h6x 5
          have g0 : wc.cell? ⟨w.heap.size + 1, 0, none⟩ = some (.bool false) := by rw [Lib.cell_of_heap hox]; rfl
          have zg0 := Lib.frozen_of_heap hox 0
          have g1 : wc.cell? ⟨w.heap.size + 1, 1, none⟩ = some (.int .i64 0) := by rw [Lib.cell_of_heap hox]; rfl
          have zg1 := Lib.frozen_of_heap hox 1
          have g2 : wc.cell? ⟨w.heap.size + 1, 2, none⟩ = some (.int .i64 0) := by rw [Lib.cell_of_heap hox]; rfl
          have zg2 := Lib.frozen_of_heap hox 2
          have g3 : wc.cell? ⟨w.heap.size + 1, 3, none⟩ = some (.int .i64 0) := by rw [Lib.cell_of_heap hox]; rfl
          have zg3 := Lib.frozen_of_heap hox 3
          have g4 : wc.cell? ⟨w.heap.size + 1, 4, none⟩ = some (.slice none 0 0) := by rw [Lib.cell_of_heap hox]; rfl
          have zg4 := Lib.frozen_of_heap hox 4
          have g5 : wc.cell? ⟨w.heap.size + 1, 5, none⟩ = some (.slice none 0 0) := by rw [Lib.cell_of_heap hox]; rfl
          have zg5 := Lib.frozen_of_heap hox 5
          have HBX := Lib.hid (HB8.out.trans (show Below w6.heap.size W8 wc from hcut.out.2.toBelow HB8.out.size (fun k e => by omega)))
          clear h6x hox
          go_wp2_with fail
          (try simp only [Exit.inBlock, Exit.then])
          refine bodyPost_ret (ret_out rfl _ _ (w.heap.size + 1) _ _ _ _ _ _ rfl (cells6_set HOZ.out _ _ _ _ _ _)) rfl ?_
          (try rw [if_neg HHN.out])
          exact (did_end HKW5.out HD.out HBX.out (fun _ _ q => q.head true KR.h) HBL.out ⟨by omega, by have := HSZ5.out; omega⟩ _ _ _ _ _ _).six
    · have hTd : decide (r.h.tm < mtm) = false := by simp only [decide_eq_false_iff_not]; exact hT
      have HT := Lib.hid hT
      go_enter Tryz.func14, Tryz.ntmps14
      go_upto_region 1 with fail
      rw [← hW1]
      clear hW1
      go_upto_region 3 with ((with_reducible refine QR.out.mono ?_); rintro e w2 ⟨rfl, HB2⟩)
      have HR2 := Lib.hid (HR1.out.on HB2.out)
      have c1 := HR2.out.c.c1
      have c2 := HR2.out.c.c2
      obtain ⟨W3, hW3⟩ : ∃ W3, W3 = w2.alloc (.cells #[.int .i64 r.h.tm, .int .i64 r.h.vt] 39) := ⟨_, rfl⟩
      have hb3 : Below W1.heap.size W1 W3 := by rw [hW3]; exact HB2.out.alloc HB2.out.size _
      have h53 : W3.heap[w2.heap.size]? = some (.cells #[.int .i64 r.h.tm, .int .i64 r.h.vt] 39 (0, 0)) := by rw [hW3]; exact box_new w2 _
      have HB3 := Lib.hid hb3
      have H53 := Lib.hid h53
      clear hb3 h53 f0 f1 f2 f3 f4 f5 f6 f7 f8
      go_upto_region 4 with fail
      rw [← hW3]
      clear hW3 c1 c2
      have HX3 := Lib.hid (show PM.at ⟨⟨mk, mfr, mdst, mtm, mix, mpv, mcm, myes, mrs⟩, ma, mc⟩ W3 w.heap.size from box_on HX1.out HB3.out)
      have f3 := HX3.out.c.c3
      have c1 := (HR1.out.on HB3.out).c.c1
      go_quiet (fail)
      have hbA := HB3.out.trans ((below_drewN (Below.refl W3.heap.size W3) nq).mono HB3.out.size)
      have h5A : (W3.drewN nq).heap[w2.heap.size]? = some (.cells #[.int .i64 r.h.tm, .int .i64 r.h.vt] 39 (0, 0)) := H53.out
      generalize W3.drewN nq = W4 at hbA h5A ⊢
      have HBA := Lib.hid hbA
      have H5A := Lib.hid h5A
      clear hbA h5A f3 c1
      obtain ⟨W5, hW5⟩ : ∃ W5, W5 = W4 := ⟨_, rfl⟩
      have HREP := Lib.hid (show RepAt W5 b lv RL by rw [hW5, ← HRL.out]; have e : later r ⟨mk, mfr, mdst, mtm, mix, mpv, mcm, myes, mrs⟩ = r := by { unfold later; rw [if_neg (show ¬ r.h.tm < mtm by have := HT.out; omega)] }; rw [e]; exact HR1.out.on HBA.out)
      have HK5 := Lib.hid (show Kept (fun k => k = b) W4 W5 by rw [hW5]; exact Kept.refl _ _)
      go_upto_region 7 with fail
      rw [← hW5]
      clear hW5
      have HX5 := Lib.hid (show PM.at ⟨⟨mk, mfr, mdst, mtm, mix, mpv, mcm, myes, mrs⟩, ma, mc⟩ W5 w.heap.size from HK5.out.heap (box_on HX1.out HBA.out) (fun e => by have := HBL.out; omega))
      have HOW5 := Lib.hid (HK5.out.heap (box_on HO1.out HBA.out) (fun e => by have := HBL.out; omega))
      have HKW5 := Lib.hid ((Kept.below (S := fun k => k = b) (HB1.out.trans (HBA.out.mono HB1.out.size))).trans HK5.out (fun _ _ e => e))
      have H55 := Lib.hid (HK5.out.heap H5A.out (fun e => by have := HBL.out; have := HB2.out.size; have := HS1.out; omega))
      have HLF := Lib.hid (later_fine HR1.out.fine HMR.out)
      have QX := Lib.hid (show Calls Tryz.prog 48 #[.pointer (some ⟨b, 0, none⟩), .agg #[.int .i64 mk, .int .i64 mfr, .int .i64 mdst, .int .i64 mtm, .int .i64 mix, .int .i64 mpv, .int .i64 mcm, .bool myes, .slice ma L mc]] W5 fun e w' => Did6 W5 w' b lv KR KO e from by
        have hid : RL.id = r.id := by rw [← HRL.out]; exact HLF.out.2.2
        have hTT : mtm ≤ RL.h.tm := by rw [← HRL.out]; exact HLF.out.2.1
        have hok5 : PM.ok (fun k => k ≠ b ∧ lv.ownBlock ≠ some k) W5 ⟨⟨mk, mfr, mdst, mtm, mix, mpv, mcm, myes, mrs⟩, ma, mc⟩ := Src.kept HP.out HKW5.out (fun k _ hg e => hg.1 e)
        have h1 : Calls Tryz.prog 48 #[.pointer (some ⟨b, 0, none⟩), .agg #[.int .i64 mk, .int .i64 mfr, .int .i64 mdst, .int .i64 mtm, .int .i64 mix, .int .i64 mpv, .int .i64 mcm, .bool myes, .slice ma mrs.length mc]] W5 fun e w' => Did6 W5 w' b lv (kindR RL ⟨mk, mfr, mdst, mtm, mix, mpv, mcm, myes, mrs⟩).1 (kindR RL ⟨mk, mfr, mdst, mtm, mix, mpv, mcm, myes, mrs⟩).2 e := handle_c HREP.out ⟨⟨mk, mfr, mdst, mtm, mix, mpv, mcm, myes, mrs⟩, ma, mc⟩ hok5 (by rw [hid]; exact HMR.out) hTT
        rw [HL.out, HKR.out] at h1
        exact h1)
      have f0 := HX5.out.c.c0
      have f1 := HX5.out.c.c1
      have f2 := HX5.out.c.c2
      have f3 := HX5.out.c.c3
      have f4 := HX5.out.c.c4
      have f5 := HX5.out.c.c5
      have f6 := HX5.out.c.c6
      have f7 := HX5.out.c.c7
      have f8' := HX5.out.c.c8
      have f8 : W5.cell? ⟨w.heap.size, 8, none⟩ = some (.slice ma L mc) := by rw [← HL.out]; exact f8'
      clear f8'
      go_upto_region 8 with ((with_reducible refine QX.out.mono ?_); rintro e w6 ⟨xs, xt, xv, xf, xa, xn, xc, ya, yn, yc, rfl, HD⟩)
      obtain ⟨W7, hW7⟩ : ∃ W7, W7 = w6.alloc (.cells #[.bool xs, .int .i64 xt, .int .i64 xv, .int .i64 xf, .slice xa xn xc, .slice ya yn yc] 42) := ⟨_, rfl⟩
      have HB7 := Lib.hid (show Below w6.heap.size w6 W7 by rw [hW7]; exact below_new _ _)
      have H67 := Lib.hid (show W7.heap[w6.heap.size]? = some (.cells #[.bool xs, .int .i64 xt, .int .i64 xv, .int .i64 xf, .slice xa xn xc, .slice ya yn yc] 42 (0, 0)) by rw [hW7]; exact box_new w6 _)
      rw [← hW7]
      clear hW7 f0 f1 f2 f3 f4 f5 f6 f7 f8
      obtain ⟨HRK, HSZ⟩ : (∃ lv', RepAt W7 b lv' KR) ∧ W5.heap.size ≤ w6.heap.size := by
        obtain ⟨lv', q1, _, q3, _⟩ := HD.out
        exact ⟨⟨lv', q1.on HB7.out⟩, q3.size⟩
      obtain ⟨lv', hrk⟩ := HRK
      have HRK := Lib.hid hrk
      have c1 := hrk.c.c1
      have c2 := hrk.c.c2
      have h57 := box_on (did_oz HD.out H55.out ⟨by have := HBL.out; have := HB2.out.size; have := HS1.out; omega, fun e => by have := HBL.out.2 _ e; have := HB2.out.size; have := HS1.out; omega⟩) HB7.out
      have HO7 := Lib.hid (box_on (did_oz HD.out HOW5.out ⟨by have := HBL.out; omega, fun e => by have := HBL.out.2 _ e; omega⟩) HB7.out)
      have e0 : W7.cell? ⟨w2.heap.size, 0, none⟩ = some (.int .i64 r.h.tm) := by rw [Lib.cell_of_heap h57]; rfl
      have e1 : W7.cell? ⟨w2.heap.size, 1, none⟩ = some (.int .i64 r.h.vt) := by rw [Lib.cell_of_heap h57]; rfl
      have HSZ5 := Lib.hid (show w.heap.size + 2 ≤ W5.heap.size by have := HS1.out; have := HBA.out.size; have := HK5.out.size; omega)
      clear hrk h57
      by_cases hH : KR.h.tm = r.h.tm ∧ KR.h.vt = r.h.vt
      · have hHd : decide (KR.h.tm = r.h.tm ∧ KR.h.vt = r.h.vt) = true := decide_eq_true hH
        have hnh : ∀ W, (binOp .neq 39 (.agg #[.int .i64 KR.h.tm, .int .i64 KR.h.vt]) (.agg #[.int .i64 r.h.tm, .int .i64 r.h.vt])).run Tryz.prog W = .ok (.bool false) W := fun W => by rw [neq_hard, hHd]; rfl
        have hHe : KR.h = r.h := by
          obtain ⟨q1, q2⟩ := hH
          cases hk : KR.h
          cases hr : r.h
          rw [hk, hr] at q1 q2
          simp only at q1 q2
          rw [q1, q2]
        have HHE := Lib.hid hHe
        clear hH hHe hHd
        go_quiet (fail)
        have hbB := (below_drewN (Below.refl W7.heap.size W7) nq)
        generalize W7.drewN nq = W8 at hbB ⊢
        have HB8 := Lib.hid (HB7.out.trans (hbB.mono HB7.out.size))
        have H68 := Lib.hid (box_on H67.out hbB)
        have HO8 := Lib.hid (box_on HO7.out hbB)
        have c1 := (HRK.out.on hbB).c.c1
        have c2 := (HRK.out.on hbB).c.c2
        clear hbB e0 e1
        have b0 : W8.cell? ⟨w6.heap.size, 0, none⟩ = some (.bool xs) := by rw [Lib.cell_of_heap H68.out]; rfl
        have zb0 := Lib.frozen_of_heap H68.out 0
        have b1 : W8.cell? ⟨w6.heap.size, 1, none⟩ = some (.int .i64 xt) := by rw [Lib.cell_of_heap H68.out]; rfl
        have zb1 := Lib.frozen_of_heap H68.out 1
        have b2 : W8.cell? ⟨w6.heap.size, 2, none⟩ = some (.int .i64 xv) := by rw [Lib.cell_of_heap H68.out]; rfl
        have zb2 := Lib.frozen_of_heap H68.out 2
        have b3 : W8.cell? ⟨w6.heap.size, 3, none⟩ = some (.int .i64 xf) := by rw [Lib.cell_of_heap H68.out]; rfl
        have zb3 := Lib.frozen_of_heap H68.out 3
        have b4 : W8.cell? ⟨w6.heap.size, 4, none⟩ = some (.slice xa xn xc) := by rw [Lib.cell_of_heap H68.out]; rfl
        have zb4 := Lib.frozen_of_heap H68.out 4
        have b5 : W8.cell? ⟨w6.heap.size, 5, none⟩ = some (.slice ya yn yc) := by rw [Lib.cell_of_heap H68.out]; rfl
        have zb5 := Lib.frozen_of_heap H68.out 5
        have g0 : W8.cell? ⟨w.heap.size + 1, 0, none⟩ = some (.bool false) := by rw [Lib.cell_of_heap HO8.out]; rfl
        have zg0 := Lib.frozen_of_heap HO8.out 0
        have g1 : W8.cell? ⟨w.heap.size + 1, 1, none⟩ = some (.int .i64 0) := by rw [Lib.cell_of_heap HO8.out]; rfl
        have zg1 := Lib.frozen_of_heap HO8.out 1
        have g2 : W8.cell? ⟨w.heap.size + 1, 2, none⟩ = some (.int .i64 0) := by rw [Lib.cell_of_heap HO8.out]; rfl
        have zg2 := Lib.frozen_of_heap HO8.out 2
        have g3 : W8.cell? ⟨w.heap.size + 1, 3, none⟩ = some (.int .i64 0) := by rw [Lib.cell_of_heap HO8.out]; rfl
        have zg3 := Lib.frozen_of_heap HO8.out 3
        have g4 : W8.cell? ⟨w.heap.size + 1, 4, none⟩ = some (.slice none 0 0) := by rw [Lib.cell_of_heap HO8.out]; rfl
        have zg4 := Lib.frozen_of_heap HO8.out 4
        have g5 : W8.cell? ⟨w.heap.size + 1, 5, none⟩ = some (.slice none 0 0) := by rw [Lib.cell_of_heap HO8.out]; rfl
        have zg5 := Lib.frozen_of_heap HO8.out 5
        have HOZ := Lib.hid HO8.out
        go_wp2_with fail
        (try simp only [Exit.inBlock, Exit.then])
        refine bodyPost_ret (ret_out rfl _ _ (w.heap.size + 1) _ _ _ _ _ _ rfl (cells6_set HOZ.out _ _ _ _ _ _)) rfl ?_
        (try rw [if_pos HHE.out])
        exact (did_end HKW5.out HD.out HB8.out (fun _ _ q => q) HBL.out ⟨by omega, by have := HSZ5.out; omega⟩ _ _ _ _ _ _).six
      · have hHd : decide (KR.h.tm = r.h.tm ∧ KR.h.vt = r.h.vt) = false := decide_eq_false hH
        have hnh : ∀ W, (binOp .neq 39 (.agg #[.int .i64 KR.h.tm, .int .i64 KR.h.vt]) (.agg #[.int .i64 r.h.tm, .int .i64 r.h.vt])).run Tryz.prog W = .ok (.bool true) W := fun W => by rw [neq_hard, hHd]; rfl
        have hHe : ¬ KR.h = r.h := fun q => hH (by rw [q]; exact ⟨rfl, rfl⟩)
        have HHN := Lib.hid hHe
        clear hH hHe hHd
        go_quiet (fail)
        have hbB := (below_drewN (Below.refl W7.heap.size W7) nq)
        generalize W7.drewN nq = W8 at hbB ⊢
        have HB8 := Lib.hid (HB7.out.trans (hbB.mono HB7.out.size))
        have H68 := Lib.hid (box_on H67.out hbB)
        have HO8 := Lib.hid (box_on HO7.out hbB)
        have c1 := (HRK.out.on hbB).c.c1
        have c2 := (HRK.out.on hbB).c.c2
        clear hbB e0 e1
        have b0 : W8.cell? ⟨w6.heap.size, 0, none⟩ = some (.bool xs) := by rw [Lib.cell_of_heap H68.out]; rfl
        have zb0 := Lib.frozen_of_heap H68.out 0
        have b1 : W8.cell? ⟨w6.heap.size, 1, none⟩ = some (.int .i64 xt) := by rw [Lib.cell_of_heap H68.out]; rfl
        have zb1 := Lib.frozen_of_heap H68.out 1
        have b2 : W8.cell? ⟨w6.heap.size, 2, none⟩ = some (.int .i64 xv) := by rw [Lib.cell_of_heap H68.out]; rfl
        have zb2 := Lib.frozen_of_heap H68.out 2
        have b3 : W8.cell? ⟨w6.heap.size, 3, none⟩ = some (.int .i64 xf) := by rw [Lib.cell_of_heap H68.out]; rfl
        have zb3 := Lib.frozen_of_heap H68.out 3
        have b4 : W8.cell? ⟨w6.heap.size, 4, none⟩ = some (.slice xa xn xc) := by rw [Lib.cell_of_heap H68.out]; rfl
        have zb4 := Lib.frozen_of_heap H68.out 4
        have b5 : W8.cell? ⟨w6.heap.size, 5, none⟩ = some (.slice ya yn yc) := by rw [Lib.cell_of_heap H68.out]; rfl
        have zb5 := Lib.frozen_of_heap H68.out 5
        go_upto_region 9 with fail
        go_cut [45] (fun t45 wx => Hid (wx.heap[w6.heap.size]? = some (.cells #[.bool true, .int .i64 KR.h.tm, .int .i64 KR.h.vt, .int .i64 xf, .slice xa xn xc, .slice ya yn yc] 42 (0, 0)) ∧ Kept (fun k => k = w6.heap.size) W8 wx))
        case first =>
          have hq1 : (W8.setCell ⟨w6.heap.size, 0, none⟩ (.bool true)).heap[w6.heap.size]? = some (.cells #[.bool true, .int .i64 xt, .int .i64 xv, .int .i64 xf, .slice xa xn xc, .slice ya yn yc] 42 (0, 0)) := box_set H68.out 0 _
          have hq2 : ((W8.setCell ⟨w6.heap.size, 0, none⟩ (.bool true)).setCell ⟨w6.heap.size, 1, none⟩ (.int .i64 KR.h.tm)).heap[w6.heap.size]? = some (.cells #[.bool true, .int .i64 KR.h.tm, .int .i64 xv, .int .i64 xf, .slice xa xn xc, .slice ya yn yc] 42 (0, 0)) := box_set hq1 1 _
          have hq3 : (((W8.setCell ⟨w6.heap.size, 0, none⟩ (.bool true)).setCell ⟨w6.heap.size, 1, none⟩ (.int .i64 KR.h.tm)).setCell ⟨w6.heap.size, 2, none⟩ (.int .i64 KR.h.vt)).heap[w6.heap.size]? = some (.cells #[.bool true, .int .i64 KR.h.tm, .int .i64 KR.h.vt, .int .i64 xf, .slice xa xn xc, .slice ya yn yc] 42 (0, 0)) := box_set hq2 2 _
          have hp1 : (W8.setCell ⟨w6.heap.size, 1, none⟩ (.int .i64 KR.h.tm)).heap[w6.heap.size]? = some (.cells #[.bool xs, .int .i64 KR.h.tm, .int .i64 xv, .int .i64 xf, .slice xa xn xc, .slice ya yn yc] 42 (0, 0)) := box_set H68.out 1 _
          have hp2 : ((W8.setCell ⟨w6.heap.size, 1, none⟩ (.int .i64 KR.h.tm)).setCell ⟨w6.heap.size, 2, none⟩ (.int .i64 KR.h.vt)).heap[w6.heap.size]? = some (.cells #[.bool xs, .int .i64 KR.h.tm, .int .i64 KR.h.vt, .int .i64 xf, .slice xa xn xc, .slice ya yn yc] 42 (0, 0)) := box_set hp1 2 _
          have hp3 : (((W8.setCell ⟨w6.heap.size, 1, none⟩ (.int .i64 KR.h.tm)).setCell ⟨w6.heap.size, 2, none⟩ (.int .i64 KR.h.vt)).setCell ⟨w6.heap.size, 0, none⟩ (.bool true)).heap[w6.heap.size]? = some (.cells #[.bool true, .int .i64 KR.h.tm, .int .i64 KR.h.vt, .int .i64 xf, .slice xa xn xc, .slice ya yn yc] 42 (0, 0)) := box_set hp2 0 _
          have HQ3 := Lib.hid hq3
          have HP3 := Lib.hid hp3
          clear hq1 hq2 hq3 hp1 hp2 hp3
          go_region
          all_goals
            go_wp2_with fail
            go_meet
            first | exact Lib.hid ⟨HQ3.out, (((Kept.set _ _ _ _).trans (Kept.set _ _ _ _) (fun _ _ e => e)).trans (Kept.set _ _ _ _) (fun _ _ e => e)).trans (Kept.drew _ _) (fun _ _ e => e)⟩ | exact Lib.hid ⟨HP3.out, (((Kept.set _ _ _ _).trans (Kept.set _ _ _ _) (fun _ _ e => e)).trans (Kept.set _ _ _ _) (fun _ _ e => e)).trans (Kept.drew _ _) (fun _ _ e => e)⟩
        case rest =>
          have h6x := hcut.out.1
          have hox := hcut.out.2.heap HO8.out (fun e => by have := HSZ5.out; omega)
          have HOZ := Lib.hid hox
          have b0 : wc.cell? ⟨w6.heap.size, 0, none⟩ = some (.bool true) := by rw [Lib.cell_of_heap h6x]; rfl
          have zb0 := Lib.frozen_of_heap h6x 0
          have b1 : wc.cell? ⟨w6.heap.size, 1, none⟩ = some (.int .i64 KR.h.tm) := by rw [Lib.cell_of_heap h6x]; rfl
          have zb1 := Lib.frozen_of_heap h6x 1
          have b2 : wc.cell? ⟨w6.heap.size, 2, none⟩ = some (.int .i64 KR.h.vt) := by rw [Lib.cell_of_heap h6x]; rfl
          have zb2 := Lib.frozen_of_heap h6x 2
          have b3 : wc.cell? ⟨w6.heap.size, 3, none⟩ = some (.int .i64 xf) := by rw [Lib.cell_of_heap h6x]; rfl
          have zb3 := Lib.frozen_of_heap h6x 3
          have b4 : wc.cell? ⟨w6.heap.size, 4, none⟩ = some (.slice xa xn xc) := by rw [Lib.cell_of_heap h6x]; rfl
          have zb4 := Lib.frozen_of_heap h6x 4
          have b5 : wc.cell? ⟨w6.heap.size, 5, none⟩ = some (.slice ya yn yc) := by rw [Lib.cell_of_heap h6x]; rfl
          have zb5 := Lib.frozen_of_heap h6x 5
          have g0 : wc.cell? ⟨w.heap.size + 1, 0, none⟩ = some (.bool false) := by rw [Lib.cell_of_heap hox]; rfl
          have zg0 := Lib.frozen_of_heap hox 0
          have g1 : wc.cell? ⟨w.heap.size + 1, 1, none⟩ = some (.int .i64 0) := by rw [Lib.cell_of_heap hox]; rfl
          have zg1 := Lib.frozen_of_heap hox 1
          have g2 : wc.cell? ⟨w.heap.size + 1, 2, none⟩ = some (.int .i64 0) := by rw [Lib.cell_of_heap hox]; rfl
          have zg2 := Lib.frozen_of_heap hox 2
          have g3 : wc.cell? ⟨w.heap.size + 1, 3, none⟩ = some (.int .i64 0) := by rw [Lib.cell_of_heap hox]; rfl
          have zg3 := Lib.frozen_of_heap hox 3
          have g4 : wc.cell? ⟨w.heap.size + 1, 4, none⟩ = some (.slice none 0 0) := by rw [Lib.cell_of_heap hox]; rfl
          have zg4 := Lib.frozen_of_heap hox 4
          have g5 : wc.cell? ⟨w.heap.size + 1, 5, none⟩ = some (.slice none 0 0) := by rw [Lib.cell_of_heap hox]; rfl
          have zg5 := Lib.frozen_of_heap hox 5
          have HBX := Lib.hid (HB8.out.trans (show Below w6.heap.size W8 wc from hcut.out.2.toBelow HB8.out.size (fun k e => by omega)))
          clear h6x hox
          go_wp2_with fail
          (try simp only [Exit.inBlock, Exit.then])
          refine bodyPost_ret (ret_out rfl _ _ (w.heap.size + 1) _ _ _ _ _ _ rfl (cells6_set HOZ.out _ _ _ _ _ _)) rfl ?_
          (try rw [if_neg HHN.out])
          exact (did_end HKW5.out HD.out HBX.out (fun _ _ q => q.head true KR.h) HBL.out ⟨by omega, by have := HSZ5.out; omega⟩ _ _ _ _ _ _).six
end Go.Proofs.YtkmojcpiadpbaaaGreatDoor

namespace Go.Proofs.YtkmojcpiadpbaaaGreatDoor
set_option maxRecDepth 100000
open Go Go.RowKit Rp

/-- An election of one's own. -/
def asks (r : R) : R := { r with h := ⟨r.h.tm + 1, r.id⟩, role := 1, votes := fun v => decide (v = r.id) }
theorem tick_ask {r : R} (h1 : r.role ≠ 2) (h2 : r.h.tm ≠ 1099511627776) : tickR r = (asks r, ⟨true, ⟨r.h.tm + 1, r.id⟩, 0, [], (others r.id).map (ask (asks r))⟩) := by
  unfold tickR
  rw [if_neg h1, if_neg h2]
  rfl
theorem tick_lead {r : R} (h1 : r.role = 2) : tickR r = (r, Out.just (all r)) := by unfold tickR; rw [if_pos h1]
theorem tick_end {r : R} (h1 : r.role ≠ 2) (h2 : r.h.tm = 1099511627776) : tickR r = (r, Out.zero) := by unfold tickR; rw [if_neg h1, if_pos h2]
set_option maxHeartbeats 2000000 in
theorem tick_c {w : World} {b : Nat} {lv : Value} {r : R} (h : RepAt w b lv r) : Calls Tryz.prog 13 #[.pointer (some ⟨b, 0, none⟩)] w fun e w' => Did6 w w' b lv (tickR r).1 (tickR r).2 e := by
  obtain ⟨W1, hW1⟩ : ∃ W1, W1 = w.alloc (.cells #[.bool false, .int .i64 0, .int .i64 0, .int .i64 0, .slice none 0 0, .slice none 0 0] 42) := ⟨_, rfl⟩
  have hb1 : Below w.heap.size w W1 := by rw [hW1]; exact below_new w _
  have ho1 : W1.heap[w.heap.size]? = some (.cells #[.bool false, .int .i64 0, .int .i64 0, .int .i64 0, .slice none 0 0, .slice none 0 0] 42) := by rw [hW1]; exact box_new w _
  have hr1 := h.on hb1
  have HBL := Lib.hid (show b < w.heap.size ∧ ∀ k, lv.ownBlock = some k → k < w.heap.size from ⟨h.lt, fun k e => h.row.lt e⟩)
  have HS1 := Lib.hid (show w.heap.size + 1 = W1.heap.size by rw [hW1]; simp)
  have HO1 := Lib.hid ho1
  have HB1 := Lib.hid hb1
  have HR1 := Lib.hid hr1
  have HFI := Lib.hid h.fine
  have c4 := hr1.c.c4
  have c1 := hr1.c.c1
  have hmf := makeFunc_run
  by_cases hA : r.role = 2
  · have eA : (r.role == 2) = true := by simp [hA]
    have QO := Lib.hid (others_entries hr1 hA)
    rw [tick_lead hA]
    clear h hb1 ho1 hr1 hA
    go_enter Tryz.func13, Tryz.ntmps13
    go_upto_region 1 with fail
    rw [← hW1]
    clear hW1
    go_wp2_with ((with_reducible refine QO.out.mono ?_); rintro e w5 ⟨oa, oc, oL, ops, rfl, hmade⟩; have HOZ := Lib.hid (box_on HO1.out hmade.base); have hoz := ozc HOZ.out; have g0 := hoz.c0; have g1 := hoz.c1; have g2 := hoz.c2; have g3 := hoz.c3; have g4 := hoz.c4; have g5 := hoz.c5; have y0 := hoz.z 0; have y1 := hoz.z 1; have y2 := hoz.z 2; have y3 := hoz.z 3; have y4 := hoz.z 4; have y5 := hoz.z 5; have HMADE := Lib.hid hmade; clear hoz hmade)
    (try simp only [Exit.inBlock, Exit.then])
    refine bodyPost_ret (ret_out rfl _ _ w.heap.size _ _ _ _ _ _ rfl (cells6_set HOZ.out _ _ _ _ _ _)) rfl ?_
    have hs := HS1.out
    exact (did_set6 (HR1.out.on HMADE.out.base) (Or.inl rfl) ((Kept.below (S := fun k => k = b ∨ lv.ownBlock = some k) HB1.out).trans (Kept.below (S := fun _ => False) HMADE.out.base) (fun _ _ e => e.elim)) HBL.out.1 (Nat.le_refl _) (fun e => by have := HBL.out.2 _ e; omega) (HMADE.out.out.mono (fun k hk => ⟨⟨by omega, fun e => by have := HBL.out.2 _ e; omega⟩, by omega⟩)) _ _ _ _ _ _).six
  · have eA : (r.role == 2) = false := by simp [hA]
    by_cases hB : r.h.tm = 1099511627776
    · have eB : (r.h.tm == 1099511627776) = true := by simp [hB]
      rw [tick_end hA hB]
      have g0 : W1.cell? ⟨w.heap.size, 0, none⟩ = some (.bool false) := by rw [Lib.cell_of_heap ho1]; rfl
      have zg0 := Lib.frozen_of_heap ho1 0
      have g1 : W1.cell? ⟨w.heap.size, 1, none⟩ = some (.int .i64 0) := by rw [Lib.cell_of_heap ho1]; rfl
      have zg1 := Lib.frozen_of_heap ho1 1
      have g2 : W1.cell? ⟨w.heap.size, 2, none⟩ = some (.int .i64 0) := by rw [Lib.cell_of_heap ho1]; rfl
      have zg2 := Lib.frozen_of_heap ho1 2
      have g3 : W1.cell? ⟨w.heap.size, 3, none⟩ = some (.int .i64 0) := by rw [Lib.cell_of_heap ho1]; rfl
      have zg3 := Lib.frozen_of_heap ho1 3
      have g4 : W1.cell? ⟨w.heap.size, 4, none⟩ = some (.slice none 0 0) := by rw [Lib.cell_of_heap ho1]; rfl
      have zg4 := Lib.frozen_of_heap ho1 4
      have g5 : W1.cell? ⟨w.heap.size, 5, none⟩ = some (.slice none 0 0) := by rw [Lib.cell_of_heap ho1]; rfl
      have zg5 := Lib.frozen_of_heap ho1 5
      clear h hb1 ho1 hr1 hA hB
      go_enter Tryz.func13, Tryz.ntmps13
      go_upto_region 1 with fail
      rw [← hW1]
      clear hW1
      go_wp2_with fail
      (try simp only [Exit.inBlock, Exit.then])
      refine bodyPost_ret (ret_out rfl _ _ w.heap.size _ _ _ _ _ _ rfl (cells6_set HO1.out _ _ _ _ _ _)) rfl ?_
      exact (did_set6 HR1.out (Or.inl rfl) (Kept.below HB1.out) HBL.out.1 (Nat.le_refl _) (fun e => by have := HBL.out.2 _ e; omega) (OutIs.zero _ _) _ _ _ _ _ _).six
    · have eB : (r.h.tm == 1099511627776) = false := by simp [hB]
      have hfa : Fine (asks r) := by have := tick_fine h.fine; rw [tick_ask hA hB] at this; exact this
      have HFA := Lib.hid hfa
      have htm := h.fine.tm
      have htb : 0 ≤ r.h.tm ∧ r.h.tm < 1099511627776 := by omega
      rw [tick_ask hA hB]
      have c0 := hr1.c.c0
      have c2 := hr1.c.c2
      have z1 := hr1.c.z 1
      have z2 := hr1.c.z 2
      clear h hb1 ho1 hr1 hA hB hfa htm
      go_enter Tryz.func13, Tryz.ntmps13
      go_upto_region 1 with fail
      rw [← hW1]
      clear hW1
      go_upto_region 5 with fail
      go_cut [33] (fun t33 wx => Hid (wx.heap[b]? = some (.cells #[.int .i64 r.id, .int .i64 (r.h.tm + 1), .int .i64 r.id, lv, .int .i64 r.role, .int .i64 r.cm, .int .i64 (r.nxt 0), .int .i64 (r.nxt 1), .int .i64 (r.nxt 2), .int .i64 (r.mat 0), .int .i64 (r.mat 1), .int .i64 (r.mat 2)] 75 (0, 0)) ∧ Kept (fun k => k = b) W1 wx))
      case first =>
        have q1 : (W1.setCell ⟨b, 1, none⟩ (.int .i64 (r.h.tm + 1))).heap[b]? = some (.cells #[.int .i64 r.id, .int .i64 (r.h.tm + 1), .int .i64 r.h.vt, lv, .int .i64 r.role, .int .i64 r.cm, .int .i64 (r.nxt 0), .int .i64 (r.nxt 1), .int .i64 (r.nxt 2), .int .i64 (r.mat 0), .int .i64 (r.mat 1), .int .i64 (r.mat 2)] 75 (0, 0)) := box_set HR1.out.blk 1 _
        have Q2 := Lib.hid (box_set q1 2 (.int .i64 r.id))
        clear q1
        go_region
        all_goals
          go_wp2_with fail
          go_meet
          exact Lib.hid ⟨Q2.out, ((Kept.set _ _ _ _).trans (Kept.set _ _ _ _) (fun _ _ e => e)).trans (Kept.drew _ _) (fun _ _ e => e)⟩
      case rest =>
        have HB5 := Lib.hid hcut.out.1
        have HK5 := Lib.hid hcut.out.2
        have k4 : wc.cell? ⟨b, 4, none⟩ = some (.int .i64 r.role) := by rw [Lib.cell_of_heap HB5.out]; rfl
        have z4 := Lib.frozen_of_heap HB5.out 4
        obtain ⟨W6, hW6⟩ : ∃ W6, W6 = wc.setCell ⟨b, 4, none⟩ (.int .i64 1) := ⟨_, rfl⟩
        have HK6 := Lib.hid (show Kept (fun k => k = b) W1 W6 by rw [hW6]; exact HK5.out.trans (Kept.set _ _ _ _) (fun _ _ e => e))
        have hr6 : RepAt W6 b lv (asks r) := ⟨by rw [hW6]; exact box_set HB5.out 4 _, HR1.out.row.kept HK6.out (fun k e e' => HR1.out.apart (by rw [e, e'])), HR1.out.apart, HFA.out⟩
        have HR6 := Lib.hid hr6
        have ho6 := HK6.out.heap HO1.out (fun e => by have := HBL.out; omega)
        have HO6 := Lib.hid ho6
        have QO := Lib.hid ((others_request (hr6.on (below_drew (Below.refl _ _)))).mono (R' := fun e w' => ∃ oa oc oL, e = .returned (.slice oa oL oc) ∧ w'.cell? ⟨b, 1, none⟩ = some (.int .i64 (r.h.tm + 1)) ∧ w'.cell? ⟨b, 2, none⟩ = some (.int .i64 r.id) ∧ OZC w' w.heap.size ∧ Hid (∃ ops, Made W6.drew w' oa oc oL ops ((others (asks r).id).map (ask (asks r))))) (fun e w' hh => by
          obtain ⟨oa, oc, oL, ops, q1, q2⟩ := hh
          have q3 := (HR6.out.on (below_drew (Below.refl _ _))).on q2.base
          exact ⟨oa, oc, oL, q1, q3.c.c1, q3.c.c2, ozc (box_on (show W6.drew.heap[w.heap.size]? = _ from HO6.out) q2.base), Lib.hid ⟨ops, q2⟩⟩))
        have c1 : W6.cell? ⟨b, 1, none⟩ = some (.int .i64 (r.h.tm + 1)) := hr6.c.c1
        have c2 : W6.cell? ⟨b, 2, none⟩ = some (.int .i64 r.id) := hr6.c.c2
        clear hr6 ho6 hcut
        go_upto_region 7 with fail
        rw [← hW6]
        clear hW6 k4 z4
        go_region_law (go_simp; go_at_call 44; refine QO.out.mono ?_; rintro e w5 ⟨oa, oc, oL, rfl, n1, n2, hoz, HM⟩; have g0 := hoz.c0; have g1 := hoz.c1; have g2 := hoz.c2; have g3 := hoz.c3; have g4 := hoz.c4; have g5 := hoz.c5; have y0 := hoz.z 0; have y1 := hoz.z 1; have y2 := hoz.z 2; have y3 := hoz.z 3; have y4 := hoz.z 4; have y5 := hoz.z 5; clear hoz)
        all_goals
          go_wp2_with fail
          (try simp only [Exit.inBlock, Exit.then])
          obtain ⟨ops, hmade⟩ := HM.out
          have hoz5 := box_on (show W6.drew.heap[w.heap.size]? = _ from HO6.out) hmade.base
          refine bodyPost_ret (ret_out rfl _ _ w.heap.size _ _ _ _ _ _ rfl (cells6_set hoz5 _ _ _ _ _ _)) rfl ?_
          have hs := HS1.out
          have hs6 := HK6.out.size
          have hs6' : W6.drew.heap.size = W6.heap.size := rfl
          have hou := hmade.out.head true ⟨r.h.tm + 1, r.id⟩
          exact (did_set6 ((HR6.out.on (below_drew (Below.refl _ _))).on hmade.base) (Or.inl rfl) ((((Kept.below (S := fun k => k = b ∨ lv.ownBlock = some k) HB1.out).trans HK6.out (fun _ _ e => Or.inl e)).trans (Kept.drew (fun _ => False) _) (fun _ _ e => e.elim)).trans (Kept.below (S := fun _ => False) hmade.base) (fun _ _ e => e.elim)) HBL.out.1 (Nat.le_refl _) (fun e => by have := HBL.out.2 _ e; omega) (hou.mono (fun k hk => ⟨⟨by omega, fun e => by have := HBL.out.2 _ e; omega⟩, by omega⟩)) _ _ _ _ _ _).six
end Go.Proofs.YtkmojcpiadpbaaaGreatDoor
