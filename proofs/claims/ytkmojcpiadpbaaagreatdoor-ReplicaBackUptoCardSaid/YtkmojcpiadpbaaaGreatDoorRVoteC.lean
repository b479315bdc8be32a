/-
  What a call of a replica leaves of it; how it answers one that asks for its vote.
-/
import Derived.Test.YtkmojcpiadpbaaaGreatDoorRStill
namespace Go.Proofs.YtkmojcpiadpbaaaGreatDoor
set_option maxRecDepth 100000
open Go Go.RowKit Rp

/-- What a call of a replica leaves: the replica, and a result in blocks of its own. -/
def Did (w w' : World) (b : Nat) (lv : Value) (r' : R) (v : Value) (o : Out) : Prop :=
  ∃ lv', RepAt w' b lv' r' ∧ (lv'.ownBlock = lv.ownBlock ∨ ∃ k, lv'.ownBlock = some k ∧ w.heap.size ≤ k) ∧ Kept (fun k => k = b ∨ lv.ownBlock = some k) w w' ∧ OutIs (fun k => w.heap.size ≤ k ∧ lv'.ownBlock ≠ some k) w' v o
/-- A result in new blocks, the log where it was. -/
theorem Did.same {w w' : World} {b : Nat} {lv : Value} {r' : R} {v : Value} {o : Out} (h : RepAt w' b lv r') (hk : Kept (fun k => k = b) w w') (hl : ∀ k, lv.ownBlock = some k → k < w.heap.size) (ho : OutIs (fun k => w.heap.size ≤ k) w' v o) : Did w w' b lv r' v o :=
  ⟨lv, h, Or.inl rfl, hk.mono (fun _ _ e => Or.inl e), ho.mono (fun k hk => ⟨hk, fun e => by have := hl k e; omega⟩)⟩
theorem Did.below {w w' w'' : World} {b : Nat} {lv : Value} {r' : R} {v : Value} {o : Out} (h : Did w w' b lv r' v o) (hb : Below w'.heap.size w' w'') : Did w w'' b lv r' v o := by
  obtain ⟨lv', h1, h2, h3, h4⟩ := h
  exact ⟨lv', h1.on hb, h2, h3.trans (Kept.below (S := fun _ => False) hb) (fun _ _ e => e.elim), h4.on hb⟩
theorem OutIs.shape {G : Nat → Prop} {w : World} {v : Value} {o : Out} (h : OutIs G w v o) : ∃ ra rn rc sa sn sc, v = .agg #[.bool o.save, .int .i64 o.h.tm, .int .i64 o.h.vt, .int .i64 o.fr, .slice ra rn rc, .slice sa sn sc] := by
  obtain ⟨ra, rc, sa, sc, ps, h1, _⟩ := h
  exact ⟨ra, _, rc, sa, _, sc, h1⟩
/-- Another vote. -/
theorem rep_vote {w : World} {b : Nat} {lv : Value} {r : R} (h : RepAt w b lv r) {n : Int} (hn : -1 ≤ n ∧ n ≤ 2) : RepAt (w.setCell ⟨b, 2, none⟩ (.int .i64 n)) b lv { r with h := ⟨r.h.tm, n⟩ } :=
  ⟨box_set h.blk 2 _, h.row.kept (Kept.set b 2 w _) (fun k e e' => h.apart (by rw [e, e'])), h.apart, ⟨h.fine.id, h.fine.tm, hn, h.fine.len, h.fine.snd, h.fine.ord, h.fine.role, h.fine.cm, h.fine.ask, h.fine.pos, h.fine.nxt, h.fine.mat, h.fine.own⟩⟩
/-- Another role, but that of a leader. -/
theorem rep_follow {w : World} {b : Nat} {lv : Value} {r : R} (h : RepAt w b lv r) : RepAt (w.setCell ⟨b, 4, none⟩ (.int .i64 0)) b lv { r with role := 0 } :=
  ⟨box_set h.blk 4 _, h.row.kept (Kept.set b 4 w _) (fun k e e' => h.apart (by rw [e, e'])), h.apart, ⟨h.fine.id, h.fine.tm, h.fine.vt, h.fine.len, h.fine.snd, h.fine.ord, Or.inl rfl, h.fine.cm, (fun e => by cases e), (fun e => absurd rfl e), (fun e => by cases e), (fun e => by cases e), (fun e => by cases e)⟩⟩
theorem kept_b {w w' : World} {b : Nat} (h : Below w.heap.size w w') : Kept (fun k => k = b) w w' := Kept.below h

def voteB (r : R) (m : Msg) : Bool := decide (m.tm = r.h.tm ∧ (r.h.vt = -1 ∨ r.h.vt = m.fr) ∧ (lastT r.l < m.pv ∨ (m.pv = lastT r.l ∧ (r.l.length : Int) ≤ m.ix)))
theorem vote_yes {r : R} {m : Msg} (h : voteB r m = true) : voteR r m = ({ r with h := ⟨r.h.tm, m.fr⟩ }, Out.just [{ msg r 1 m.fr with yes := true }]) := by
  unfold voteR; rw [if_pos (of_decide_eq_true h)]
theorem vote_no {r : R} {m : Msg} (h : voteB r m = false) : voteR r m = (r, Out.just [msg r 1 m.fr]) := by
  unfold voteR; rw [if_neg (of_decide_eq_false h)]
/-- A message as the only one of a result, which lies in block o. -/
theorem did_one {w W : World} {b o : Nat} {lv : Value} {r' : R} {p : PM} (hr : RepAt W b lv r') (hk : Kept (fun k => k = b) w W) (hb : b < w.heap.size) (hl : ∀ k, lv.ownBlock = some k → k < w.heap.size) (ho : w.heap.size ≤ o ∧ o < W.heap.size) (hp : p.ok (fun k => w.heap.size ≤ k ∧ k ≠ o) W) (y0 y1 y2 y3 y4 y5 : Value) :
    Did w ((((((((W.alloc p.obj).setCell ⟨o, 0, none⟩ y0).setCell ⟨o, 1, none⟩ y1).setCell ⟨o, 2, none⟩ y2).setCell ⟨o, 3, none⟩ y3).setCell ⟨o, 4, none⟩ y4).setCell ⟨o, 5, none⟩ y5)) b lv r' (.agg #[.bool false, .int .i64 0, .int .i64 0, .int .i64 0, .slice none 0 0, .slice (some ⟨W.heap.size, 0, none⟩) 1 1]) (Out.just [p.m]) := by
  have h6 := kept_set6 (W.alloc p.obj) o y0 y1 y2 y3 y4 y5
  have hn : PM.at p (W.alloc p.obj) W.heap.size := box_new W p.obj
  have hs := hk.size
  have hlo : ∀ k, lv.ownBlock = some k → k ≠ o := fun k e => by have := hl k e; omega
  refine Did.same ((hr.on (below_new W _)).kept h6 (fun e => by omega) hlo) ((hk.trans (Kept.alloc (fun k => k = b) W _) (fun _ _ e => e)).trans h6 (fun k hk e => by omega)) hl ?_
  have hat : PM.at p _ W.heap.size := h6.heap hn (fun e => by omega)
  refine out_one hat (by omega) ?_
  exact (Src.kept (Src.on hp (below_new W _)) h6 (fun k _ hg e => hg.2 e)).mono' (fun k hg => hg.1)
set_option maxHeartbeats 4000000 in
theorem vote_c {w : World} {b : Nat} {lv : Value} {r : R} (h : RepAt w b lv r) (p : PM) (hp : p.ok (fun k => k ≠ b ∧ lv.ownBlock ≠ some k) w) (hm : Right r.id p.m) : Calls Tryz.prog 63 #[.pointer (some ⟨b, 0, none⟩), p.val] w fun e w' => ∃ v, e = .returned v ∧ Did w w' b lv (voteR r p.m).1 v (voteR r p.m).2 := by
  obtain ⟨⟨mk, mfr, mdst, mtm, mix, mpv, mcm, myes, mrs⟩, ma, mc⟩ := p
  obtain ⟨L, hL⟩ : ∃ L : Nat, mrs.length = L := ⟨_, rfl⟩
  have HL := Lib.hid hL
  show Calls Tryz.prog _ #[_, .agg #[.int .i64 mk, .int .i64 mfr, .int .i64 mdst, .int .i64 mtm, .int .i64 mix, .int .i64 mpv, .int .i64 mcm, .bool myes, .slice ma mrs.length mc]] w _
  rw [hL]
  have HP := Lib.hid (show Src (fun k => k ≠ b ∧ lv.ownBlock ≠ some k) w ma mc mrs.length (recsV mrs) from hp)
  obtain ⟨W1, hW1⟩ : ∃ W1, W1 = (w.alloc (.cells #[.int .i64 mk, .int .i64 mfr, .int .i64 mdst, .int .i64 mtm, .int .i64 mix, .int .i64 mpv, .int .i64 mcm, .bool myes, .slice ma L mc] 24)).alloc (.cells #[.bool false, .int .i64 0, .int .i64 0, .int .i64 0, .slice none 0 0, .slice none 0 0] 42) := ⟨_, rfl⟩
  have hb1 : Below w.heap.size w W1 := by rw [hW1]; exact (below_new w _).trans ((below_new _ _).mono (by simp))
  have hx1 : PM.at ⟨⟨mk, mfr, mdst, mtm, mix, mpv, mcm, myes, mrs⟩, ma, mc⟩ W1 w.heap.size := by
    rw [hW1, ← hL]
    exact box_on (box_new w _) (below_new _ _)
  have ho1 : W1.heap[w.heap.size + 1]? = some (.cells #[.bool false, .int .i64 0, .int .i64 0, .int .i64 0, .slice none 0 0, .slice none 0 0] 42) := by
    rw [hW1]
    have := box_new (w.alloc (.cells #[.int .i64 mk, .int .i64 mfr, .int .i64 mdst, .int .i64 mtm, .int .i64 mix, .int .i64 mpv, .int .i64 mcm, .bool myes, .slice ma L mc] 24)) (.cells #[.bool false, .int .i64 0, .int .i64 0, .int .i64 0, .slice none 0 0, .slice none 0 0] 42)
    rw [show (w.alloc (.cells #[.int .i64 mk, .int .i64 mfr, .int .i64 mdst, .int .i64 mtm, .int .i64 mix, .int .i64 mpv, .int .i64 mcm, .bool myes, .slice ma L mc] 24)).heap.size = w.heap.size + 1 by simp] at this
    exact this
  have HS1 := Lib.hid (show w.heap.size + 2 = W1.heap.size by rw [hW1]; simp)
  have hr1 := h.on hb1
  have HBL := Lib.hid (show b < w.heap.size ∧ ∀ k, lv.ownBlock = some k → k < w.heap.size from ⟨h.lt, fun k e => h.row.lt e⟩)
  have hfr := hm.fr
  have QM := Lib.hid (message_a hr1 1 mfr)
  have HX1 := Lib.hid hx1
  have HO1 := Lib.hid ho1
  have HB1 := Lib.hid hb1
  have HR1 := Lib.hid hr1
  have HFR := Lib.hid (show 0 ≤ mfr ∧ mfr ≤ 2 from hfr)
  have g1 := hx1.c.c1
  obtain ⟨y, hy⟩ : ∃ y, voteB r ⟨mk, mfr, mdst, mtm, mix, mpv, mcm, myes, mrs⟩ = y := ⟨_, rfl⟩
  have HY := Lib.hid hy
  clear h hp hm hfr hL hb1 hx1 ho1 hr1 hy
  go_enter Tryz.func63, Tryz.ntmps63
  go_upto_region 1 with fail
  rw [← hW1]
  clear hW1
  go_upto_region 2 with (refine QM.out.mono ?_; rintro e w1 ⟨rfl, hb1⟩)
  obtain ⟨W2, hW2⟩ : ∃ W2, W2 = w1.alloc (.cells #[.int .i64 1, .int .i64 r.id, .int .i64 mfr, .int .i64 r.h.tm, .int .i64 0, .int .i64 0, .int .i64 0, .bool false, .slice none 0 0] 24) := ⟨_, rfl⟩
  have hc2 : Below W1.heap.size W1 W2 := by rw [hW2]; exact hb1.alloc hb1.size _
  have hb2 : Below w.heap.size w W2 := HB1.out.trans (hc2.mono HB1.out.size)
  have hx2 : PM.at ⟨⟨1, r.id, mfr, r.h.tm, 0, 0, 0, false, []⟩, none, 0⟩ W2 w1.heap.size := by rw [hW2]; exact box_new w1 _
  have hm2 : PM.at ⟨⟨mk, mfr, mdst, mtm, mix, mpv, mcm, myes, mrs⟩, ma, mc⟩ W2 w.heap.size := box_on HX1.out hc2
  have ho2 := box_on HO1.out hc2
  have hr2 := HR1.out.on hc2
  have hlt : w.heap.size + 2 ≤ w1.heap.size := by have := HS1.out; have := hb1.size; omega
  have QR := Lib.hid (show Calls Tryz.prog 73 #[.pointer (some ⟨b, 0, none⟩), .int .i64 mpv, .int .i64 mix] W2.drew fun e w' => e = .returned (.bool (decide (lastT r.l < mpv ∨ (mpv = lastT r.l ∧ (r.l.length : Int) ≤ mix)))) ∧ w' = W2.drew from reaches_c (hr2.on (below_drew (Below.refl _ _))) mpv mix)
  have c1 := hr2.c.c1
  have c2 := hr2.c.c2
  have f1 := hm2.c.c1
  have f3 := hm2.c.c3
  have f4 := hm2.c.c4
  have f5 := hm2.c.c5
  have k7 := hx2.c.c7
  have zk7 := hx2.c.z 7
  have HX2 := Lib.hid hx2
  have HO2 := Lib.hid ho2
  have HR2 := Lib.hid hr2
  have HM2 := Lib.hid hm2
  have HB2 := Lib.hid hb2
  have HLT := Lib.hid hlt
  rw [← hW2]
  clear hW2 hc2 hb2 hx2 hm2 ho2 hr2 hlt g1 hb1
  go_cut [43] (fun t43 wx => t43 = .bool y ∧ wx = (W2.setCell ⟨w1.heap.size, 7, none⟩ (.bool y)).drew)
  case first =>
    have HY2 := HY.out
    unfold voteB at HY2
    simp only at HY2
    by_cases hA : mtm = r.h.tm
    · have eA : (mtm == r.h.tm) = true := by simp [hA]
      by_cases hB : r.h.vt = -1
      · have eB : (r.h.vt == -1) = true := by simp [hB]
        have e : decide (lastT r.l < mpv ∨ (mpv = lastT r.l ∧ (r.l.length : Int) ≤ mix)) = y := by rw [← HY2]; simp [hA, hB]
        rw [e] at QR
        clear hA hB HY2 e
        refine wp_region_still_tail 34 (by kernel_rfl) (by kernel_rfl) (still_of_quiet _ _ ?_)
        simp only [List.take_succ_cons, List.take_zero, List.drop_succ_cons, List.drop_zero]
        repeat (first | go_big_quiet_step (fail) | (go_big_quiet_want; go_big_quiet_op; (refine ⟨_, QR.out, ?_⟩); go_big_quiet_on))
        refine wpQuiet_nil ?_
        change wpList _ _ _ _ _ W2.drew
        go_wp2_with fail
        go_meet
        exact ⟨rfl, rfl⟩
      · have eB : (r.h.vt == -1) = false := by simp [hB]
        by_cases hC : r.h.vt = mfr
        · have eC : (r.h.vt == mfr) = true := by simp [hC]
          have e : decide (lastT r.l < mpv ∨ (mpv = lastT r.l ∧ (r.l.length : Int) ≤ mix)) = y := by rw [← HY2]; simp [hA, hC]
          rw [e] at QR
          clear hA hB hC HY2 e
          refine wp_region_still_tail 34 (by kernel_rfl) (by kernel_rfl) (still_of_quiet _ _ ?_)
          simp only [List.take_succ_cons, List.take_zero, List.drop_succ_cons, List.drop_zero]
          repeat (first | go_big_quiet_step (fail) | (go_big_quiet_want; go_big_quiet_op; (refine ⟨_, QR.out, ?_⟩); go_big_quiet_on))
          refine wpQuiet_nil ?_
          change wpList _ _ _ _ _ W2.drew
          go_wp2_with fail
          go_meet
          exact ⟨rfl, rfl⟩
        · have eC : (r.h.vt == mfr) = false := by simp [hC]
          have hy0 : y = false := by rw [← HY2]; simp [hB, hC]
          subst hy0
          clear hA hB hC HY2
          refine wp_region_still_tail 34 (by kernel_rfl) (by kernel_rfl) (still_of_quiet _ _ ?_)
          simp only [List.take_succ_cons, List.take_zero, List.drop_succ_cons, List.drop_zero]
          repeat (first | go_big_quiet_step (fail) | (go_big_quiet_want; go_big_quiet_op; (refine ⟨_, QR.out, ?_⟩); go_big_quiet_on))
          refine wpQuiet_nil ?_
          change wpList _ _ _ _ _ W2.drew
          go_wp2_with fail
          go_meet
          exact ⟨rfl, rfl⟩
    · have eA : (mtm == r.h.tm) = false := by simp [hA]
      have hy0 : y = false := by rw [← HY2]; simp [hA]
      subst hy0
      clear hA HY2
      refine wp_region_still_tail 34 (by kernel_rfl) (by kernel_rfl) (still_of_quiet _ _ ?_)
      simp only [List.take_succ_cons, List.take_zero, List.drop_succ_cons, List.drop_zero]
      repeat (first | go_big_quiet_step (fail) | (go_big_quiet_want; go_big_quiet_op; (refine ⟨_, QR.out, ?_⟩); go_big_quiet_on))
      refine wpQuiet_nil ?_
      change wpList _ _ _ _ _ W2.drew
      go_wp2_with fail
      go_meet
      exact ⟨rfl, rfl⟩
  case rest =>
    obtain ⟨rfl, hwc⟩ := hcut
    have hx3 : PM.at ⟨⟨1, r.id, mfr, r.h.tm, 0, 0, 0, y, []⟩, none, 0⟩ wc w1.heap.size := by rw [hwc]; exact PM.at.drew (p := ⟨⟨1, r.id, mfr, r.h.tm, 0, 0, 0, y, []⟩, none, 0⟩) (box_set HX2.out 7 _)
    have hb3 : Below w.heap.size w wc := by rw [hwc]; exact below_drew (below_set HB2.out (by have := HLT.out; omega) _ _)
    have hk3 : Kept (fun k => k = w1.heap.size) W2 wc := by rw [hwc]; exact (Kept.set _ 7 _ _).trans (Kept.drew _ _) (fun _ _ e => e)
    have hbl := HBL.out
    have hlt := HLT.out
    have hr3 : RepAt wc b lv r := HR2.out.kept hk3 (fun e => by omega) (fun k e e' => by have := hbl.2 k e; omega)
    have ho3 := hk3.heap HO2.out (fun e => by omega)
    have hm3 : PM.at ⟨⟨mk, mfr, mdst, mtm, mix, mpv, mcm, myes, mrs⟩, ma, mc⟩ wc w.heap.size := hk3.heap HM2.out (fun e => by omega)
    clear hwc hk3
    cases y with
    | true =>
      obtain ⟨W4, hW4⟩ : ∃ W4, W4 = wc.setCell ⟨b, 2, none⟩ (.int .i64 mfr) := ⟨_, rfl⟩
      have hr4 : RepAt W4 b lv { r with h := ⟨r.h.tm, mfr⟩ } := by rw [hW4]; exact rep_vote hr3 (by have := HFR.out; omega)
      have hk4 : Kept (fun k => k = b) wc W4 := by rw [hW4]; exact Kept.set _ _ _ _
      have hx4 : PM.at ⟨⟨1, r.id, mfr, r.h.tm, 0, 0, 0, true, []⟩, none, 0⟩ W4 w1.heap.size := hk4.heap hx3 (fun e => by omega)
      have ho4 := hk4.heap ho3 (fun e => by omega)
      have HKK := Lib.hid ((kept_b hb3).trans hk4 (fun _ _ e => e))
      have c2 := hr3.c.c2
      have zc2 := hr3.c.z 2
      have k7 := hx3.c.c7
      have m1 := hm3.c.c1
      have k0 := hx4.c.c0
      have k1 := hx4.c.c1
      have k2 := hx4.c.c2
      have k3 := hx4.c.c3
      have k4 := hx4.c.c4
      have k5 := hx4.c.c5
      have k6 := hx4.c.c6
      have kk7 := hx4.c.c7
      have k8 := hx4.c.c8
      have HO5 := Lib.hid (box_on ho4 (below_new W4 (.cells #[.int .i64 1, .int .i64 r.id, .int .i64 mfr, .int .i64 r.h.tm, .int .i64 0, .int .i64 0, .int .i64 0, .bool true, .slice none 0 0] 24)))
      have hlt4 : w.heap.size + 1 < W4.heap.size := box_lt ho4
      have g0 : (W4.alloc (.cells #[.int .i64 1, .int .i64 r.id, .int .i64 mfr, .int .i64 r.h.tm, .int .i64 0, .int .i64 0, .int .i64 0, .bool true, .slice none 0 0] 24)).cell? ⟨w.heap.size + 1, 0, none⟩ = some (.bool false) := by rw [Lib.cell_of_heap HO5.out]; rfl
      have zg0 := Lib.frozen_of_heap HO5.out 0
      have g1 : (W4.alloc (.cells #[.int .i64 1, .int .i64 r.id, .int .i64 mfr, .int .i64 r.h.tm, .int .i64 0, .int .i64 0, .int .i64 0, .bool true, .slice none 0 0] 24)).cell? ⟨w.heap.size + 1, 1, none⟩ = some (.int .i64 0) := by rw [Lib.cell_of_heap HO5.out]; rfl
      have zg1 := Lib.frozen_of_heap HO5.out 1
      have g2 : (W4.alloc (.cells #[.int .i64 1, .int .i64 r.id, .int .i64 mfr, .int .i64 r.h.tm, .int .i64 0, .int .i64 0, .int .i64 0, .bool true, .slice none 0 0] 24)).cell? ⟨w.heap.size + 1, 2, none⟩ = some (.int .i64 0) := by rw [Lib.cell_of_heap HO5.out]; rfl
      have zg2 := Lib.frozen_of_heap HO5.out 2
      have g3 : (W4.alloc (.cells #[.int .i64 1, .int .i64 r.id, .int .i64 mfr, .int .i64 r.h.tm, .int .i64 0, .int .i64 0, .int .i64 0, .bool true, .slice none 0 0] 24)).cell? ⟨w.heap.size + 1, 3, none⟩ = some (.int .i64 0) := by rw [Lib.cell_of_heap HO5.out]; rfl
      have zg3 := Lib.frozen_of_heap HO5.out 3
      have g4 : (W4.alloc (.cells #[.int .i64 1, .int .i64 r.id, .int .i64 mfr, .int .i64 r.h.tm, .int .i64 0, .int .i64 0, .int .i64 0, .bool true, .slice none 0 0] 24)).cell? ⟨w.heap.size + 1, 4, none⟩ = some (.slice none 0 0) := by rw [Lib.cell_of_heap HO5.out]; rfl
      have zg4 := Lib.frozen_of_heap HO5.out 4
      have g5 : (W4.alloc (.cells #[.int .i64 1, .int .i64 r.id, .int .i64 mfr, .int .i64 r.h.tm, .int .i64 0, .int .i64 0, .int .i64 0, .bool true, .slice none 0 0] 24)).cell? ⟨w.heap.size + 1, 5, none⟩ = some (.slice none 0 0) := by rw [Lib.cell_of_heap HO5.out]; rfl
      have zg5 := Lib.frozen_of_heap HO5.out 5
      have HR4 := Lib.hid hr4
      have HLT4 := Lib.hid hlt4
      clear hx3 hb3 hr3 ho3 hm3 hr4 hk4 hx4 ho4 hlt hlt4 hbl
      go_upto_region 5 with fail
      rw [← hW4]
      clear hW4 c2 zc2 k7 m1
      go_wp2_with fail
      (try simp only [Exit.inBlock, Exit.then])
      refine bodyPost_ret (ret_out rfl _ _ (w.heap.size + 1) _ _ _ _ _ _ rfl (cells6_set HO5.out _ _ _ _ _ _)) rfl ?_
      refine ⟨_, rfl, ?_⟩
      rw [vote_yes HY.out]
      exact did_one (p := ⟨⟨1, r.id, mfr, r.h.tm, 0, 0, 0, true, []⟩, none, 0⟩) HR4.out HKK.out HBL.out.1 HBL.out.2 ⟨by omega, HLT4.out⟩ (Src.nil _ _) _ _ _ _ _ _
    | false =>
      have HKK := Lib.hid (kept_b (b := b) hb3)
      have k7 := hx3.c.c7
      have k0 := hx3.c.c0
      have k1 := hx3.c.c1
      have k2 := hx3.c.c2
      have k3 := hx3.c.c3
      have k4 := hx3.c.c4
      have k5 := hx3.c.c5
      have k6 := hx3.c.c6
      have k8 := hx3.c.c8
      have HO5 := Lib.hid (box_on ho3 (below_new wc (.cells #[.int .i64 1, .int .i64 r.id, .int .i64 mfr, .int .i64 r.h.tm, .int .i64 0, .int .i64 0, .int .i64 0, .bool false, .slice none 0 0] 24)))
      have hlt4 : w.heap.size + 1 < wc.heap.size := box_lt ho3
      have g0 : (wc.alloc (.cells #[.int .i64 1, .int .i64 r.id, .int .i64 mfr, .int .i64 r.h.tm, .int .i64 0, .int .i64 0, .int .i64 0, .bool false, .slice none 0 0] 24)).cell? ⟨w.heap.size + 1, 0, none⟩ = some (.bool false) := by rw [Lib.cell_of_heap HO5.out]; rfl
      have zg0 := Lib.frozen_of_heap HO5.out 0
      have g1 : (wc.alloc (.cells #[.int .i64 1, .int .i64 r.id, .int .i64 mfr, .int .i64 r.h.tm, .int .i64 0, .int .i64 0, .int .i64 0, .bool false, .slice none 0 0] 24)).cell? ⟨w.heap.size + 1, 1, none⟩ = some (.int .i64 0) := by rw [Lib.cell_of_heap HO5.out]; rfl
      have zg1 := Lib.frozen_of_heap HO5.out 1
      have g2 : (wc.alloc (.cells #[.int .i64 1, .int .i64 r.id, .int .i64 mfr, .int .i64 r.h.tm, .int .i64 0, .int .i64 0, .int .i64 0, .bool false, .slice none 0 0] 24)).cell? ⟨w.heap.size + 1, 2, none⟩ = some (.int .i64 0) := by rw [Lib.cell_of_heap HO5.out]; rfl
      have zg2 := Lib.frozen_of_heap HO5.out 2
      have g3 : (wc.alloc (.cells #[.int .i64 1, .int .i64 r.id, .int .i64 mfr, .int .i64 r.h.tm, .int .i64 0, .int .i64 0, .int .i64 0, .bool false, .slice none 0 0] 24)).cell? ⟨w.heap.size + 1, 3, none⟩ = some (.int .i64 0) := by rw [Lib.cell_of_heap HO5.out]; rfl
      have zg3 := Lib.frozen_of_heap HO5.out 3
      have g4 : (wc.alloc (.cells #[.int .i64 1, .int .i64 r.id, .int .i64 mfr, .int .i64 r.h.tm, .int .i64 0, .int .i64 0, .int .i64 0, .bool false, .slice none 0 0] 24)).cell? ⟨w.heap.size + 1, 4, none⟩ = some (.slice none 0 0) := by rw [Lib.cell_of_heap HO5.out]; rfl
      have zg4 := Lib.frozen_of_heap HO5.out 4
      have g5 : (wc.alloc (.cells #[.int .i64 1, .int .i64 r.id, .int .i64 mfr, .int .i64 r.h.tm, .int .i64 0, .int .i64 0, .int .i64 0, .bool false, .slice none 0 0] 24)).cell? ⟨w.heap.size + 1, 5, none⟩ = some (.slice none 0 0) := by rw [Lib.cell_of_heap HO5.out]; rfl
      have zg5 := Lib.frozen_of_heap HO5.out 5
      have HR4 := Lib.hid hr3
      have HLT4 := Lib.hid hlt4
      clear hx3 hb3 hr3 ho3 hm3 hlt hlt4 hbl
      go_wp2_with fail
      (try simp only [Exit.inBlock, Exit.then])
      refine bodyPost_ret (ret_out rfl _ _ (w.heap.size + 1) _ _ _ _ _ _ rfl (cells6_set HO5.out _ _ _ _ _ _)) rfl ?_
      refine ⟨_, rfl, ?_⟩
      rw [vote_no HY.out]
      exact did_one (p := ⟨⟨1, r.id, mfr, r.h.tm, 0, 0, 0, false, []⟩, none, 0⟩) HR4.out HKK.out HBL.out.1 HBL.out.2 ⟨by omega, HLT4.out⟩ (Src.nil _ _) _ _ _ _ _ _
end Go.Proofs.YtkmojcpiadpbaaaGreatDoor
