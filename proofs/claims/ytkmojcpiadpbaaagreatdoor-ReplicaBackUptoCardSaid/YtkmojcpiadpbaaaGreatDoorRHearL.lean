/-
  What a replica does with a message.
  A replica hears a message.
-/
import Derived.Test.YtkmojcpiadpbaaaGreatDoorRTakeC
import Derived.Test.YtkmojcpiadpbaaaGreatDoorRRight
namespace Go.Proofs.YtkmojcpiadpbaaaGreatDoor
set_option maxRecDepth 100000
open Go Go.RowKit Rp

theorem take_c {w : World} {b : Nat} {lv : Value} {r : R} (h : RepAt w b lv r) (p : PM) (hp : p.ok (fun k => k ≠ b ∧ lv.ownBlock ≠ some k) w) (hm : Right r.id p.m) (hT : p.m.tm ≤ r.h.tm) : Calls Tryz.prog 65 #[.pointer (some ⟨b, 0, none⟩), p.val] w fun e w' => ∃ v, e = .returned v ∧ Did w w' b lv (appendR r p.m).1 v (appendR r p.m).2 := by
  by_cases hA : p.m.tm < r.h.tm
  · have e : appendR r p.m = (r, Out.just [msg r 3 p.m.fr]) := by unfold appendR; rw [if_pos hA]
    rw [e]
    exact take_old h p hp hm hA
  by_cases hB : r.role = 2
  · have e : appendR r p.m = (r, Out.zero) := by unfold appendR; rw [if_neg hA, if_pos hB]
    rw [e]
    exact take_lead h p hp hm hA hB
  by_cases hC : (r.l.length : Int) < p.m.ix ∨ tI r.l p.m.ix ≠ p.m.pv
  · have e : appendR r p.m = ({ r with role := 0 }, Out.just [{ msg r 3 p.m.fr with ix := min (r.l.length : Int) (p.m.ix - 1) }]) := by unfold appendR; rw [if_neg hA, if_neg hB, if_pos hC]
    rw [e]
    exact take_unfit h p hp hm hA hB hC
  have hC' : p.m.ix ≤ (r.l.length : Int) ∧ tI r.l p.m.ix = p.m.pv := ⟨by omega, Classical.byContradiction (fun q => hC (Or.inr q))⟩
  have hle := agree_le r.l p.m.ix.toNat p.m.rs
  by_cases hK : agree r.l p.m.ix.toNat p.m.rs < p.m.rs.length
  · by_cases hD : p.m.ix + agree r.l p.m.ix.toNat p.m.rs + 1 ≤ r.cm
    · have e : appendR r p.m = ({ r with role := 0 }, Out.zero) := by
        unfold appendR
        rw [if_neg hA, if_neg hB, if_neg hC]
        show (if agree r.l p.m.ix.toNat p.m.rs < p.m.rs.length then _ else _ : R × Out) = _
        rw [if_pos hK, if_pos hD]
      rw [e]
      exact take_behind h p hp hm hA hB hC' hK hD
    · exact take_new h p hp hm hT hA hB hC' hK hD
  · have hE : agree r.l p.m.ix.toNat p.m.rs = p.m.rs.length := by omega
    have e : appendR r p.m = ({ r with role := 0, cm := max r.cm (min p.m.cm (p.m.ix + p.m.rs.length)) }, Out.just [{ msg r 3 p.m.fr with yes := true, ix := p.m.ix + p.m.rs.length }]) := by
      unfold appendR
      rw [if_neg hA, if_neg hB, if_neg hC]
      show (if agree r.l p.m.ix.toNat p.m.rs < p.m.rs.length then _ else _ : R × Out) = _
      rw [if_neg hK]
    rw [e]
    exact take_all h p hp hm hA hB hC' hE
/-- A result as it is handed on. -/
def Did6 (w w' : World) (b : Nat) (lv : Value) (r' : R) (o : Out) (e : Ending) : Prop := ∃ (xs : Bool) (xt xv xf : Int) (xa : Option Addr) (xn xc : Nat) (ya : Option Addr) (yn yc : Nat), e = .returned (.agg #[.bool xs, .int .i64 xt, .int .i64 xv, .int .i64 xf, .slice xa xn xc, .slice ya yn yc]) ∧ Hid (Did w w' b lv r' (.agg #[.bool xs, .int .i64 xt, .int .i64 xv, .int .i64 xf, .slice xa xn xc, .slice ya yn yc]) o)
theorem Did.six {w w' : World} {b : Nat} {lv : Value} {r' : R} {v : Value} {o : Out} (h : Did w w' b lv r' v o) : Did6 w w' b lv r' o (.returned v) := by
  obtain ⟨lv', h1, h2, h3, h4⟩ := h
  obtain ⟨ra, rn, rc, sa, sn, sc, e⟩ := h4.shape
  subst e
  exact ⟨_, _, _, _, _, _, _, _, _, _, rfl, Lib.hid ⟨lv', h1, h2, h3, h4⟩⟩
theorem did_wrap {w W1 w5 : World} {b o : Nat} {lv : Value} {r' : R} {v : Value} {ou : Out} (hb : Below w.heap.size w W1) (hd : Did W1 w5 b lv r' v ou) (hbl : b < w.heap.size ∧ ∀ k, lv.ownBlock = some k → k < w.heap.size) (ho : w.heap.size ≤ o ∧ o < W1.heap.size) (y0 y1 y2 y3 y4 y5 : Value) :
    Did w ((((((w5.setCell ⟨o, 0, none⟩ y0).setCell ⟨o, 1, none⟩ y1).setCell ⟨o, 2, none⟩ y2).setCell ⟨o, 3, none⟩ y3).setCell ⟨o, 4, none⟩ y4).setCell ⟨o, 5, none⟩ y5) b lv r' v ou := by
  obtain ⟨lv', h1, h2, h3, h4⟩ := hd
  have hs := hb.size
  refine did_set6 h1 ?_ ((Kept.below (S := fun k => k = b ∨ lv.ownBlock = some k) hb).trans h3 (fun _ _ e => e)) hbl.1 ho.1 (fun e => ?_) (h4.mono (fun k hk => ⟨⟨by omega, hk.2⟩, by omega⟩)) _ _ _ _ _ _
  · rcases h2 with q | ⟨y, q, q2⟩
    · exact Or.inl q
    · exact Or.inr ⟨y, q, by omega⟩
  · rcases h2 with q | ⟨y, q, q2⟩
    · rw [q] at e; have := hbl.2 _ e; omega
    · rw [q] at e; injection e with e; omega
theorem did_oz {W1 w5 : World} {b o : Nat} {lv : Value} {r' : R} {v : Value} {ou : Out} {O : Obj} (hd : Did W1 w5 b lv r' v ou) (ho : W1.heap[o]? = some O) (hn : o ≠ b ∧ lv.ownBlock ≠ some o) : w5.heap[o]? = some O := by
  obtain ⟨lv', h1, h2, h3, h4⟩ := hd
  exact h3.heap ho (fun e => e.elim (fun e => hn.1 e) (fun e => hn.2 e))
set_option maxHeartbeats 4000000 in
theorem handle_c {w : World} {b : Nat} {lv : Value} {r : R} (h : RepAt w b lv r) (p : PM) (hp : p.ok (fun k => k ≠ b ∧ lv.ownBlock ≠ some k) w) (hm : Right r.id p.m) (hT : p.m.tm ≤ r.h.tm) : Calls Tryz.prog 48 #[.pointer (some ⟨b, 0, none⟩), p.val] w fun e w' => Did6 w w' b lv (kindR r p.m).1 (kindR r p.m).2 e := by
  obtain ⟨⟨mk, mfr, mdst, mtm, mix, mpv, mcm, myes, mrs⟩, ma, mc⟩ := p
  obtain ⟨L, hL⟩ : ∃ L : Nat, mrs.length = L := ⟨_, rfl⟩
  have HL := Lib.hid hL
  show Calls Tryz.prog _ #[_, .agg #[.int .i64 mk, .int .i64 mfr, .int .i64 mdst, .int .i64 mtm, .int .i64 mix, .int .i64 mpv, .int .i64 mcm, .bool myes, .slice ma mrs.length mc]] w _
  rw [hL]
  have HP := Lib.hid (show Src (fun k => k ≠ b ∧ lv.ownBlock ≠ some k) w ma mc mrs.length (recsV mrs) from hp)
  obtain ⟨W1, hW1⟩ : ∃ W1, W1 = (w.alloc (.cells #[.int .i64 mk, .int .i64 mfr, .int .i64 mdst, .int .i64 mtm, .int .i64 mix, .int .i64 mpv, .int .i64 mcm, .bool myes, .slice ma L mc] 24)).alloc (.cells #[.bool false, .int .i64 0, .int .i64 0, .int .i64 0, .slice none 0 0, .slice none 0 0] 42) := ⟨_, rfl⟩
  have hb1 : Below w.heap.size w W1 := by rw [hW1]; exact (below_new w _).trans ((below_new _ _).mono (by simp))
  have hx1 : PM.at ⟨⟨mk, mfr, mdst, mtm, mix, mpv, mcm, myes, mrs⟩, ma, mc⟩ W1 w.heap.size := by
    rw [hW1, ← hL]
    exact box_on (box_new w _) (below_new _ _)
  have ho1 : W1.heap[w.heap.size + 1]? = some (.cells #[.bool false, .int .i64 0, .int .i64 0, .int .i64 0, .slice none 0 0, .slice none 0 0] 42) := by
    rw [hW1]
    have := box_new (w.alloc (.cells #[.int .i64 mk, .int .i64 mfr, .int .i64 mdst, .int .i64 mtm, .int .i64 mix, .int .i64 mpv, .int .i64 mcm, .bool myes, .slice ma L mc] 24)) (.cells #[.bool false, .int .i64 0, .int .i64 0, .int .i64 0, .slice none 0 0, .slice none 0 0] 42)
    rw [show (w.alloc (.cells #[.int .i64 mk, .int .i64 mfr, .int .i64 mdst, .int .i64 mtm, .int .i64 mix, .int .i64 mpv, .int .i64 mcm, .bool myes, .slice ma L mc] 24)).heap.size = w.heap.size + 1 by simp] at this
    exact this
  have HS1 := Lib.hid (show w.heap.size + 2 = W1.heap.size by rw [hW1]; simp)
  have hr1 := h.on hb1
  have HBL := Lib.hid (show b < w.heap.size ∧ ∀ k, lv.ownBlock = some k → k < w.heap.size from ⟨h.lt, fun k e => h.row.lt e⟩)
  have HX1 := Lib.hid hx1
  have HO1 := Lib.hid ho1
  have HB1 := Lib.hid hb1
  have HR1 := Lib.hid hr1
  have HMR := Lib.hid hm
  have HT := Lib.hid hT
  have hk0 : 0 ≤ mk ∧ mk ≤ 3 := hm.k
  have f0 := hx1.c.c0
  have f1 := hx1.c.c1
  have f2 := hx1.c.c2
  have f3 := hx1.c.c3
  have f4 := hx1.c.c4
  have f5 := hx1.c.c5
  have f6 := hx1.c.c6
  have f7 := hx1.c.c7
  have f8' := hx1.c.c8
  have f8 : W1.cell? ⟨w.heap.size, 8, none⟩ = some (.slice ma L mc) := by rw [← hL]; exact f8'
  have hok1 : PM.ok (fun k => k ≠ b ∧ lv.ownBlock ≠ some k) W1 ⟨⟨mk, mfr, mdst, mtm, mix, mpv, mcm, myes, mrs⟩, ma, mc⟩ := Src.on HP.out hb1
  have HV := Lib.hid (vote_c hr1 _ hok1 hm)
  have HC := Lib.hid (count_c hr1 _ hok1 hm)
  have HTK := Lib.hid (take_c hr1 _ hok1 hm hT)
  have HNT := Lib.hid (note_c hr1 _ hok1 hm)
  clear h hp hm hT hx1 ho1 hr1 hb1 f8' hok1
  have hk4 : mk = 0 ∨ mk = 1 ∨ mk = 2 ∨ mk = 3 := by omega
  clear hk0
  rcases hk4 with rfl | rfl | rfl | rfl
  · have QX := Lib.hid (show Calls Tryz.prog 63 #[.pointer (some ⟨b, 0, none⟩), .agg #[.int .i64 0, .int .i64 mfr, .int .i64 mdst, .int .i64 mtm, .int .i64 mix, .int .i64 mpv, .int .i64 mcm, .bool myes, .slice ma L mc]] W1 fun e w' => Did6 W1 w' b lv (voteR r ⟨(0 : Int), mfr, mdst, mtm, mix, mpv, mcm, myes, mrs⟩).1 (voteR r ⟨(0 : Int), mfr, mdst, mtm, mix, mpv, mcm, myes, mrs⟩).2 e from by
      have h1 : Calls Tryz.prog 63 #[.pointer (some ⟨b, 0, none⟩), .agg #[.int .i64 0, .int .i64 mfr, .int .i64 mdst, .int .i64 mtm, .int .i64 mix, .int .i64 mpv, .int .i64 mcm, .bool myes, .slice ma mrs.length mc]] W1 fun e w' => ∃ v, e = .returned v ∧ Did W1 w' b lv (voteR r ⟨(0 : Int), mfr, mdst, mtm, mix, mpv, mcm, myes, mrs⟩).1 v (voteR r ⟨(0 : Int), mfr, mdst, mtm, mix, mpv, mcm, myes, mrs⟩).2 := HV.out
      rw [hL] at h1
      exact h1.mono (fun e w' hh => by
        obtain ⟨v, e1, e2⟩ := hh
        rw [e1]
        exact e2.six))
    clear hL
    go_enter Tryz.func48, Tryz.ntmps48
    go_upto_region 1 with fail
    rw [← hW1]
    clear hW1
    go_wp2_with ((with_reducible refine QX.out.mono ?_); rintro e w5 ⟨xs, xt, xv, xf, xa, xn, xc, ya, yn, yc, rfl, HD⟩; have HOZ := Lib.hid (did_oz HD.out HO1.out ⟨by have := HBL.out; omega, fun e => by have := HBL.out.2 _ e; omega⟩); have hoz := ozc HOZ.out; have g0 := hoz.c0; have g1 := hoz.c1; have g2 := hoz.c2; have g3 := hoz.c3; have g4 := hoz.c4; have g5 := hoz.c5; have y0 := hoz.z 0; have y1 := hoz.z 1; have y2 := hoz.z 2; have y3 := hoz.z 3; have y4 := hoz.z 4; have y5 := hoz.z 5; clear hoz)
    (try simp only [Exit.inBlock, Exit.then])
    refine bodyPost_ret (ret_out rfl _ _ (w.heap.size + 1) _ _ _ _ _ _ rfl (cells6_set HOZ.out _ _ _ _ _ _)) rfl ?_
    have hs1 := HS1.out
    exact ⟨xs, xt, xv, xf, xa, xn, xc, ya, yn, yc, rfl, Lib.hid (did_wrap HB1.out HD.out HBL.out ⟨by omega, by omega⟩ _ _ _ _ _ _)⟩
  · have QX := Lib.hid (show Calls Tryz.prog 64 #[.pointer (some ⟨b, 0, none⟩), .agg #[.int .i64 1, .int .i64 mfr, .int .i64 mdst, .int .i64 mtm, .int .i64 mix, .int .i64 mpv, .int .i64 mcm, .bool myes, .slice ma L mc]] W1 fun e w' => Did6 W1 w' b lv (votedR r ⟨(1 : Int), mfr, mdst, mtm, mix, mpv, mcm, myes, mrs⟩).1 (votedR r ⟨(1 : Int), mfr, mdst, mtm, mix, mpv, mcm, myes, mrs⟩).2 e from by
      have h1 : Calls Tryz.prog 64 #[.pointer (some ⟨b, 0, none⟩), .agg #[.int .i64 1, .int .i64 mfr, .int .i64 mdst, .int .i64 mtm, .int .i64 mix, .int .i64 mpv, .int .i64 mcm, .bool myes, .slice ma mrs.length mc]] W1 fun e w' => ∃ v, e = .returned v ∧ Did W1 w' b lv (votedR r ⟨(1 : Int), mfr, mdst, mtm, mix, mpv, mcm, myes, mrs⟩).1 v (votedR r ⟨(1 : Int), mfr, mdst, mtm, mix, mpv, mcm, myes, mrs⟩).2 := HC.out
      rw [hL] at h1
      exact h1.mono (fun e w' hh => by
        obtain ⟨v, e1, e2⟩ := hh
        rw [e1]
        exact e2.six))
    clear hL
    go_enter Tryz.func48, Tryz.ntmps48
    go_upto_region 1 with fail
    rw [← hW1]
    clear hW1
    go_wp2_with ((with_reducible refine QX.out.mono ?_); rintro e w5 ⟨xs, xt, xv, xf, xa, xn, xc, ya, yn, yc, rfl, HD⟩; have HOZ := Lib.hid (did_oz HD.out HO1.out ⟨by have := HBL.out; omega, fun e => by have := HBL.out.2 _ e; omega⟩); have hoz := ozc HOZ.out; have g0 := hoz.c0; have g1 := hoz.c1; have g2 := hoz.c2; have g3 := hoz.c3; have g4 := hoz.c4; have g5 := hoz.c5; have y0 := hoz.z 0; have y1 := hoz.z 1; have y2 := hoz.z 2; have y3 := hoz.z 3; have y4 := hoz.z 4; have y5 := hoz.z 5; clear hoz)
    (try simp only [Exit.inBlock, Exit.then])
    refine bodyPost_ret (ret_out rfl _ _ (w.heap.size + 1) _ _ _ _ _ _ rfl (cells6_set HOZ.out _ _ _ _ _ _)) rfl ?_
    have hs1 := HS1.out
    exact ⟨xs, xt, xv, xf, xa, xn, xc, ya, yn, yc, rfl, Lib.hid (did_wrap HB1.out HD.out HBL.out ⟨by omega, by omega⟩ _ _ _ _ _ _)⟩
  · have QX := Lib.hid (show Calls Tryz.prog 65 #[.pointer (some ⟨b, 0, none⟩), .agg #[.int .i64 2, .int .i64 mfr, .int .i64 mdst, .int .i64 mtm, .int .i64 mix, .int .i64 mpv, .int .i64 mcm, .bool myes, .slice ma L mc]] W1 fun e w' => Did6 W1 w' b lv (appendR r ⟨(2 : Int), mfr, mdst, mtm, mix, mpv, mcm, myes, mrs⟩).1 (appendR r ⟨(2 : Int), mfr, mdst, mtm, mix, mpv, mcm, myes, mrs⟩).2 e from by
      have h1 : Calls Tryz.prog 65 #[.pointer (some ⟨b, 0, none⟩), .agg #[.int .i64 2, .int .i64 mfr, .int .i64 mdst, .int .i64 mtm, .int .i64 mix, .int .i64 mpv, .int .i64 mcm, .bool myes, .slice ma mrs.length mc]] W1 fun e w' => ∃ v, e = .returned v ∧ Did W1 w' b lv (appendR r ⟨(2 : Int), mfr, mdst, mtm, mix, mpv, mcm, myes, mrs⟩).1 v (appendR r ⟨(2 : Int), mfr, mdst, mtm, mix, mpv, mcm, myes, mrs⟩).2 := HTK.out
      rw [hL] at h1
      exact h1.mono (fun e w' hh => by
        obtain ⟨v, e1, e2⟩ := hh
        rw [e1]
        exact e2.six))
    clear hL
    go_enter Tryz.func48, Tryz.ntmps48
    go_upto_region 1 with fail
    rw [← hW1]
    clear hW1
    go_wp2_with ((with_reducible refine QX.out.mono ?_); rintro e w5 ⟨xs, xt, xv, xf, xa, xn, xc, ya, yn, yc, rfl, HD⟩; have HOZ := Lib.hid (did_oz HD.out HO1.out ⟨by have := HBL.out; omega, fun e => by have := HBL.out.2 _ e; omega⟩); have hoz := ozc HOZ.out; have g0 := hoz.c0; have g1 := hoz.c1; have g2 := hoz.c2; have g3 := hoz.c3; have g4 := hoz.c4; have g5 := hoz.c5; have y0 := hoz.z 0; have y1 := hoz.z 1; have y2 := hoz.z 2; have y3 := hoz.z 3; have y4 := hoz.z 4; have y5 := hoz.z 5; clear hoz)
    (try simp only [Exit.inBlock, Exit.then])
    refine bodyPost_ret (ret_out rfl _ _ (w.heap.size + 1) _ _ _ _ _ _ rfl (cells6_set HOZ.out _ _ _ _ _ _)) rfl ?_
    have hs1 := HS1.out
    exact ⟨xs, xt, xv, xf, xa, xn, xc, ya, yn, yc, rfl, Lib.hid (did_wrap HB1.out HD.out HBL.out ⟨by omega, by omega⟩ _ _ _ _ _ _)⟩
  · have QX := Lib.hid (show Calls Tryz.prog 66 #[.pointer (some ⟨b, 0, none⟩), .agg #[.int .i64 3, .int .i64 mfr, .int .i64 mdst, .int .i64 mtm, .int .i64 mix, .int .i64 mpv, .int .i64 mcm, .bool myes, .slice ma L mc]] W1 fun e w' => Did6 W1 w' b lv (appendedR r ⟨(3 : Int), mfr, mdst, mtm, mix, mpv, mcm, myes, mrs⟩).1 (appendedR r ⟨(3 : Int), mfr, mdst, mtm, mix, mpv, mcm, myes, mrs⟩).2 e from by
      have h1 : Calls Tryz.prog 66 #[.pointer (some ⟨b, 0, none⟩), .agg #[.int .i64 3, .int .i64 mfr, .int .i64 mdst, .int .i64 mtm, .int .i64 mix, .int .i64 mpv, .int .i64 mcm, .bool myes, .slice ma mrs.length mc]] W1 fun e w' => ∃ v, e = .returned v ∧ Did W1 w' b lv (appendedR r ⟨(3 : Int), mfr, mdst, mtm, mix, mpv, mcm, myes, mrs⟩).1 v (appendedR r ⟨(3 : Int), mfr, mdst, mtm, mix, mpv, mcm, myes, mrs⟩).2 := HNT.out
      rw [hL] at h1
      exact h1.mono (fun e w' hh => by
        obtain ⟨v, e1, e2⟩ := hh
        rw [e1]
        exact e2.six))
    clear hL
    go_enter Tryz.func48, Tryz.ntmps48
    go_upto_region 1 with fail
    rw [← hW1]
    clear hW1
    go_wp2_with ((with_reducible refine QX.out.mono ?_); rintro e w5 ⟨xs, xt, xv, xf, xa, xn, xc, ya, yn, yc, rfl, HD⟩; have HOZ := Lib.hid (did_oz HD.out HO1.out ⟨by have := HBL.out; omega, fun e => by have := HBL.out.2 _ e; omega⟩); have hoz := ozc HOZ.out; have g0 := hoz.c0; have g1 := hoz.c1; have g2 := hoz.c2; have g3 := hoz.c3; have g4 := hoz.c4; have g5 := hoz.c5; have y0 := hoz.z 0; have y1 := hoz.z 1; have y2 := hoz.z 2; have y3 := hoz.z 3; have y4 := hoz.z 4; have y5 := hoz.z 5; clear hoz)
    (try simp only [Exit.inBlock, Exit.then])
    refine bodyPost_ret (ret_out rfl _ _ (w.heap.size + 1) _ _ _ _ _ _ rfl (cells6_set HOZ.out _ _ _ _ _ _)) rfl ?_
    have hs1 := HS1.out
    exact ⟨xs, xt, xv, xf, xa, xn, xc, ya, yn, yc, rfl, Lib.hid (did_wrap HB1.out HD.out HBL.out ⟨by omega, by omega⟩ _ _ _ _ _ _)⟩
end Go.Proofs.YtkmojcpiadpbaaaGreatDoor

namespace Go.Proofs.YtkmojcpiadpbaaaGreatDoor
set_option maxRecDepth 100000
open Go Go.RowKit Rp

theorem eq_hard (a b c d : Int) (w : World) : (binOp .eql 39 (.agg #[.int .i64 a, .int .i64 b]) (.agg #[.int .i64 c, .int .i64 d])).run Tryz.prog w = .ok (.bool (decide (a = c ∧ b = d))) w := by
  rw [run_eql_struct, run_equalIn_agg _ 9999 _ _ _ (by kernel_rfl) (by kernel_rfl)]
  have p0 : ∀ (x y : Value) (w : World), (part 3 #[x, y] 0).run Tryz.prog w = .ok x w := fun x y w => run_part_plain w (by kernel_rfl) rfl
  have p1 : ∀ (x y : Value) (w : World), (part 3 #[x, y] 1).run Tryz.prog w = .ok y w := fun x y w => run_part_plain w (by kernel_rfl) rfl
  have ei : ∀ (a b : Int) (w : World), (Op.equalIn 9999 3 (.int .i64 a) (.int .i64 b)).run Tryz.prog w = .ok (a == b) w := fun a b w => run_equalIn_int w 9998 3 .i64 .i64 a b Tryz.underlying3
  simp only [Program.fieldsOf, Tryz.underlying39, Op.eqFields, ne_eq, String.reduceEq, not_false_eq_true, if_true, Sem.run_bind, p0, p1, ei, Result.andThen_ok, Sem.run_ite, Sem.run_pure]
  by_cases h1 : a = c
  · by_cases h2 : b = d
    · simp [h1, h2]
    · simp [h1, h2]
  · simp [h1]
theorem neq_hard (a b c d : Int) (w : World) : (binOp .neq 39 (.agg #[.int .i64 a, .int .i64 b]) (.agg #[.int .i64 c, .int .i64 d])).run Tryz.prog w = .ok (.bool (!decide (a = c ∧ b = d))) w := by
  have h := eq_hard a b c d w
  rw [run_eql_struct] at h
  rw [run_neq_struct]
  cases hr : (Op.equalIn 10000 39 (.agg #[.int .i64 a, .int .i64 b]) (.agg #[.int .i64 c, .int .i64 d])).run Tryz.prog w with
  | ok b w1 =>
    rw [hr] at h
    simp only [Result.andThen] at h ⊢
    injection h with h1 h2
    injection h1 with h1
    rw [h1, h2]
  | halt x w1 =>
    rw [hr] at h
    simp [Result.andThen] at h
theorem did_end {w W5 w6 wx : World} {b o : Nat} {lv : Value} {r' : R} {v v' : Value} {ou ou' : Out} (hk : Kept (fun k => k = b) w W5) (hd : Did W5 w6 b lv r' v ou) (hx : Below w6.heap.size w6 wx) (hv : ∀ G W, OutIs G W v ou → OutIs G W v' ou') (hbl : b < w.heap.size ∧ ∀ k, lv.ownBlock = some k → k < w.heap.size) (ho : w.heap.size ≤ o ∧ o < W5.heap.size) (y0 y1 y2 y3 y4 y5 : Value) :
    Did w ((((((wx.setCell ⟨o, 0, none⟩ y0).setCell ⟨o, 1, none⟩ y1).setCell ⟨o, 2, none⟩ y2).setCell ⟨o, 3, none⟩ y3).setCell ⟨o, 4, none⟩ y4).setCell ⟨o, 5, none⟩ y5) b lv r' v' ou' := by
  obtain ⟨lv', h1, h2, h3, h4⟩ := hd
  have hs := hk.size
  refine did_set6 (h1.on hx) ?_ (((hk.mono (fun _ _ e => Or.inl e)).trans h3 (fun _ _ e => e)).trans (Kept.below (S := fun _ => False) hx) (fun _ _ e => e.elim)) hbl.1 ho.1 (fun e => ?_) ((hv _ _ (h4.on hx)).mono (fun k hk => ⟨⟨by omega, hk.2⟩, by omega⟩)) _ _ _ _ _ _
  · rcases h2 with q | ⟨y, q, q2⟩
    · exact Or.inl q
    · exact Or.inr ⟨y, q, by omega⟩
  · rcases h2 with q | ⟨y, q, q2⟩
    · rw [q] at e; have := hbl.2 _ e; omega
    · rw [q] at e; injection e with e; omega
theorem OutIs.head {G : Nat → Prop} {w : World} {o : Out} {xs : Bool} {xt xv xf : Int} {xa : Option Addr} {xn xc : Nat} {ya : Option Addr} {yn yc : Nat} (h : OutIs G w (.agg #[.bool xs, .int .i64 xt, .int .i64 xv, .int .i64 xf, .slice xa xn xc, .slice ya yn yc]) o) (s : Bool) (hh : Hard) : OutIs G w (.agg #[.bool s, .int .i64 hh.tm, .int .i64 hh.vt, .int .i64 xf, .slice xa xn xc, .slice ya yn yc]) { o with save := s, h := hh } := by
  obtain ⟨ra, rc, sa, sc, ps, h1, h2⟩ := h
  injection h1 with h1
  simp only [Array.mk.injEq, List.cons.injEq, and_true] at h1
  obtain ⟨_, _, _, q1, q2, q3⟩ := h1
  refine ⟨ra, rc, sa, sc, ps, ?_, h2⟩
  rw [q1, q2, q3]
theorem rep_later {w : World} {b : Nat} {lv : Value} {r : R} (h : RepAt w b lv r) {m : Msg} (hm : Right r.id m) (hT : r.h.tm < m.tm) : RepAt (((w.setCell ⟨b, 1, none⟩ (.int .i64 m.tm)).setCell ⟨b, 2, none⟩ (.int .i64 (-1))).setCell ⟨b, 4, none⟩ (.int .i64 0)) b lv (later r m) := by
  have hl : later r m = { r with h := ⟨m.tm, -1⟩, role := 0 } := by unfold later; rw [if_pos hT]
  have hf := (later_fine h.fine hm).1
  rw [hl] at hf ⊢
  have hk : Kept (fun k => k = b) w (((w.setCell ⟨b, 1, none⟩ (.int .i64 m.tm)).setCell ⟨b, 2, none⟩ (.int .i64 (-1))).setCell ⟨b, 4, none⟩ (.int .i64 0)) := ((Kept.set b 1 w _).trans (Kept.set b 2 _ _) (fun _ _ e => e)).trans (Kept.set b 4 _ _) (fun _ _ e => e)
  have q1 : (w.setCell ⟨b, 1, none⟩ (.int .i64 m.tm)).heap[b]? = some (.cells #[.int .i64 r.id, .int .i64 m.tm, .int .i64 r.h.vt, lv, .int .i64 r.role, .int .i64 r.cm, .int .i64 (r.nxt 0), .int .i64 (r.nxt 1), .int .i64 (r.nxt 2), .int .i64 (r.mat 0), .int .i64 (r.mat 1), .int .i64 (r.mat 2)] 75 (0, 0)) := box_set h.blk 1 _
  have q2 : ((w.setCell ⟨b, 1, none⟩ (.int .i64 m.tm)).setCell ⟨b, 2, none⟩ (.int .i64 (-1))).heap[b]? = some (.cells #[.int .i64 r.id, .int .i64 m.tm, .int .i64 (-1), lv, .int .i64 r.role, .int .i64 r.cm, .int .i64 (r.nxt 0), .int .i64 (r.nxt 1), .int .i64 (r.nxt 2), .int .i64 (r.mat 0), .int .i64 (r.mat 1), .int .i64 (r.mat 2)] 75 (0, 0)) := box_set q1 2 _
  exact ⟨box_set q2 4 _, h.row.kept hk (fun k e e' => h.apart (by rw [e, e'])), h.apart, hf⟩
theorem hear_right {r : R} {m : Msg} (h : right r.id m = true) : hearR r m = ((kindR (later r m) m).1, if (kindR (later r m) m).1.h = r.h then (kindR (later r m) m).2 else { (kindR (later r m) m).2 with save := true, h := (kindR (later r m) m).1.h }) := by
  unfold hearR; rw [if_neg (by rw [h]; decide)]
theorem hear_wrong {r : R} {m : Msg} (h : right r.id m = false) : hearR r m = (r, Out.zero) := by
  unfold hearR; rw [if_pos h]
end Go.Proofs.YtkmojcpiadpbaaaGreatDoor
