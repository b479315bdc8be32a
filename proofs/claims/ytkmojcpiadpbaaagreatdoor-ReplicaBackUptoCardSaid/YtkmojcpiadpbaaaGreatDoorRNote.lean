/-
  What a replica does with a vote.
  What a leader does with an answer.
-/
import Derived.Test.YtkmojcpiadpbaaaGreatDoorRVoteC
namespace Go.Proofs.YtkmojcpiadpbaaaGreatDoor
set_option maxRecDepth 100000
open Go Go.RowKit Rp

/-- A result is put into its variable, which lies in block o. -/
theorem did_set6 {w W : World} {b o : Nat} {lv lv' : Value} {r' : R} {v : Value} {ou : Out} (hr : RepAt W b lv' r') (hown : lv'.ownBlock = lv.ownBlock ∨ ∃ k, lv'.ownBlock = some k ∧ w.heap.size ≤ k) (hk : Kept (fun k => k = b ∨ lv.ownBlock = some k) w W) (hb : b < w.heap.size) (ho : w.heap.size ≤ o) (hlo : lv'.ownBlock ≠ some o)
    (hou : OutIs (fun k => (w.heap.size ≤ k ∧ lv'.ownBlock ≠ some k) ∧ k ≠ o) W v ou) (y0 y1 y2 y3 y4 y5 : Value) :
    Did w ((((((W.setCell ⟨o, 0, none⟩ y0).setCell ⟨o, 1, none⟩ y1).setCell ⟨o, 2, none⟩ y2).setCell ⟨o, 3, none⟩ y3).setCell ⟨o, 4, none⟩ y4).setCell ⟨o, 5, none⟩ y5) b lv r' v ou := by
  have h6 := kept_set6 W o y0 y1 y2 y3 y4 y5
  refine ⟨lv', hr.kept h6 (fun e => by omega) (fun k e e' => hlo (by rw [e, e'])), hown, hk.trans h6 (fun k hk e => by omega), ?_⟩
  exact (hou.kept h6 (fun k _ hg e => hg.2 e)).mono (fun k hg => hg.1)
theorem Made.out {w w' : World} {a : Option Addr} {c L : Nat} {ps : List PM} {ms : List Msg} (h : Made w w' a c L ps ms) : OutIs (fun k => w.heap.size ≤ k) w' (.agg #[.bool false, .int .i64 0, .int .i64 0, .int .i64 0, .slice Option.none 0 0, .slice a L c]) (Out.just ms) := by
  have hl := h.len
  subst hl
  exact ⟨Option.none, 0, a, c, ps, rfl, Src.nil _ _, h.map, h.row.src (fun k hk => h.row.above hk), fun p hp => (h.ok p hp).mono (fun k hk => hk.1)⟩
/-- What is read of a result's variable, before it is stored to. -/
structure OZC (w : World) (o : Nat) : Prop where
  c0 : w.cell? ⟨o, 0, Option.none⟩ = some (.bool false)
  c1 : w.cell? ⟨o, 1, Option.none⟩ = some (.int .i64 0)
  c2 : w.cell? ⟨o, 2, Option.none⟩ = some (.int .i64 0)
  c3 : w.cell? ⟨o, 3, Option.none⟩ = some (.int .i64 0)
  c4 : w.cell? ⟨o, 4, Option.none⟩ = some (.slice Option.none 0 0)
  c5 : w.cell? ⟨o, 5, Option.none⟩ = some (.slice Option.none 0 0)
  z : ∀ i, w.frozen? ⟨o, i, Option.none⟩ = false
theorem ozc {w : World} {o : Nat} (h : w.heap[o]? = some (.cells #[.bool false, .int .i64 0, .int .i64 0, .int .i64 0, .slice Option.none 0 0, .slice Option.none 0 0] 42 (0, 0))) : OZC w o := by
  refine ⟨?_, ?_, ?_, ?_, ?_, ?_, fun i => Lib.frozen_of_heap h i⟩ <;> (rw [Lib.cell_of_heap h]; rfl)
theorem makeFunc_run (fn : Fn) (first cap : Array Value) (w : World) : (Instr.makeFunc fn first cap).run Tryz.prog w = .ok (.func fn first cap) w := rfl

theorem voted_no {r : R} {m : Msg} (h : ¬ (r.role = 1 ∧ m.tm = r.h.tm ∧ m.yes = true)) : votedR r m = (r, Out.zero) := by
  unfold votedR; rw [if_neg h]
set_option maxHeartbeats 4000000 in
theorem count_c {w : World} {b : Nat} {lv : Value} {r : R} (h : RepAt w b lv r) (p : PM) (hp : p.ok (fun k => k ≠ b ∧ lv.ownBlock ≠ some k) w) (hm : Right r.id p.m) : Calls Tryz.prog 64 #[.pointer (some ⟨b, 0, none⟩), p.val] w fun e w' => ∃ v, e = .returned v ∧ Did w w' b lv (votedR r p.m).1 v (votedR r p.m).2 := by
  obtain ⟨⟨mk, mfr, mdst, mtm, mix, mpv, mcm, myes, mrs⟩, ma, mc⟩ := p
  obtain ⟨L, hL⟩ : ∃ L : Nat, mrs.length = L := ⟨_, rfl⟩
  have HL := Lib.hid hL
  show Calls Tryz.prog _ #[_, .agg #[.int .i64 mk, .int .i64 mfr, .int .i64 mdst, .int .i64 mtm, .int .i64 mix, .int .i64 mpv, .int .i64 mcm, .bool myes, .slice ma mrs.length mc]] w _
  rw [hL]
  have HP := Lib.hid (show Src (fun k => k ≠ b ∧ lv.ownBlock ≠ some k) w ma mc mrs.length (recsV mrs) from hp)
  obtain ⟨W1, hW1⟩ : ∃ W1, W1 = (w.alloc (.cells #[.int .i64 mk, .int .i64 mfr, .int .i64 mdst, .int .i64 mtm, .int .i64 mix, .int .i64 mpv, .int .i64 mcm, .bool myes, .slice ma L mc] 24)).alloc (.cells #[.bool false, .int .i64 0, .int .i64 0, .int .i64 0, .slice none 0 0, .slice none 0 0] 42) := ⟨_, rfl⟩
  have hb1 : Below w.heap.size w W1 := by rw [hW1]; exact (below_new w _).trans ((below_new _ _).mono (by simp))
  have hx1 : PM.at ⟨⟨mk, mfr, mdst, mtm, mix, mpv, mcm, myes, mrs⟩, ma, mc⟩ W1 w.heap.size := by
    rw [hW1, ← hL]
    exact box_on (box_new w _) (below_new _ _)
  have ho1 : W1.heap[w.heap.size + 1]? = some (.cells #[.bool false, .int .i64 0, .int .i64 0, .int .i64 0, .slice none 0 0, .slice none 0 0] 42) := by
    rw [hW1]
    have := box_new (w.alloc (.cells #[.int .i64 mk, .int .i64 mfr, .int .i64 mdst, .int .i64 mtm, .int .i64 mix, .int .i64 mpv, .int .i64 mcm, .bool myes, .slice ma L mc] 24)) (.cells #[.bool false, .int .i64 0, .int .i64 0, .int .i64 0, .slice none 0 0, .slice none 0 0] 42)
    rw [show (w.alloc (.cells #[.int .i64 mk, .int .i64 mfr, .int .i64 mdst, .int .i64 mtm, .int .i64 mix, .int .i64 mpv, .int .i64 mcm, .bool myes, .slice ma L mc] 24)).heap.size = w.heap.size + 1 by simp] at this
    exact this
  have HS1 := Lib.hid (show w.heap.size + 2 = W1.heap.size by rw [hW1]; simp)
  have hr1 := h.on hb1
  have HBL := Lib.hid (show b < w.heap.size ∧ ∀ k, lv.ownBlock = some k → k < w.heap.size from ⟨h.lt, fun k e => h.row.lt e⟩)
  have HX1 := Lib.hid hx1
  have HO1 := Lib.hid ho1
  have HB1 := Lib.hid hb1
  have HR1 := Lib.hid hr1
  have HMR := Lib.hid hm
  have c4 := hr1.c.c4
  have c1 := hr1.c.c1
  have f3 := hx1.c.c3
  have f7 := hx1.c.c7
  have hmf := makeFunc_run
  have HFI := Lib.hid h.fine
  have g0 : W1.cell? ⟨w.heap.size + 1, 0, none⟩ = some (.bool false) := by rw [Lib.cell_of_heap ho1]; rfl
  have zg0 := Lib.frozen_of_heap ho1 0
  have g1 : W1.cell? ⟨w.heap.size + 1, 1, none⟩ = some (.int .i64 0) := by rw [Lib.cell_of_heap ho1]; rfl
  have zg1 := Lib.frozen_of_heap ho1 1
  have g2 : W1.cell? ⟨w.heap.size + 1, 2, none⟩ = some (.int .i64 0) := by rw [Lib.cell_of_heap ho1]; rfl
  have zg2 := Lib.frozen_of_heap ho1 2
  have g3 : W1.cell? ⟨w.heap.size + 1, 3, none⟩ = some (.int .i64 0) := by rw [Lib.cell_of_heap ho1]; rfl
  have zg3 := Lib.frozen_of_heap ho1 3
  have g4 : W1.cell? ⟨w.heap.size + 1, 4, none⟩ = some (.slice none 0 0) := by rw [Lib.cell_of_heap ho1]; rfl
  have zg4 := Lib.frozen_of_heap ho1 4
  have g5 : W1.cell? ⟨w.heap.size + 1, 5, none⟩ = some (.slice none 0 0) := by rw [Lib.cell_of_heap ho1]; rfl
  have zg5 := Lib.frozen_of_heap ho1 5
  have HNO := Lib.hid (fun (hh : ¬ (r.role = 1 ∧ mtm = r.h.tm ∧ myes = true)) (n : Nat) => (show ∃ v, (Value.agg #[.bool false, .int .i64 0, .int .i64 0, .int .i64 0, .slice none 0 0, .slice none 0 0]) = v ∧ Did w ((((((((W1.drewN n).setCell ⟨w.heap.size + 1, 0, none⟩ (.bool false)).setCell ⟨w.heap.size + 1, 1, none⟩ (.int .i64 0)).setCell ⟨w.heap.size + 1, 2, none⟩ (.int .i64 0)).setCell ⟨w.heap.size + 1, 3, none⟩ (.int .i64 0)).setCell ⟨w.heap.size + 1, 4, none⟩ (.slice none 0 0)).setCell ⟨w.heap.size + 1, 5, none⟩ (.slice none 0 0))) b lv (votedR r ⟨mk, mfr, mdst, mtm, mix, mpv, mcm, myes, mrs⟩).1 v (votedR r ⟨mk, mfr, mdst, mtm, mix, mpv, mcm, myes, mrs⟩).2 from by
    have e : votedR r ⟨mk, mfr, mdst, mtm, mix, mpv, mcm, myes, mrs⟩ = (r, Out.zero) := voted_no hh
    rw [e]
    refine ⟨_, rfl, did_set6 (HR1.out.on (below_drewN (Below.refl _ _) n)) (Or.inl rfl) ((Kept.below HB1.out).trans (Kept.below (S := fun _ => False) (below_drewN (Below.refl _ _) n)) (fun _ _ e => e.elim)) HBL.out.1 (by omega) (fun e => by have := HBL.out.2 _ e; omega) (OutIs.zero _ _) _ _ _ _ _ _⟩))
  have HOD := Lib.hid (fun n => (show (W1.drewN n).heap[w.heap.size + 1]? = some (.cells #[.bool false, .int .i64 0, .int .i64 0, .int .i64 0, .slice none 0 0, .slice none 0 0] 42) from ho1))
  have hq1 : (1 != 1 : Bool) = false := rfl
  clear h hp hm hL hb1 hx1 ho1 hr1
  by_cases hA : r.role = 1
  · have eA : (r.role != 1) = false := by simp [hA]
    by_cases hB : mtm = r.h.tm
    · have eB : (mtm != r.h.tm) = false := by simp [hB]
      cases hC : myes with
      | false =>
        have HN := Lib.hid (HNO.out (fun hh => by rw [hC] at hh; cases hh.2.2))
        subst hC
        clear hA hB
        go_enter Tryz.func64, Tryz.ntmps64
        go_upto_region 1 with fail
        rw [← hW1]
        clear hW1
        go_quiet (fail)
        go_wp2_with fail
        (try simp only [Exit.inBlock, Exit.then])
        refine bodyPost_ret (ret_out rfl _ _ (w.heap.size + 1) _ _ _ _ _ _ rfl (cells6_set (HOD.out nq) _ _ _ _ _ _)) rfl ?_
        obtain ⟨v, e1, e2⟩ := HN.out nq
        exact ⟨v, by rw [← e1], e2⟩
      | true =>
        subst hC
        have HLEAD := Lib.hid (voted_lead HFI.out HMR.out hA hB rfl)
        have hl63 := HFI.out.len
        obtain ⟨l0, hl0⟩ : ∃ l0 : Nat, r.l.length = l0 := ⟨_, rfl⟩
        obtain ⟨la, lc, rfl, _⟩ := HR1.out.row.shape
        have HL0 := Lib.hid hl0
        rw [hl0] at hl63
        have HRB := Lib.hid (fun n => (show (W1.drewN n).heap[b]? = some _ from HR1.out.blk))
        have z4 := HR1.out.c.z 4
        clear hA hB hl0
        go_enter Tryz.func64, Tryz.ntmps64
        go_upto_region 1 with fail
        rw [← hW1]
        clear hW1
        go_quiet (fail)
        obtain ⟨W2, hW2⟩ : ∃ W2, W2 = (W1.drewN nq).setCell ⟨b, 4, none⟩ (.int .i64 2) := ⟨_, rfl⟩
        have hb2 : W2.heap[b]? = some (.cells #[.int .i64 r.id, .int .i64 r.h.tm, .int .i64 r.h.vt, .slice la r.l.length lc, .int .i64 2, .int .i64 r.cm, .int .i64 (r.nxt 0), .int .i64 (r.nxt 1), .int .i64 (r.nxt 2), .int .i64 (r.mat 0), .int .i64 (r.mat 1), .int .i64 (r.mat 2)] 75 (0, 0)) := by rw [hW2]; exact box_set (HRB.out nq) 4 _
        have hk2 : Kept (fun k => k = b) W1 W2 := by rw [hW2]; exact (Kept.below (below_drewN (Below.refl _ _) nq)).trans (Kept.set _ _ _ _) (fun _ _ e => e)
        have HB2 := Lib.hid hb2
        have HK2 := Lib.hid hk2
        clear hb2 hk2
        go_upto_region 4 with fail
        rw [← hW2]
        clear hW2 c4 z4
        go_wp2_with fail
        go_loopw [30] (fun v30 wr => ∃ k : Nat, k ≤ 3 ∧ v30 = .int .i64 (k : Int) ∧ ∃ n0 n1 n2 m0 m1 m2 : Int, wr.heap[b]? = some (.cells #[.int .i64 r.id, .int .i64 r.h.tm, .int .i64 r.h.vt, .slice la r.l.length lc, .int .i64 2, .int .i64 r.cm, .int .i64 n0, .int .i64 n1, .int .i64 n2, .int .i64 m0, .int .i64 m1, .int .i64 m2] 75 (0, 0)) ∧ (1 ≤ k → n0 = (r.l.length : Int) + 1 ∧ m0 = 0) ∧ (2 ≤ k → n1 = (r.l.length : Int) + 1 ∧ m1 = 0) ∧ (3 ≤ k → n2 = (r.l.length : Int) + 1 ∧ m2 = 0) ∧ Kept (fun k => k = b) W1 wr) (fun v30 _ => 3 - (intOf v30).toNat)
        case atStart => exact ⟨0, by decide, rfl, _, _, _, _, _, _, HB2.out, (fun e => by omega), (fun e => by omega), (fun e => by omega), HK2.out⟩
        case round =>
          obtain ⟨k, hk, rfl, n0, n1, n2, m0, m1, m2, hblk, h0, h1, h2, hkk⟩ := hrel
          have HBK := Lib.hid hblk
          have HH0 := Lib.hid h0
          have HH1 := Lib.hid h1
          have HH2 := Lib.hid h2
          have HKK := Lib.hid hkk
          have d3 : wr.cell? ⟨b, 3, none⟩ = some (.slice la l0 lc) := by rw [← HL0.out, Lib.cell_of_heap hblk]; rfl
          have d6 : wr.cell? ⟨b, 6, none⟩ = some (.int .i64 n0) := by rw [Lib.cell_of_heap hblk]; rfl
          have d7 : wr.cell? ⟨b, 7, none⟩ = some (.int .i64 n1) := by rw [Lib.cell_of_heap hblk]; rfl
          have d8 : wr.cell? ⟨b, 8, none⟩ = some (.int .i64 n2) := by rw [Lib.cell_of_heap hblk]; rfl
          have d9 : wr.cell? ⟨b, 9, none⟩ = some (.int .i64 m0) := by rw [Lib.cell_of_heap hblk]; rfl
          have d10 : wr.cell? ⟨b, 10, none⟩ = some (.int .i64 m1) := by rw [Lib.cell_of_heap hblk]; rfl
          have d11 : wr.cell? ⟨b, 11, none⟩ = some (.int .i64 m2) := by rw [Lib.cell_of_heap hblk]; rfl
          have zz := fun o => Lib.frozen_of_heap hblk o
          have zz6 := zz 6
          have zz7 := zz 7
          have zz8 := zz 8
          have zz9 := zz 9
          have zz10 := zz 10
          have zz11 := zz 11
          clear hblk h0 h1 h2 hkk zz
          have hk4 : k = 0 ∨ k = 1 ∨ k = 2 ∨ k = 3 := by omega
          rcases hk4 with rfl | rfl | rfl | rfl
          · go_upto_region 7 with fail
            go_region
            all_goals
              go_wp2_with fail
              go_roundw
              case rel => exact ⟨1, by decide, by go_num, _, n1, n2, _, m1, m2, by first | exact box_set (box_set HBK.out 6 _) 9 _ | exact box_set (box_set HBK.out 9 _) 6 _, (fun _ => ⟨by rw [HL0.out], rfl⟩), (fun e => by omega), (fun e => by omega), by first | exact (HKK.out.trans (Kept.set _ _ _ _) (fun _ _ e => e)).trans (Kept.set _ _ _ _) (fun _ _ e => e) | exact ((HKK.out.trans (Kept.set _ _ _ _) (fun _ _ e => e)).trans (Kept.set _ _ _ _) (fun _ _ e => e)).trans (Kept.drew _ _) (fun _ _ e => e)⟩
              case measure => simp [intOf]
          · go_upto_region 7 with fail
            go_region
            all_goals
              go_wp2_with fail
              go_roundw
              case rel => exact ⟨2, by decide, by go_num, n0, _, n2, m0, _, m2, by first | exact box_set (box_set HBK.out 7 _) 10 _ | exact box_set (box_set HBK.out 10 _) 7 _, (fun _ => HH0.out (by decide)), (fun _ => ⟨by rw [HL0.out], rfl⟩), (fun e => by omega), by first | exact (HKK.out.trans (Kept.set _ _ _ _) (fun _ _ e => e)).trans (Kept.set _ _ _ _) (fun _ _ e => e) | exact ((HKK.out.trans (Kept.set _ _ _ _) (fun _ _ e => e)).trans (Kept.set _ _ _ _) (fun _ _ e => e)).trans (Kept.drew _ _) (fun _ _ e => e)⟩
              case measure => simp [intOf]
          · go_upto_region 7 with fail
            go_region
            all_goals
              go_wp2_with fail
              go_roundw
              case rel => exact ⟨3, by decide, by go_num, n0, n1, _, m0, m1, _, by first | exact box_set (box_set HBK.out 8 _) 11 _ | exact box_set (box_set HBK.out 11 _) 8 _, (fun _ => HH0.out (by decide)), (fun _ => HH1.out (by decide)), (fun _ => ⟨by rw [HL0.out], rfl⟩), by first | exact (HKK.out.trans (Kept.set _ _ _ _) (fun _ _ e => e)).trans (Kept.set _ _ _ _) (fun _ _ e => e) | exact ((HKK.out.trans (Kept.set _ _ _ _) (fun _ _ e => e)).trans (Kept.set _ _ _ _) (fun _ _ e => e)).trans (Kept.drew _ _) (fun _ _ e => e)⟩
              case measure => simp [intOf]
          · obtain ⟨e0, e0'⟩ := HH0.out (by decide)
            obtain ⟨e1, e1'⟩ := HH1.out (by decide)
            obtain ⟨e2, e2'⟩ := HH2.out (by decide)
            subst e0 e0' e1 e1' e2 e2'
            have hfr : Fine { r with votes := fun v => r.votes v || decide (v = mfr), role := 2, nxt := fun _ => (r.l.length : Int) + 1, mat := fun _ => 0 } := by
              have := voted_fine HFI.out HMR.out
              rw [HLEAD.out] at this
              exact this
            have hrep : RepAt wr b (.slice la r.l.length lc) { r with votes := fun v => r.votes v || decide (v = mfr), role := 2, nxt := fun _ => (r.l.length : Int) + 1, mat := fun _ => 0 } :=
              ⟨HBK.out, HR1.out.row.kept HKK.out (fun k e e' => HR1.out.apart (by rw [e, e'])), HR1.out.apart, hfr⟩
            have QO := Lib.hid (others_entries hrep rfl)
            have HREP := Lib.hid hrep
            have HOW := Lib.hid (HKK.out.heap HO1.out (fun e => by have := HBL.out; omega))
            have HKW := Lib.hid ((Kept.below (S := fun k => k = b) HB1.out).trans HKK.out (fun _ _ e => e))
            have HSW := Lib.hid HKK.out.size
            clear hfr hrep d3 d6 d7 d8 d9 d10 d11 zz6 zz7 zz8 zz9 zz10 zz11
            go_upto_region 9 with fail
            go_wp2_with (refine QO.out.mono ?_; rintro e w5 ⟨oa, oc, oL, ops, rfl, hmade⟩; have HOZ := Lib.hid (box_on HOW.out hmade.base); have hoz := ozc HOZ.out; have g0 := hoz.c0; have g1 := hoz.c1; have g2 := hoz.c2; have g3 := hoz.c3; have g4 := hoz.c4; have g5 := hoz.c5; have y0 := hoz.z 0; have y1 := hoz.z 1; have y2 := hoz.z 2; have y3 := hoz.z 3; have y4 := hoz.z 4; have y5 := hoz.z 5; have HMADE := Lib.hid hmade; clear hoz hmade)
            (try simp only [Exit.inBlock, Exit.then])
            refine bodyPost_ret (ret_out rfl _ _ (w.heap.size + 1) _ _ _ _ _ _ rfl (cells6_set HOZ.out _ _ _ _ _ _)) rfl ?_
            refine ⟨_, rfl, ?_⟩
            rw [HLEAD.out]
            have hlt5 : w.heap.size + 1 < wr.heap.size := box_lt HOW.out
            exact did_set6 (HREP.out.on HMADE.out.base) (Or.inl rfl) ((HKW.out.trans (Kept.below (S := fun k => k = b) HMADE.out.base) (fun _ _ e => e)).mono (fun _ _ e => Or.inl e)) HBL.out.1 (by omega) (fun e => by have := HBL.out.2 _ e; omega) (HMADE.out.out.mono (fun k hk => ⟨⟨by omega, fun e => by have := HBL.out.2 _ e; omega⟩, by omega⟩)) _ _ _ _ _ _
    · have eB : (mtm != r.h.tm) = true := by simp [hB]
      have HN := Lib.hid (HNO.out (fun hh => hB hh.2.1))
      clear hA hB
      go_enter Tryz.func64, Tryz.ntmps64
      go_upto_region 1 with fail
      rw [← hW1]
      clear hW1
      go_quiet (fail)
      go_wp2_with fail
      (try simp only [Exit.inBlock, Exit.then])
      refine bodyPost_ret (ret_out rfl _ _ (w.heap.size + 1) _ _ _ _ _ _ rfl (cells6_set (HOD.out nq) _ _ _ _ _ _)) rfl ?_
      obtain ⟨v, e1, e2⟩ := HN.out nq
      exact ⟨v, by rw [← e1], e2⟩
  · have eA : (r.role != 1) = true := by simp [hA]
    have HN := Lib.hid (HNO.out (fun hh => hA hh.1))
    clear hA
    go_enter Tryz.func64, Tryz.ntmps64
    go_upto_region 1 with fail
    rw [← hW1]
    clear hW1
    go_quiet (fail)
    go_wp2_with fail
    (try simp only [Exit.inBlock, Exit.then])
    refine bodyPost_ret (ret_out rfl _ _ (w.heap.size + 1) _ _ _ _ _ _ rfl (cells6_set (HOD.out nq) _ _ _ _ _ _)) rfl ?_
    obtain ⟨v, e1, e2⟩ := HN.out nq
    exact ⟨v, by rw [← e1], e2⟩
end Go.Proofs.YtkmojcpiadpbaaaGreatDoor

namespace Go.Proofs.YtkmojcpiadpbaaaGreatDoor
set_option maxRecDepth 100000
open Go Go.RowKit Rp

theorem rep_nxt {w : World} {b : Nat} {lv : Value} {r : R} (h : RepAt w b lv r) {d : Nat} (hd : d < 3) {n : Int} (hn : 1 ≤ n ∧ n ≤ (r.l.length : Int) + 1) : RepAt (w.setCell ⟨b, 6 + d, none⟩ (.int .i64 n)) b lv { r with nxt := upd r.nxt (d : Int) n } := by
  refine ⟨?_, h.row.kept (Kept.set b _ w _) (fun k e e' => h.apart (by rw [e, e'])), h.apart, ⟨h.fine.id, h.fine.tm, h.fine.vt, h.fine.len, h.fine.snd, h.fine.ord, h.fine.role, h.fine.cm, h.fine.ask, h.fine.pos, fun hr j => ?_, h.fine.mat, h.fine.own⟩⟩
  · match d, hd with
    | 0, _ => exact box_set h.blk 6 _
    | 1, _ => exact box_set h.blk 7 _
    | 2, _ => exact box_set h.blk 8 _
  · show 1 ≤ upd r.nxt (d : Int) n j ∧ upd r.nxt (d : Int) n j ≤ _
    by_cases e : j = (d : Int)
    · subst e; rw [upd_same]; exact hn
    · rw [upd_ne _ _ e]; exact h.fine.nxt hr j
theorem rep_mat {w : World} {b : Nat} {lv : Value} {r : R} (h : RepAt w b lv r) {d : Nat} (hd : d < 3) (hid : (d : Int) ≠ r.id) {n : Int} (hn : 0 ≤ n ∧ n ≤ (r.l.length : Int)) : RepAt (w.setCell ⟨b, 9 + d, none⟩ (.int .i64 n)) b lv { r with mat := upd r.mat (d : Int) n } := by
  refine ⟨?_, h.row.kept (Kept.set b _ w _) (fun k e e' => h.apart (by rw [e, e'])), h.apart, ⟨h.fine.id, h.fine.tm, h.fine.vt, h.fine.len, h.fine.snd, h.fine.ord, h.fine.role, h.fine.cm, h.fine.ask, h.fine.pos, h.fine.nxt, fun hr j => ?_, fun hr => ?_⟩⟩
  · match d, hd with
    | 0, _ => exact box_set h.blk 9 _
    | 1, _ => exact box_set h.blk 10 _
    | 2, _ => exact box_set h.blk 11 _
  · show 0 ≤ upd r.mat (d : Int) n j ∧ upd r.mat (d : Int) n j ≤ _
    by_cases e : j = (d : Int)
    · subst e; rw [upd_same]; exact hn
    · rw [upd_ne _ _ e]; exact h.fine.mat hr j
  · show upd r.mat (d : Int) n r.id = 0
    rw [upd_ne _ _ (fun e => hid e.symm)]
    exact h.fine.own hr
theorem appended_zero {r : R} {m : Msg} (h : ¬ (r.role = 2 ∧ m.tm = r.h.tm) ∨ (m.yes = true ∧ (r.l.length : Int) < m.ix)) : appendedR r m = (r, Out.zero) := by
  unfold appendedR
  by_cases h1 : r.role = 2 ∧ m.tm = r.h.tm
  · rw [if_pos h1]
    rcases h with h | h
    · exact absurd h1 h
    · rw [if_pos h.1, if_pos h.2]
  · rw [if_neg h1]
theorem appended_no {r : R} {m : Msg} (h : r.role = 2 ∧ m.tm = r.h.tm) (hy : m.yes = false) : appendedR r m = ({ r with nxt := upd r.nxt m.fr (max (r.mat m.fr + 1) (min (r.nxt m.fr - 1) (m.ix + 1))) }, Out.just [ents { r with nxt := upd r.nxt m.fr (max (r.mat m.fr + 1) (min (r.nxt m.fr - 1) (m.ix + 1))) } m.fr]) := by
  unfold appendedR
  rw [if_pos h, if_neg (by rw [hy]; decide)]
/-- A leader that knows how far another one's log is equal. -/
def noted (r : R) (d n : Int) : R := { r with mat := upd r.mat d n, nxt := upd r.nxt d (n + 1), cm := best r.l r.h.tm (max (upd r.mat d n ((r.id + 1) % 3)) (upd r.mat d n ((r.id + 2) % 3))) r.cm r.l.length }
theorem appended_yes {r : R} {m : Msg} (h : r.role = 2 ∧ m.tm = r.h.tm) (hy : m.yes = true) (hx : ¬ (r.l.length : Int) < m.ix) : appendedR r m = if max (r.mat m.fr) m.ix + 1 ≤ (r.l.length : Int) then (noted r m.fr (max (r.mat m.fr) m.ix), Out.just [ents (noted r m.fr (max (r.mat m.fr) m.ix)) m.fr]) else (noted r m.fr (max (r.mat m.fr) m.ix), Out.zero) := by
  unfold appendedR
  rw [if_pos h, if_pos hy, if_neg hx]
  have e : ∀ n : Int, upd r.nxt m.fr n m.fr = n := fun n => upd_same _ _ _
  have e2 : ∀ n : Int, upd r.mat m.fr n m.fr = n := fun n => upd_same _ _ _
  simp only [e, e2]
  rfl
set_option maxHeartbeats 4000000 in
theorem note_c {w : World} {b : Nat} {lv : Value} {r : R} (h : RepAt w b lv r) (p : PM) (hp : p.ok (fun k => k ≠ b ∧ lv.ownBlock ≠ some k) w) (hm : Right r.id p.m) : Calls Tryz.prog 66 #[.pointer (some ⟨b, 0, none⟩), p.val] w fun e w' => ∃ v, e = .returned v ∧ Did w w' b lv (appendedR r p.m).1 v (appendedR r p.m).2 := by
  obtain ⟨⟨mk, mfr, mdst, mtm, mix, mpv, mcm, myes, mrs⟩, ma, mc⟩ := p
  obtain ⟨L, hL⟩ : ∃ L : Nat, mrs.length = L := ⟨_, rfl⟩
  have HL := Lib.hid hL
  show Calls Tryz.prog _ #[_, .agg #[.int .i64 mk, .int .i64 mfr, .int .i64 mdst, .int .i64 mtm, .int .i64 mix, .int .i64 mpv, .int .i64 mcm, .bool myes, .slice ma mrs.length mc]] w _
  rw [hL]
  have HP := Lib.hid (show Src (fun k => k ≠ b ∧ lv.ownBlock ≠ some k) w ma mc mrs.length (recsV mrs) from hp)
  obtain ⟨W1, hW1⟩ : ∃ W1, W1 = (w.alloc (.cells #[.int .i64 mk, .int .i64 mfr, .int .i64 mdst, .int .i64 mtm, .int .i64 mix, .int .i64 mpv, .int .i64 mcm, .bool myes, .slice ma L mc] 24)).alloc (.cells #[.bool false, .int .i64 0, .int .i64 0, .int .i64 0, .slice none 0 0, .slice none 0 0] 42) := ⟨_, rfl⟩
  have hb1 : Below w.heap.size w W1 := by rw [hW1]; exact (below_new w _).trans ((below_new _ _).mono (by simp))
  have hx1 : PM.at ⟨⟨mk, mfr, mdst, mtm, mix, mpv, mcm, myes, mrs⟩, ma, mc⟩ W1 w.heap.size := by
    rw [hW1, ← hL]
    exact box_on (box_new w _) (below_new _ _)
  have ho1 : W1.heap[w.heap.size + 1]? = some (.cells #[.bool false, .int .i64 0, .int .i64 0, .int .i64 0, .slice none 0 0, .slice none 0 0] 42) := by
    rw [hW1]
    have := box_new (w.alloc (.cells #[.int .i64 mk, .int .i64 mfr, .int .i64 mdst, .int .i64 mtm, .int .i64 mix, .int .i64 mpv, .int .i64 mcm, .bool myes, .slice ma L mc] 24)) (.cells #[.bool false, .int .i64 0, .int .i64 0, .int .i64 0, .slice none 0 0, .slice none 0 0] 42)
    rw [show (w.alloc (.cells #[.int .i64 mk, .int .i64 mfr, .int .i64 mdst, .int .i64 mtm, .int .i64 mix, .int .i64 mpv, .int .i64 mcm, .bool myes, .slice ma L mc] 24)).heap.size = w.heap.size + 1 by simp] at this
    exact this
  have HS1 := Lib.hid (show w.heap.size + 2 = W1.heap.size by rw [hW1]; simp)
  have hr1 := h.on hb1
  have HBL := Lib.hid (show b < w.heap.size ∧ ∀ k, lv.ownBlock = some k → k < w.heap.size from ⟨h.lt, fun k e => h.row.lt e⟩)
  have hfr := hm.fr
  obtain ⟨d, hd⟩ : ∃ d : Nat, mfr = (d : Int) := ⟨mfr.toNat, by have : 0 ≤ mfr := hfr.1; omega⟩
  subst hd
  have hd3 : d < 3 := by have : (d : Int) ≤ 2 := hfr.2; omega
  have hix : 0 ≤ mix ∧ mix ≤ 4000 := hm.ix
  have hne : (d : Int) ≠ r.id := hm.ne
  have HX1 := Lib.hid hx1
  have HO1 := Lib.hid ho1
  have HB1 := Lib.hid hb1
  have HR1 := Lib.hid hr1
  have HFI := Lib.hid h.fine
  have HD := Lib.hid (And.intro hd3 hne)
  have c4 := hr1.c.c4
  have c1 := hr1.c.c1
  have c3 := hr1.c.c3
  have f1 := hx1.c.c1
  have f3 := hx1.c.c3
  have f4 := hx1.c.c4
  have f7 := hx1.c.c7
  have HOD := Lib.hid (fun n => (show (W1.drewN n).heap[w.heap.size + 1]? = some (.cells #[.bool false, .int .i64 0, .int .i64 0, .int .i64 0, .slice none 0 0, .slice none 0 0] 42) from ho1))
  have HNO := Lib.hid (fun (hh : ¬ (r.role = 2 ∧ mtm = r.h.tm) ∨ (myes = true ∧ (r.l.length : Int) < mix)) (n : Nat) (y0 y1 y2 y3 y4 y5 : Value) => (show Did w ((((((((W1.drewN n).setCell ⟨w.heap.size + 1, 0, none⟩ y0).setCell ⟨w.heap.size + 1, 1, none⟩ y1).setCell ⟨w.heap.size + 1, 2, none⟩ y2).setCell ⟨w.heap.size + 1, 3, none⟩ y3).setCell ⟨w.heap.size + 1, 4, none⟩ y4).setCell ⟨w.heap.size + 1, 5, none⟩ y5)) b lv (appendedR r ⟨mk, (d : Int), mdst, mtm, mix, mpv, mcm, myes, mrs⟩).1 (.agg #[.bool false, .int .i64 0, .int .i64 0, .int .i64 0, .slice none 0 0, .slice none 0 0]) (appendedR r ⟨mk, (d : Int), mdst, mtm, mix, mpv, mcm, myes, mrs⟩).2 from by
    have e : appendedR r ⟨mk, (d : Int), mdst, mtm, mix, mpv, mcm, myes, mrs⟩ = (r, Out.zero) := appended_zero hh
    rw [e]
    exact did_set6 (HR1.out.on (below_drewN (Below.refl _ _) n)) (Or.inl rfl) ((Kept.below HB1.out).trans (Kept.below (S := fun _ => False) (below_drewN (Below.refl _ _) n)) (fun _ _ e => e.elim)) HBL.out.1 (by omega) (fun e => by have := HBL.out.2 _ e; omega) (OutIs.zero _ _) _ _ _ _ _ _))
  have g0 : W1.cell? ⟨w.heap.size + 1, 0, none⟩ = some (.bool false) := by rw [Lib.cell_of_heap ho1]; rfl
  have zg0 := Lib.frozen_of_heap ho1 0
  have g1 : W1.cell? ⟨w.heap.size + 1, 1, none⟩ = some (.int .i64 0) := by rw [Lib.cell_of_heap ho1]; rfl
  have zg1 := Lib.frozen_of_heap ho1 1
  have g2 : W1.cell? ⟨w.heap.size + 1, 2, none⟩ = some (.int .i64 0) := by rw [Lib.cell_of_heap ho1]; rfl
  have zg2 := Lib.frozen_of_heap ho1 2
  have g3 : W1.cell? ⟨w.heap.size + 1, 3, none⟩ = some (.int .i64 0) := by rw [Lib.cell_of_heap ho1]; rfl
  have zg3 := Lib.frozen_of_heap ho1 3
  have g4 : W1.cell? ⟨w.heap.size + 1, 4, none⟩ = some (.slice none 0 0) := by rw [Lib.cell_of_heap ho1]; rfl
  have zg4 := Lib.frozen_of_heap ho1 4
  have g5 : W1.cell? ⟨w.heap.size + 1, 5, none⟩ = some (.slice none 0 0) := by rw [Lib.cell_of_heap ho1]; rfl
  have zg5 := Lib.frozen_of_heap ho1 5
  have hlen := h.fine.len
  have HMB := Lib.hid (fun (hr : r.role = 2) => And.intro (h.fine.mat hr (d : Int)) (h.fine.nxt hr (d : Int)))
  have hnx := nxt_cell hr1 hd3
  have hmt := mat_cell hr1 hd3
  obtain ⟨la, lc, rfl, _⟩ := hr1.row.shape
  obtain ⟨l0, hl0⟩ : ∃ l0 : Nat, r.l.length = l0 := ⟨_, rfl⟩
  have HL0 := Lib.hid hl0
  rw [hl0] at hlen c3
  have hl63 : (l0 : Int) ≤ 4000 := by omega
  have hd0 : ¬ (d : Int) < 0 := by omega
  have hd33 : ¬ (3 : Int) ≤ (d : Int) := by omega
  have hd3' : (d : Int) < 3 := by omega
  clear h hp hm hL hb1 hx1 ho1 hr1 hl0 hfr hne hlen hd3
  by_cases hA : r.role = 2
  · have eA : (r.role != 2) = false := by simp [hA]
    by_cases hB : mtm = r.h.tm
    · have eB : (mtm != r.h.tm) = false := by simp [hB]
      have HAB := Lib.hid (And.intro hA hB)
      cases hC : myes with
      | false =>
        subst hC
        obtain ⟨⟨hm0, hm1⟩, hn1, hn2⟩ := HMB.out hA
        rw [HL0.out] at hm1 hn2
        clear hA hB
        go_enter Tryz.func66, Tryz.ntmps66
        go_upto_region 1 with fail
        rw [← hW1]
        clear hW1
        go_upto_region 2 with fail
        go_quiet (fail)
        have hbA := below_drewN (Below.refl W1.heap.size W1) nq
        generalize W1.drewN nq = W2 at hbA ⊢
        have f1 := (show PM.at ⟨⟨mk, (d : Int), mdst, mtm, mix, mpv, mcm, false, mrs⟩, ma, mc⟩ W2 w.heap.size from box_on HX1.out hbA).c.c1
        have HA := Lib.hid hbA
        clear hbA c4 c1 c3 f3 hnx hmt
        go_upto_region 4 with fail
        go_quiet (fail)
        have hbB := HA.out.trans ((below_drewN (Below.refl W2.heap.size W2) nq).mono HA.out.size)
        generalize W2.drewN nq = W3 at hbB ⊢
        have hr3 := HR1.out.on hbB
        have hx3 : PM.at ⟨⟨mk, (d : Int), mdst, mtm, mix, mpv, mcm, false, mrs⟩, ma, mc⟩ W3 w.heap.size := box_on HX1.out hbB
        have ho3 := box_on HO1.out hbB
        have hnx := nxt_cell hr3 HD.out.1
        have hmt := mat_cell hr3 HD.out.1
        have f4 := hx3.c.c4
        have f7 := hx3.c.c7
        have zn := hr3.c.z (6 + d)
        have zm := hr3.c.z (9 + d)
        have HR3 := Lib.hid hr3
        have HO3 := Lib.hid ho3
        have HX3 := Lib.hid hx3
        have HB3 := Lib.hid (HB1.out.trans (hbB.mono HB1.out.size))
        clear hbB hr3 hx3 ho3 f1
        obtain ⟨N, hN⟩ : ∃ N : Int, max (r.mat (d : Int) + 1) (min (r.nxt (d : Int) - 1) (mix + 1)) = N := ⟨_, rfl⟩
        have HNB := Lib.hid (show 1 ≤ N ∧ N ≤ (r.l.length : Int) + 1 by rw [HL0.out]; omega)
        have HMOD := Lib.hid (appended_no (m := ⟨mk, (d : Int), mdst, mtm, mix, mpv, mcm, false, mrs⟩) HAB.out rfl)
        have HN := Lib.hid hN
        go_upto_region 6 with fail
        go_cut [67] (fun t67 wx => Hid (RepAt wx b (.slice la r.l.length lc) { r with nxt := upd r.nxt (d : Int) N } ∧ Kept (fun k => k = b) W3 wx))
        case first =>
          have hE := rep_nxt HR3.out HD.out.1 HNB.out
          have HE := Lib.hid hE
          clear hE
          go_region
          all_goals
            go_wp2_with fail
            go_meet
            exact Lib.hid ⟨HE.out.on (below_drew (Below.refl _ _)), (Kept.set _ _ _ _).trans (Kept.drew _ _) (fun _ _ e => e)⟩
        case rest =>
          have HREP := Lib.hid hcut.out.1
          have HKW := Lib.hid ((kept_b (b := b) HB3.out).trans hcut.out.2 (fun _ _ e => e))
          have HOW := Lib.hid (hcut.out.2.heap HO3.out (fun e => by have := HBL.out; omega))
          have f1 := (show PM.at ⟨⟨mk, (d : Int), mdst, mtm, mix, mpv, mcm, false, mrs⟩, ma, mc⟩ wc w.heap.size from hcut.out.2.heap HX3.out (fun e => by have := HBL.out; omega)).c.c1
          have HMOD2 := Lib.hid (show appendedR r ⟨mk, (d : Int), mdst, mtm, mix, mpv, mcm, false, mrs⟩ = ({ r with nxt := upd r.nxt (d : Int) N }, Out.just [ents { r with nxt := upd r.nxt (d : Int) N } (d : Int)]) by rw [HMOD.out]; simp only [HN.out])
          clear hcut hnx hmt f4 f7 zn zm
          have QE := Lib.hid ((entries_c HREP.out HAB.out.1 d HD.out.1).mono (R' := fun e w' => ∃ (m : Msg) (pa : Option Addr) (pc : Nat), e = .returned (.agg #[.int .i64 m.k, .int .i64 m.fr, .int .i64 m.dst, .int .i64 m.tm, .int .i64 m.ix, .int .i64 m.pv, .int .i64 m.cm, .bool m.yes, .slice pa m.rs.length pc]) ∧ Hid (m = ents { r with nxt := upd r.nxt (d : Int) N } (d : Int) ∧ PM.ok (fun k => wc.heap.size ≤ k) w' ⟨m, pa, pc⟩ ∧ Below wc.heap.size wc w')) (fun e w' hh => by
            obtain ⟨a, c, h1, h2, h3⟩ := hh
            exact ⟨_, a, c, h1, Lib.hid ⟨rfl, h2, h3⟩⟩))
          go_wp2_with (refine QE.out.mono ?_; rintro e w5 ⟨m, pa, pc, rfl, HH⟩; have HOZ := Lib.hid (box_on (box_on HOW.out HH.out.2.2) (below_new w5 (.cells #[.int .i64 m.k, .int .i64 m.fr, .int .i64 m.dst, .int .i64 m.tm, .int .i64 m.ix, .int .i64 m.pv, .int .i64 m.cm, .bool m.yes, .slice pa m.rs.length pc] 24))); have hoz := ozc HOZ.out; have g0 := hoz.c0; have g1 := hoz.c1; have g2 := hoz.c2; have g3 := hoz.c3; have g4 := hoz.c4; have g5 := hoz.c5; have y0 := hoz.z 0; have y1 := hoz.z 1; have y2 := hoz.z 2; have y3 := hoz.z 3; have y4 := hoz.z 4; have y5 := hoz.z 5; clear hoz)
          (try simp only [Exit.inBlock, Exit.then])
          refine bodyPost_ret (ret_out rfl _ _ (w.heap.size + 1) _ _ _ _ _ _ rfl (cells6_set HOZ.out _ _ _ _ _ _)) rfl ?_
          refine ⟨_, rfl, ?_⟩
          rw [HMOD2.out, ← HH.out.1]
          have hlt5 : w.heap.size + 1 < wc.heap.size := box_lt HOW.out
          have hsz5 := HH.out.2.2.size
          exact did_one (p := ⟨m, pa, pc⟩) (HREP.out.on HH.out.2.2) (HKW.out.trans (Kept.below (S := fun k => k = b) HH.out.2.2) (fun _ _ e => e)) HBL.out.1 HBL.out.2 ⟨by omega, by omega⟩ (HH.out.2.1.mono (fun k hk => ⟨by omega, by omega⟩)) _ _ _ _ _ _
      | true =>
        by_cases hD : (l0 : Int) < mix
        · have HN := Lib.hid (HNO.out (Or.inr ⟨hC, by rw [HL0.out]; exact hD⟩))
          subst hC
          clear hA hB
          go_enter Tryz.func66, Tryz.ntmps66
          go_upto_region 1 with fail
          rw [← hW1]
          clear hW1
          go_upto_region 2 with fail
          go_quiet (fail)
          go_wp2_with fail
          (try simp only [Exit.inBlock, Exit.then])
          refine bodyPost_ret (ret_out rfl _ _ (w.heap.size + 1) _ _ _ _ _ _ rfl (cells6_set (HOD.out nq) _ _ _ _ _ _)) rfl ?_
          exact ⟨_, rfl, HN.out nq _ _ _ _ _ _⟩
        · have hDd : decide ((l0 : Int) < mix) = false := by simp only [decide_eq_false_iff_not]; exact hD
          subst hC
          obtain ⟨⟨hm0, hm1⟩, hn1, hn2⟩ := HMB.out hA
          rw [HL0.out] at hm1 hn2
          clear hA hB
          go_enter Tryz.func66, Tryz.ntmps66
          go_upto_region 1 with fail
          rw [← hW1]
          clear hW1
          go_upto_region 2 with fail
          go_quiet (fail)
          have hbA := below_drewN (Below.refl W1.heap.size W1) nq
          generalize W1.drewN nq = W2 at hbA ⊢
          have f1 := (show PM.at ⟨⟨mk, (d : Int), mdst, mtm, mix, mpv, mcm, true, mrs⟩, ma, mc⟩ W2 w.heap.size from box_on HX1.out hbA).c.c1
          have HA := Lib.hid hbA
          clear hbA c4 c1 c3 f3 hnx hmt
          go_upto_region 4 with fail
          go_quiet (fail)
          have hbB := HA.out.trans ((below_drewN (Below.refl W2.heap.size W2) nq).mono HA.out.size)
          generalize W2.drewN nq = W3 at hbB ⊢
          have hr3 := HR1.out.on hbB
          have hx3 : PM.at ⟨⟨mk, (d : Int), mdst, mtm, mix, mpv, mcm, true, mrs⟩, ma, mc⟩ W3 w.heap.size := box_on HX1.out hbB
          have ho3 := box_on HO1.out hbB
          have hmt := mat_cell hr3 HD.out.1
          have f4 := hx3.c.c4
          have f7 := hx3.c.c7
          have zm := hr3.c.z (9 + d)
          have HR3 := Lib.hid hr3
          have HO3 := Lib.hid ho3
          have HX3 := Lib.hid hx3
          have HB3 := Lib.hid (HB1.out.trans (hbB.mono HB1.out.size))
          clear hbB hr3 hx3 ho3 f1
          obtain ⟨N, hN⟩ : ∃ N : Int, max (r.mat (d : Int)) mix = N := ⟨_, rfl⟩
          have hN0 : 0 ≤ N ∧ N ≤ 4000 := by omega
          have HNB := Lib.hid (show 0 ≤ N ∧ N ≤ (r.l.length : Int) by rw [HL0.out]; omega)
          have HMOD := Lib.hid (show appendedR r ⟨mk, (d : Int), mdst, mtm, mix, mpv, mcm, true, mrs⟩ = if N + 1 ≤ (l0 : Int) then (noted r d N, Out.just [ents (noted r d N) d]) else (noted r d N, Out.zero) by
            rw [appended_yes (m := ⟨mk, (d : Int), mdst, mtm, mix, mpv, mcm, true, mrs⟩) HAB.out rfl (by rw [HL0.out]; exact hD), HL0.out]
            simp only [hN])
          have HN := Lib.hid hN
          go_upto_region 8 with fail
          go_cut [81] (fun t81 wx => Hid (RepAt wx b (.slice la r.l.length lc) { r with mat := upd r.mat (d : Int) N } ∧ Kept (fun k => k = b) W3 wx))
          case first =>
            have HE := Lib.hid (rep_mat HR3.out HD.out.1 HD.out.2 HNB.out)
            go_region
            all_goals
              go_wp2_with fail
              go_meet
              exact Lib.hid ⟨HE.out.on (below_drew (Below.refl _ _)), (Kept.set _ _ _ _).trans (Kept.drew _ _) (fun _ _ e => e)⟩
          case rest =>
            have HRC := Lib.hid hcut.out.1
            have HKC := Lib.hid hcut.out.2
            have hmt2 : wc.cell? ⟨b, 9 + d, none⟩ = some (.int .i64 N) := by
              have := mat_cell hcut.out.1 HD.out.1
              rw [this]
              show some (Value.int .i64 (upd r.mat (d : Int) N (d : Int))) = _
              rw [upd_same]
            have hnx2 := nxt_cell hcut.out.1 HD.out.1
            have zn := hcut.out.1.c.z (6 + d)
            obtain ⟨W5, hW5⟩ : ∃ W5, W5 = wc.setCell ⟨b, 6 + d, none⟩ (.int .i64 (N + 1)) := ⟨_, rfl⟩
            have hr5 : RepAt W5 b (.slice la r.l.length lc) { r with mat := upd r.mat (d : Int) N, nxt := upd r.nxt (d : Int) (N + 1) } := by
              rw [hW5]
              exact rep_nxt hcut.out.1 HD.out.1 (by have := HNB.out; show 1 ≤ N + 1 ∧ N + 1 ≤ (r.l.length : Int) + 1; omega)
            have HK5 := Lib.hid (show Kept (fun k => k = b) W3 W5 by rw [hW5]; exact hcut.out.2.trans (Kept.set _ _ _ _) (fun _ _ e => e))
            have QA := Lib.hid (show Calls Tryz.prog 77 #[.pointer (some ⟨b, 0, none⟩)] W5 fun e w' => e = .returned (.tuple #[]) ∧ Hid (RepAt w' b (.slice la r.l.length lc) (noted r d N) ∧ Kept (fun k => k = b) W5 w') from (advance_c hr5 HAB.out.1).mono (fun e w' hh => ⟨hh.1, Lib.hid ⟨hh.2.1, hh.2.2⟩⟩))
            clear hcut hr5 hmt f4 f7 zm
            go_upto_region 10 with fail
            rw [← hW5]
            clear hW5 hmt2 hnx2 zn
            go_upto_region 11 with (with_reducible refine QA.out.mono ?_; rintro e w6 ⟨rfl, hr6⟩)
            have HREP := Lib.hid (show RepAt w6 b (.slice la r.l.length lc) (noted r d N) from hr6.out.1)
            have HKW := Lib.hid ((kept_b (b := b) HB3.out).trans (HK5.out.trans hr6.out.2 (fun _ _ e => e)) (fun _ _ e => e))
            have hk36 := HK5.out.trans hr6.out.2 (fun _ _ e => e)
            have HOW := Lib.hid (hk36.heap HO3.out (fun e => by have := HBL.out; omega))
            have f1 := (show PM.at ⟨⟨mk, (d : Int), mdst, mtm, mix, mpv, mcm, true, mrs⟩, ma, mc⟩ w6 w.heap.size from hk36.heap HX3.out (fun e => by have := HBL.out; omega)).c.c1
            have hnx6 : w6.cell? ⟨b, 6 + d, none⟩ = some (.int .i64 (N + 1)) := by
              have := nxt_cell HREP.out HD.out.1
              rw [this]
              show some (Value.int .i64 (upd r.nxt (d : Int) (N + 1) (d : Int))) = _
              rw [upd_same]
            clear hr6 hk36
            by_cases hE : (l0 : Int) < N + 1
            · have HMOD2 := Lib.hid (show appendedR r ⟨mk, (d : Int), mdst, mtm, mix, mpv, mcm, true, mrs⟩ = (noted r d N, Out.zero) by rw [HMOD.out, if_neg (by omega)])
              have hoz := ozc HOW.out
              have g0 := hoz.c0
              have y0 := hoz.z 0
              have g1 := hoz.c1
              have y1 := hoz.z 1
              have g2 := hoz.c2
              have y2 := hoz.z 2
              have g3 := hoz.c3
              have y3 := hoz.z 3
              have g4 := hoz.c4
              have y4 := hoz.z 4
              have g5 := hoz.c5
              have y5 := hoz.z 5
              clear hoz
              go_wp2_with fail
              (try simp only [Exit.inBlock, Exit.then])
              refine bodyPost_ret (ret_out rfl _ _ (w.heap.size + 1) _ _ _ _ _ _ rfl (cells6_set HOW.out _ _ _ _ _ _)) rfl ?_
              refine ⟨_, rfl, ?_⟩
              rw [HMOD2.out]
              exact did_set6 HREP.out (Or.inl rfl) (HKW.out.mono (fun _ _ e => Or.inl e)) HBL.out.1 (by omega) (fun e => by have := HBL.out.2 _ e; omega) (OutIs.zero _ _) _ _ _ _ _ _
            · have hEd : decide ((l0 : Int) < N + 1) = false := by simp only [decide_eq_false_iff_not]; exact hE
              have HMOD2 := Lib.hid (show appendedR r ⟨mk, (d : Int), mdst, mtm, mix, mpv, mcm, true, mrs⟩ = (noted r d N, Out.just [ents (noted r d N) d]) by rw [HMOD.out, if_pos (by omega)])
              have QE := Lib.hid ((entries_c HREP.out HAB.out.1 d HD.out.1).mono (R' := fun e w' => ∃ (m : Msg) (pa : Option Addr) (pc : Nat), e = .returned (.agg #[.int .i64 m.k, .int .i64 m.fr, .int .i64 m.dst, .int .i64 m.tm, .int .i64 m.ix, .int .i64 m.pv, .int .i64 m.cm, .bool m.yes, .slice pa m.rs.length pc]) ∧ Hid (m = ents (noted r d N) (d : Int) ∧ PM.ok (fun k => w6.heap.size ≤ k) w' ⟨m, pa, pc⟩ ∧ Below w6.heap.size w6 w')) (fun e w' hh => by
                obtain ⟨a, c, h1, h2, h3⟩ := hh
                exact ⟨_, a, c, h1, Lib.hid ⟨rfl, h2, h3⟩⟩))
              go_wp2_with (refine QE.out.mono ?_; rintro e w5 ⟨m, pa, pc, rfl, HH⟩; have HOZ := Lib.hid (box_on (box_on HOW.out HH.out.2.2) (below_new w5 (.cells #[.int .i64 m.k, .int .i64 m.fr, .int .i64 m.dst, .int .i64 m.tm, .int .i64 m.ix, .int .i64 m.pv, .int .i64 m.cm, .bool m.yes, .slice pa m.rs.length pc] 24))); have hoz := ozc HOZ.out; have g0 := hoz.c0; have g1 := hoz.c1; have g2 := hoz.c2; have g3 := hoz.c3; have g4 := hoz.c4; have g5 := hoz.c5; have y0 := hoz.z 0; have y1 := hoz.z 1; have y2 := hoz.z 2; have y3 := hoz.z 3; have y4 := hoz.z 4; have y5 := hoz.z 5; clear hoz)
              (try simp only [Exit.inBlock, Exit.then])
              refine bodyPost_ret (ret_out rfl _ _ (w.heap.size + 1) _ _ _ _ _ _ rfl (cells6_set HOZ.out _ _ _ _ _ _)) rfl ?_
              refine ⟨_, rfl, ?_⟩
              rw [HMOD2.out, ← HH.out.1]
              have hlt5 : w.heap.size + 1 < w6.heap.size := box_lt HOW.out
              have hsz5 := HH.out.2.2.size
              exact did_one (p := ⟨m, pa, pc⟩) (HREP.out.on HH.out.2.2) (HKW.out.trans (Kept.below (S := fun k => k = b) HH.out.2.2) (fun _ _ e => e)) HBL.out.1 HBL.out.2 ⟨by omega, by omega⟩ (HH.out.2.1.mono (fun k hk => ⟨by omega, by omega⟩)) _ _ _ _ _ _
    · have eB : (mtm != r.h.tm) = true := by simp [hB]
      have HN := Lib.hid (HNO.out (Or.inl (fun hh => hB hh.2)))
      clear hA hB
      go_enter Tryz.func66, Tryz.ntmps66
      go_upto_region 1 with fail
      rw [← hW1]
      clear hW1
      go_upto_region 2 with fail
      go_quiet (fail)
      go_wp2_with fail
      (try simp only [Exit.inBlock, Exit.then])
      refine bodyPost_ret (ret_out rfl _ _ (w.heap.size + 1) _ _ _ _ _ _ rfl (cells6_set (HOD.out nq) _ _ _ _ _ _)) rfl ?_
      exact ⟨_, rfl, HN.out nq _ _ _ _ _ _⟩
  · have eA : (r.role != 2) = true := by simp [hA]
    have HN := Lib.hid (HNO.out (Or.inl (fun hh => hA hh.1)))
    clear hA
    go_enter Tryz.func66, Tryz.ntmps66
    go_upto_region 1 with fail
    rw [← hW1]
    clear hW1
    go_upto_region 2 with fail
    go_quiet (fail)
    go_wp2_with fail
    (try simp only [Exit.inBlock, Exit.then])
    refine bodyPost_ret (ret_out rfl _ _ (w.heap.size + 1) _ _ _ _ _ _ rfl (cells6_set (HOD.out nq) _ _ _ _ _ _)) rfl ?_
    exact ⟨_, rfl, HN.out nq _ _ _ _ _ _⟩
end Go.Proofs.YtkmojcpiadpbaaaGreatDoor
