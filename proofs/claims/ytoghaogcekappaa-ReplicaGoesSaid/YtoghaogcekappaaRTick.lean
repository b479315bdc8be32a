/-
  A replica ticks.
-/
import Derived.Test.YtoghaogcekappaaRHearL
namespace Go.Proofs.Ytoghaogcekappaa
set_option maxRecDepth 100000
open Go Go.RowKit Rp

/-- An election of one's own. -/
def asks (r : R) : R := { r with h := ⟨r.h.tm + 1, r.id⟩, role := 1, votes := fun v => decide (v = r.id) }
theorem tick_ask {r : R} (h1 : r.role ≠ 2) (h2 : r.h.tm ≠ 1099511627776) : tickR r = (asks r, ⟨true, ⟨r.h.tm + 1, r.id⟩, 0, [], (others r.id).map (ask (asks r))⟩) := by
  unfold tickR
  rw [if_neg h1, if_neg h2]
  rfl
theorem tick_lead {r : R} (h1 : r.role = 2) : tickR r = (r, Out.just (all r)) := by unfold tickR; rw [if_pos h1]
theorem tick_end {r : R} (h1 : r.role ≠ 2) (h2 : r.h.tm = 1099511627776) : tickR r = (r, Out.zero) := by unfold tickR; rw [if_neg h1, if_pos h2]
set_option maxHeartbeats 2000000 in
theorem tick_c {w : World} {b : Nat} {lv : Value} {r : R} (h : RepAt w b lv r) : Calls Try.prog 15 #[.pointer (some ⟨b, 0, none⟩)] w fun e w' => Did6 w w' b lv (tickR r).1 (tickR r).2 e := by
  obtain ⟨W1, hW1⟩ : ∃ W1, W1 = w.alloc (.cells #[.bool false, .int .i64 0, .int .i64 0, .int .i64 0, .slice none 0 0, .slice none 0 0] 35) := ⟨_, rfl⟩
  have hb1 : Below w.heap.size w W1 := by rw [hW1]; exact below_new w _
  have ho1 : W1.heap[w.heap.size]? = some (.cells #[.bool false, .int .i64 0, .int .i64 0, .int .i64 0, .slice none 0 0, .slice none 0 0] 35) := by rw [hW1]; exact box_new w _
  have hr1 := h.on hb1
  have HBL := Lib.hid (show b < w.heap.size ∧ ∀ k, lv.ownBlock = some k → k < w.heap.size from ⟨h.lt, fun k e => h.row.lt e⟩)
  have HS1 := Lib.hid (show w.heap.size + 1 = W1.heap.size by rw [hW1]; simp)
  have HO1 := Lib.hid ho1
  have HB1 := Lib.hid hb1
  have HR1 := Lib.hid hr1
  have HFI := Lib.hid h.fine
  have c4 := hr1.c.c4
  have c1 := hr1.c.c1
  have hmf := makeFunc_run
  by_cases hA : r.role = 2
  · have eA : (r.role == 2) = true := by simp [hA]
    have QO := Lib.hid (others_entries hr1 hA)
    rw [tick_lead hA]
    clear h hb1 ho1 hr1 hA
    go_enter Try.func15, Try.ntmps15
    go_upto_region 1 with fail
    rw [← hW1]
    clear hW1
    go_wp2_with ((with_reducible refine QO.out.mono ?_); rintro e w5 ⟨oa, oc, oL, ops, rfl, hmade⟩; have HOZ := Lib.hid (box_on HO1.out hmade.base); have hoz := ozc HOZ.out; have g0 := hoz.c0; have g1 := hoz.c1; have g2 := hoz.c2; have g3 := hoz.c3; have g4 := hoz.c4; have g5 := hoz.c5; have y0 := hoz.z 0; have y1 := hoz.z 1; have y2 := hoz.z 2; have y3 := hoz.z 3; have y4 := hoz.z 4; have y5 := hoz.z 5; have HMADE := Lib.hid hmade; clear hoz hmade)
    (try simp only [Exit.inBlock, Exit.then])
    refine bodyPost_ret (ret_out rfl _ _ w.heap.size _ _ _ _ _ _ rfl (cells6_set HOZ.out _ _ _ _ _ _)) rfl ?_
    have hs := HS1.out
    exact (did_set6 (HR1.out.on HMADE.out.base) (Or.inl rfl) ((Kept.below (S := fun k => k = b ∨ lv.ownBlock = some k) HB1.out).trans (Kept.below (S := fun _ => False) HMADE.out.base) (fun _ _ e => e.elim)) HBL.out.1 (Nat.le_refl _) (fun e => by have := HBL.out.2 _ e; omega) (HMADE.out.out.mono (fun k hk => ⟨⟨by omega, fun e => by have := HBL.out.2 _ e; omega⟩, by omega⟩)) _ _ _ _ _ _).six
  · have eA : (r.role == 2) = false := by simp [hA]
    by_cases hB : r.h.tm = 1099511627776
    · have eB : (r.h.tm == 1099511627776) = true := by simp [hB]
      rw [tick_end hA hB]
      have g0 : W1.cell? ⟨w.heap.size, 0, none⟩ = some (.bool false) := by rw [Lib.cell_of_heap ho1]; rfl
      have zg0 := Lib.frozen_of_heap ho1 0
      have g1 : W1.cell? ⟨w.heap.size, 1, none⟩ = some (.int .i64 0) := by rw [Lib.cell_of_heap ho1]; rfl
      have zg1 := Lib.frozen_of_heap ho1 1
      have g2 : W1.cell? ⟨w.heap.size, 2, none⟩ = some (.int .i64 0) := by rw [Lib.cell_of_heap ho1]; rfl
      have zg2 := Lib.frozen_of_heap ho1 2
      have g3 : W1.cell? ⟨w.heap.size, 3, none⟩ = some (.int .i64 0) := by rw [Lib.cell_of_heap ho1]; rfl
      have zg3 := Lib.frozen_of_heap ho1 3
      have g4 : W1.cell? ⟨w.heap.size, 4, none⟩ = some (.slice none 0 0) := by rw [Lib.cell_of_heap ho1]; rfl
      have zg4 := Lib.frozen_of_heap ho1 4
      have g5 : W1.cell? ⟨w.heap.size, 5, none⟩ = some (.slice none 0 0) := by rw [Lib.cell_of_heap ho1]; rfl
      have zg5 := Lib.frozen_of_heap ho1 5
      clear h hb1 ho1 hr1 hA hB
      go_enter Try.func15, Try.ntmps15
      go_upto_region 1 with fail
      rw [← hW1]
      clear hW1
      go_wp2_with fail
      (try simp only [Exit.inBlock, Exit.then])
      refine bodyPost_ret (ret_out rfl _ _ w.heap.size _ _ _ _ _ _ rfl (cells6_set HO1.out _ _ _ _ _ _)) rfl ?_
      exact (did_set6 HR1.out (Or.inl rfl) (Kept.below HB1.out) HBL.out.1 (Nat.le_refl _) (fun e => by have := HBL.out.2 _ e; omega) (OutIs.zero _ _) _ _ _ _ _ _).six
    · have eB : (r.h.tm == 1099511627776) = false := by simp [hB]
      have hfa : Fine (asks r) := by have := tick_fine h.fine; rw [tick_ask hA hB] at this; exact this
      have HFA := Lib.hid hfa
      have htm := h.fine.tm
      have htb : 0 ≤ r.h.tm ∧ r.h.tm < 1099511627776 := by omega
      rw [tick_ask hA hB]
      have c0 := hr1.c.c0
      have c2 := hr1.c.c2
      have z1 := hr1.c.z 1
      have z2 := hr1.c.z 2
      clear h hb1 ho1 hr1 hA hB hfa htm
      go_enter Try.func15, Try.ntmps15
      go_upto_region 1 with fail
      rw [← hW1]
      clear hW1
      go_upto_region 5 with fail
      go_cut [33] (fun t33 wx => Hid (wx.heap[b]? = some (.cells #[.int .i64 r.id, .int .i64 (r.h.tm + 1), .int .i64 r.id, lv, .int .i64 r.role, .int .i64 r.cm, .int .i64 (r.nxt 0), .int .i64 (r.nxt 1), .int .i64 (r.nxt 2), .int .i64 (r.mat 0), .int .i64 (r.mat 1), .int .i64 (r.mat 2)] 75 (0, 0)) ∧ Kept (fun k => k = b) W1 wx))
      case first =>
        have q1 : (W1.setCell ⟨b, 1, none⟩ (.int .i64 (r.h.tm + 1))).heap[b]? = some (.cells #[.int .i64 r.id, .int .i64 (r.h.tm + 1), .int .i64 r.h.vt, lv, .int .i64 r.role, .int .i64 r.cm, .int .i64 (r.nxt 0), .int .i64 (r.nxt 1), .int .i64 (r.nxt 2), .int .i64 (r.mat 0), .int .i64 (r.mat 1), .int .i64 (r.mat 2)] 75 (0, 0)) := box_set HR1.out.blk 1 _
        have Q2 := Lib.hid (box_set q1 2 (.int .i64 r.id))
        clear q1
        go_region
        all_goals
          go_wp2_with fail
          go_meet
          exact Lib.hid ⟨Q2.out, ((Kept.set _ _ _ _).trans (Kept.set _ _ _ _) (fun _ _ e => e)).trans (Kept.drew _ _) (fun _ _ e => e)⟩
      case rest =>
        have HB5 := Lib.hid hcut.out.1
        have HK5 := Lib.hid hcut.out.2
        have k4 : wc.cell? ⟨b, 4, none⟩ = some (.int .i64 r.role) := by rw [Lib.cell_of_heap HB5.out]; rfl
        have z4 := Lib.frozen_of_heap HB5.out 4
        obtain ⟨W6, hW6⟩ : ∃ W6, W6 = wc.setCell ⟨b, 4, none⟩ (.int .i64 1) := ⟨_, rfl⟩
        have HK6 := Lib.hid (show Kept (fun k => k = b) W1 W6 by rw [hW6]; exact HK5.out.trans (Kept.set _ _ _ _) (fun _ _ e => e))
        have hr6 : RepAt W6 b lv (asks r) := ⟨by rw [hW6]; exact box_set HB5.out 4 _, HR1.out.row.kept HK6.out (fun k e e' => HR1.out.apart (by rw [e, e'])), HR1.out.apart, HFA.out⟩
        have HR6 := Lib.hid hr6
        have ho6 := HK6.out.heap HO1.out (fun e => by have := HBL.out; omega)
        have HO6 := Lib.hid ho6
        have QO := Lib.hid ((others_request (hr6.on (below_drew (Below.refl _ _)))).mono (R' := fun e w' => ∃ oa oc oL, e = .returned (.slice oa oL oc) ∧ w'.cell? ⟨b, 1, none⟩ = some (.int .i64 (r.h.tm + 1)) ∧ w'.cell? ⟨b, 2, none⟩ = some (.int .i64 r.id) ∧ OZC w' w.heap.size ∧ Hid (∃ ops, Made W6.drew w' oa oc oL ops ((others (asks r).id).map (ask (asks r))))) (fun e w' hh => by
          obtain ⟨oa, oc, oL, ops, q1, q2⟩ := hh
          have q3 := (HR6.out.on (below_drew (Below.refl _ _))).on q2.base
          exact ⟨oa, oc, oL, q1, q3.c.c1, q3.c.c2, ozc (box_on (show W6.drew.heap[w.heap.size]? = _ from HO6.out) q2.base), Lib.hid ⟨ops, q2⟩⟩))
        have c1 : W6.cell? ⟨b, 1, none⟩ = some (.int .i64 (r.h.tm + 1)) := hr6.c.c1
        have c2 : W6.cell? ⟨b, 2, none⟩ = some (.int .i64 r.id) := hr6.c.c2
        clear hr6 ho6 hcut
        go_upto_region 7 with fail
        rw [← hW6]
        clear hW6 k4 z4
        go_region_law (go_simp; go_at_call 41; refine QO.out.mono ?_; rintro e w5 ⟨oa, oc, oL, rfl, n1, n2, hoz, HM⟩; have g0 := hoz.c0; have g1 := hoz.c1; have g2 := hoz.c2; have g3 := hoz.c3; have g4 := hoz.c4; have g5 := hoz.c5; have y0 := hoz.z 0; have y1 := hoz.z 1; have y2 := hoz.z 2; have y3 := hoz.z 3; have y4 := hoz.z 4; have y5 := hoz.z 5; clear hoz)
        all_goals
          go_wp2_with fail
          (try simp only [Exit.inBlock, Exit.then])
          obtain ⟨ops, hmade⟩ := HM.out
          have hoz5 := box_on (show W6.drew.heap[w.heap.size]? = _ from HO6.out) hmade.base
          refine bodyPost_ret (ret_out rfl _ _ w.heap.size _ _ _ _ _ _ rfl (cells6_set hoz5 _ _ _ _ _ _)) rfl ?_
          have hs := HS1.out
          have hs6 := HK6.out.size
          have hs6' : W6.drew.heap.size = W6.heap.size := rfl
          have hou := hmade.out.head true ⟨r.h.tm + 1, r.id⟩
          exact (did_set6 ((HR6.out.on (below_drew (Below.refl _ _))).on hmade.base) (Or.inl rfl) ((((Kept.below (S := fun k => k = b ∨ lv.ownBlock = some k) HB1.out).trans HK6.out (fun _ _ e => Or.inl e)).trans (Kept.drew (fun _ => False) _) (fun _ _ e => e.elim)).trans (Kept.below (S := fun _ => False) hmade.base) (fun _ _ e => e.elim)) HBL.out.1 (Nat.le_refl _) (fun e => by have := HBL.out.2 _ e; omega) (hou.mono (fun k hk => ⟨⟨by omega, fun e => by have := HBL.out.2 _ e; omega⟩, by omega⟩)) _ _ _ _ _ _).six
end Go.Proofs.Ytoghaogcekappaa
