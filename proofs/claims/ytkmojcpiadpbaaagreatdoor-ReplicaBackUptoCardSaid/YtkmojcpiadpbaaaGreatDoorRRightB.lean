/-
  Whether a message is right, some of the ways.
-/
import Derived.Test.YtkmojcpiadpbaaaGreatDoorRRightZ
import Derived.Lib.QuietBelow
namespace Go.Proofs.YtkmojcpiadpbaaaGreatDoor
set_option maxRecDepth 100000
open Go Go.RowKit Go.Sort Rp

set_option maxHeartbeats 8000000 in
theorem right_zt {G : Nat → Prop} {w : World} {b : Nat} {lv : Value} {r : R} (h : RepAt w b lv r) (mk mfr mdst mtm mix mpv mcm : Int) (myes : Bool) (mrs : List Rec) (ma : Option Addr) (mc : Nat) (hp : Src G w ma mc mrs.length (recsV mrs)) (hn : mrs.length ≤ 9223372036854775807) (hd : ∀ x ∈ mrs, x.d.length ≤ 9223372036854775807) (q1 : 0 ≤ mk ∧ mk ≤ 3) (q2 : mdst = r.id) (q3 : 0 ≤ mfr ∧ mfr ≤ 2) (q4 : mfr ≠ r.id) (q5 : 1 ≤ mtm ∧ mtm ≤ 1099511627776) (q6 : 0 ≤ mix ∧ mix ≤ 4000) (q7 : 0 ≤ mpv ∧ mpv ≤ mtm) (q8 : ¬ 0 < mix) (q8z : mpv = 0) (q9 : 0 ≤ mcm ∧ mcm ≤ 4000) (q10 : mrs.length ≤ 8) (q11 : mix + (mrs.length : Int) ≤ 4000) : Calls Tryz.prog 47 #[.pointer (some ⟨b, 0, none⟩), .agg #[.int .i64 mk, .int .i64 mfr, .int .i64 mdst, .int .i64 mtm, .int .i64 mix, .int .i64 mpv, .int .i64 mcm, .bool myes, .slice ma mrs.length mc]] w fun e w' => e = .returned (.bool (right r.id ⟨mk, mfr, mdst, mtm, mix, mpv, mcm, myes, mrs⟩)) ∧ Below w.heap.size w w' := by
  have hF : right r.id ⟨mk, mfr, mdst, mtm, mix, mpv, mcm, myes, mrs⟩ = sound mrs (max 1 mpv) mtm := right_sound ⟨q1.1, q1.2, q2, q4, q3.1, q3.2, q5.1, q5.2, q6.1, q6.2, q7.1, q7.2, q9.1, q9.2, q10, Or.inr q8z, q11⟩
  obtain ⟨W1, hW1⟩ : ∃ W1, W1 = w.alloc (.cells #[.int .i64 mk, .int .i64 mfr, .int .i64 mdst, .int .i64 mtm, .int .i64 mix, .int .i64 mpv, .int .i64 mcm, .bool myes, .slice ma mrs.length mc] 24) := ⟨_, rfl⟩
  have hb1 : Below w.heap.size w W1 := by rw [hW1]; exact below_new w _
  have hx1 : PM.at ⟨⟨mk, mfr, mdst, mtm, mix, mpv, mcm, myes, mrs⟩, ma, mc⟩ W1 w.heap.size := by rw [hW1]; exact box_new w _
  have QR := fun d os => Calls.regrown_of (w := W1) (d := d) (os := os) (rightRecs_c ((hp.on hb1).on (below_regrown W1 d os)) hn hd (max 1 mpv) mtm)
  have c0 := cell_regrown (h.on hb1).c.c0
  have hm := hx1.c
  have f0 := cell_regrown hm.c0
  have f1 := cell_regrown hm.c1
  have f2 := cell_regrown hm.c2
  have f3 := cell_regrown hm.c3
  have f4 := cell_regrown hm.c4
  have f5 := cell_regrown hm.c5
  have f6 := cell_regrown hm.c6
  have f7 := cell_regrown hm.c7
  have f8' := cell_regrown hm.c8
  obtain ⟨L, hL⟩ : ∃ L : Nat, mrs.length = L := ⟨_, rfl⟩
  have HL := Lib.hid hL
  have hn' : (L : Int) ≤ 9223372036854775807 := by omega
  have f8 : ∀ d os, (grow (redrawn W1 d) os).cell? ⟨w.heap.size, 8, none⟩ = some (.slice ma L mc) := by rw [← hL]; exact f8'
  have HB1 := Lib.hid hb1
  have Q1 := Lib.hid (fun d os => Calls.regrown_of (w := W1) (d := d) (os := os) (within_q mk 0 3 true (two_true q1) _))
  clear q1
  have e2 : (mdst == r.id) = true := by simp [q2]
  clear q2
  have Q3 := Lib.hid (fun d os => Calls.regrown_of (w := W1) (d := d) (os := os) (isReplica_q mfr true (two_true q3) _))
  clear q3
  have e4 : (mfr != r.id) = true := by simp [q4]
  clear q4
  have Q5 := Lib.hid (fun d os => Calls.regrown_of (w := W1) (d := d) (os := os) (within_q mtm 1 1099511627776 true (two_true q5) _))
  clear q5
  have Q6 := Lib.hid (fun d os => Calls.regrown_of (w := W1) (d := d) (os := os) (within_q mix 0 4000 true (two_true q6) _))
  obtain ⟨q6a, q6b⟩ := q6
  have Q7 := Lib.hid (fun d os => Calls.regrown_of (w := W1) (d := d) (os := os) (within_q mpv 0 mtm true (two_true q7) _))
  clear q7
  have d8 : decide (0 < mix) = false := by simp only [decide_eq_false_iff_not]; exact q8
  have e8 : (mpv == 0) = true := by simp [q8z]
  clear q8z
  have Q9 := Lib.hid (fun d os => Calls.regrown_of (w := W1) (d := d) (os := os) (within_q mcm 0 4000 true (two_true q9) _))
  clear q9
  have q10' : (L : Int) ≤ 8 := by omega
  clear q10
  have q11' : mix + (L : Int) ≤ 4000 := by omega
  clear q11
  obtain ⟨M, hM⟩ : ∃ M : Msg, M = ⟨mk, mfr, mdst, mtm, mix, mpv, mcm, myes, mrs⟩ := ⟨_, rfl⟩
  rw [← hM] at hF ⊢
  rw [hL] at QR hW1 ⊢
  have QR := Lib.hid QR
  clear h hp hd hn f8' hm hx1 hL hb1 hM
  have HF := Lib.hid hF
  clear hF
  go_enter Tryz.func47, Tryz.ntmps47
  go_upto_region 1 with fail
  rw [← hW1]
  clear hW1
  simp only [List.append_eq, List.cons_append, List.nil_append]
  refine wp_region_quiet_below (by kernel_rfl) (by kernel_rfl) ?_
  repeat (go_big_quiet_step (first | (with_reducible exact Q1.out _ _) | (with_reducible exact Q3.out _ _) | (with_reducible exact Q5.out _ _) | (with_reducible exact Q6.out _ _) | (with_reducible exact Q7.out _ _) | (with_reducible exact Q9.out _ _) | (with_reducible exact QR.out _ _)))
  refine wpQuiet_nil ?_
  intro _ hw
  obtain ⟨⟨dq, osq⟩, hw⟩ := hw
  subst hw
  go_wp2_with fail
  go_ret
  exact ⟨by rw [HF.out]; rfl, HB1.out.trans ((below_regrown W1 dq osq).mono HB1.out.size)⟩
set_option maxHeartbeats 8000000 in
theorem right_z9 {G : Nat → Prop} {w : World} {b : Nat} {lv : Value} {r : R} (h : RepAt w b lv r) (mk mfr mdst mtm mix mpv mcm : Int) (myes : Bool) (mrs : List Rec) (ma : Option Addr) (mc : Nat) (hp : Src G w ma mc mrs.length (recsV mrs)) (hn : mrs.length ≤ 9223372036854775807) (hd : ∀ x ∈ mrs, x.d.length ≤ 9223372036854775807) (q1 : 0 ≤ mk ∧ mk ≤ 3) (q2 : mdst = r.id) (q3 : 0 ≤ mfr ∧ mfr ≤ 2) (q4 : mfr ≠ r.id) (q5 : 1 ≤ mtm ∧ mtm ≤ 1099511627776) (q6 : 0 ≤ mix ∧ mix ≤ 4000) (q7 : 0 ≤ mpv ∧ mpv ≤ mtm) (q8 : ¬ 0 < mix) (q8z : mpv = 0) (q9 : ¬ (0 ≤ mcm ∧ mcm ≤ 4000)) : Calls Tryz.prog 47 #[.pointer (some ⟨b, 0, none⟩), .agg #[.int .i64 mk, .int .i64 mfr, .int .i64 mdst, .int .i64 mtm, .int .i64 mix, .int .i64 mpv, .int .i64 mcm, .bool myes, .slice ma mrs.length mc]] w fun e w' => e = .returned (.bool (right r.id ⟨mk, mfr, mdst, mtm, mix, mpv, mcm, myes, mrs⟩)) ∧ Below w.heap.size w w' := by
  have hF : right r.id ⟨mk, mfr, mdst, mtm, mix, mpv, mcm, myes, mrs⟩ = false := right_false (fun hr => q9 hr.cm)
  obtain ⟨W1, hW1⟩ : ∃ W1, W1 = w.alloc (.cells #[.int .i64 mk, .int .i64 mfr, .int .i64 mdst, .int .i64 mtm, .int .i64 mix, .int .i64 mpv, .int .i64 mcm, .bool myes, .slice ma mrs.length mc] 24) := ⟨_, rfl⟩
  have hb1 : Below w.heap.size w W1 := by rw [hW1]; exact below_new w _
  have hx1 : PM.at ⟨⟨mk, mfr, mdst, mtm, mix, mpv, mcm, myes, mrs⟩, ma, mc⟩ W1 w.heap.size := by rw [hW1]; exact box_new w _
  have QR := fun d os => Calls.regrown_of (w := W1) (d := d) (os := os) (rightRecs_c ((hp.on hb1).on (below_regrown W1 d os)) hn hd (max 1 mpv) mtm)
  have c0 := cell_regrown (h.on hb1).c.c0
  have hm := hx1.c
  have f0 := cell_regrown hm.c0
  have f1 := cell_regrown hm.c1
  have f2 := cell_regrown hm.c2
  have f3 := cell_regrown hm.c3
  have f4 := cell_regrown hm.c4
  have f5 := cell_regrown hm.c5
  have f6 := cell_regrown hm.c6
  have f7 := cell_regrown hm.c7
  have f8' := cell_regrown hm.c8
  obtain ⟨L, hL⟩ : ∃ L : Nat, mrs.length = L := ⟨_, rfl⟩
  have HL := Lib.hid hL
  have hn' : (L : Int) ≤ 9223372036854775807 := by omega
  have f8 : ∀ d os, (grow (redrawn W1 d) os).cell? ⟨w.heap.size, 8, none⟩ = some (.slice ma L mc) := by rw [← hL]; exact f8'
  have HB1 := Lib.hid hb1
  have Q1 := Lib.hid (fun d os => Calls.regrown_of (w := W1) (d := d) (os := os) (within_q mk 0 3 true (two_true q1) _))
  clear q1
  have e2 : (mdst == r.id) = true := by simp [q2]
  clear q2
  have Q3 := Lib.hid (fun d os => Calls.regrown_of (w := W1) (d := d) (os := os) (isReplica_q mfr true (two_true q3) _))
  clear q3
  have e4 : (mfr != r.id) = true := by simp [q4]
  clear q4
  have Q5 := Lib.hid (fun d os => Calls.regrown_of (w := W1) (d := d) (os := os) (within_q mtm 1 1099511627776 true (two_true q5) _))
  clear q5
  have Q6 := Lib.hid (fun d os => Calls.regrown_of (w := W1) (d := d) (os := os) (within_q mix 0 4000 true (two_true q6) _))
  obtain ⟨q6a, q6b⟩ := q6
  have Q7 := Lib.hid (fun d os => Calls.regrown_of (w := W1) (d := d) (os := os) (within_q mpv 0 mtm true (two_true q7) _))
  clear q7
  have d8 : decide (0 < mix) = false := by simp only [decide_eq_false_iff_not]; exact q8
  have e8 : (mpv == 0) = true := by simp [q8z]
  clear q8z
  have Q9 := Lib.hid (fun d os => Calls.regrown_of (w := W1) (d := d) (os := os) (within_q mcm 0 4000 false (two_dec q9) _))
  clear q9
  obtain ⟨M, hM⟩ : ∃ M : Msg, M = ⟨mk, mfr, mdst, mtm, mix, mpv, mcm, myes, mrs⟩ := ⟨_, rfl⟩
  rw [← hM] at hF ⊢
  rw [hL] at QR hW1 ⊢
  have QR := Lib.hid QR
  clear h hp hd hn f8' hm hx1 hL hb1 hM
  have HF := Lib.hid hF
  clear hF
  go_enter Tryz.func47, Tryz.ntmps47
  go_upto_region 1 with fail
  rw [← hW1]
  clear hW1
  simp only [List.append_eq, List.cons_append, List.nil_append]
  refine wp_region_quiet_below (by kernel_rfl) (by kernel_rfl) ?_
  repeat (go_big_quiet_step (first | (with_reducible exact Q1.out _ _) | (with_reducible exact Q3.out _ _) | (with_reducible exact Q5.out _ _) | (with_reducible exact Q6.out _ _) | (with_reducible exact Q7.out _ _) | (with_reducible exact Q9.out _ _) | (with_reducible exact QR.out _ _)))
  refine wpQuiet_nil ?_
  intro _ hw
  obtain ⟨⟨dq, osq⟩, hw⟩ := hw
  subst hw
  go_wp2_with fail
  go_ret
  exact ⟨by rw [HF.out]; rfl, HB1.out.trans ((below_regrown W1 dq osq).mono HB1.out.size)⟩
set_option maxHeartbeats 8000000 in
theorem right_4 {G : Nat → Prop} {w : World} {b : Nat} {lv : Value} {r : R} (h : RepAt w b lv r) (mk mfr mdst mtm mix mpv mcm : Int) (myes : Bool) (mrs : List Rec) (ma : Option Addr) (mc : Nat) (hp : Src G w ma mc mrs.length (recsV mrs)) (hn : mrs.length ≤ 9223372036854775807) (hd : ∀ x ∈ mrs, x.d.length ≤ 9223372036854775807) (q1 : 0 ≤ mk ∧ mk ≤ 3) (q2 : mdst = r.id) (q3 : 0 ≤ mfr ∧ mfr ≤ 2) (q4 : ¬ (mfr ≠ r.id)) : Calls Tryz.prog 47 #[.pointer (some ⟨b, 0, none⟩), .agg #[.int .i64 mk, .int .i64 mfr, .int .i64 mdst, .int .i64 mtm, .int .i64 mix, .int .i64 mpv, .int .i64 mcm, .bool myes, .slice ma mrs.length mc]] w fun e w' => e = .returned (.bool (right r.id ⟨mk, mfr, mdst, mtm, mix, mpv, mcm, myes, mrs⟩)) ∧ Below w.heap.size w w' := by
  have hF : right r.id ⟨mk, mfr, mdst, mtm, mix, mpv, mcm, myes, mrs⟩ = false := right_false (fun hr => q4 hr.ne)
  obtain ⟨W1, hW1⟩ : ∃ W1, W1 = w.alloc (.cells #[.int .i64 mk, .int .i64 mfr, .int .i64 mdst, .int .i64 mtm, .int .i64 mix, .int .i64 mpv, .int .i64 mcm, .bool myes, .slice ma mrs.length mc] 24) := ⟨_, rfl⟩
  have hb1 : Below w.heap.size w W1 := by rw [hW1]; exact below_new w _
  have hx1 : PM.at ⟨⟨mk, mfr, mdst, mtm, mix, mpv, mcm, myes, mrs⟩, ma, mc⟩ W1 w.heap.size := by rw [hW1]; exact box_new w _
  have QR := fun d os => Calls.regrown_of (w := W1) (d := d) (os := os) (rightRecs_c ((hp.on hb1).on (below_regrown W1 d os)) hn hd (max 1 mpv) mtm)
  have c0 := cell_regrown (h.on hb1).c.c0
  have hm := hx1.c
  have f0 := cell_regrown hm.c0
  have f1 := cell_regrown hm.c1
  have f2 := cell_regrown hm.c2
  have f3 := cell_regrown hm.c3
  have f4 := cell_regrown hm.c4
  have f5 := cell_regrown hm.c5
  have f6 := cell_regrown hm.c6
  have f7 := cell_regrown hm.c7
  have f8' := cell_regrown hm.c8
  obtain ⟨L, hL⟩ : ∃ L : Nat, mrs.length = L := ⟨_, rfl⟩
  have HL := Lib.hid hL
  have hn' : (L : Int) ≤ 9223372036854775807 := by omega
  have f8 : ∀ d os, (grow (redrawn W1 d) os).cell? ⟨w.heap.size, 8, none⟩ = some (.slice ma L mc) := by rw [← hL]; exact f8'
  have HB1 := Lib.hid hb1
  have Q1 := Lib.hid (fun d os => Calls.regrown_of (w := W1) (d := d) (os := os) (within_q mk 0 3 true (two_true q1) _))
  clear q1
  have e2 : (mdst == r.id) = true := by simp [q2]
  clear q2
  have Q3 := Lib.hid (fun d os => Calls.regrown_of (w := W1) (d := d) (os := os) (isReplica_q mfr true (two_true q3) _))
  clear q3
  have e4 : (mfr != r.id) = false := by simp [Classical.not_not.1 q4]
  clear q4
  obtain ⟨M, hM⟩ : ∃ M : Msg, M = ⟨mk, mfr, mdst, mtm, mix, mpv, mcm, myes, mrs⟩ := ⟨_, rfl⟩
  rw [← hM] at hF ⊢
  rw [hL] at QR hW1 ⊢
  have QR := Lib.hid QR
  clear h hp hd hn f8' hm hx1 hL hb1 hM
  have HF := Lib.hid hF
  clear hF
  go_enter Tryz.func47, Tryz.ntmps47
  go_upto_region 1 with fail
  rw [← hW1]
  clear hW1
  simp only [List.append_eq, List.cons_append, List.nil_append]
  refine wp_region_quiet_below (by kernel_rfl) (by kernel_rfl) ?_
  repeat (go_big_quiet_step (first | (with_reducible exact Q1.out _ _) | (with_reducible exact Q3.out _ _) | (with_reducible exact QR.out _ _)))
  refine wpQuiet_nil ?_
  intro _ hw
  obtain ⟨⟨dq, osq⟩, hw⟩ := hw
  subst hw
  go_wp2_with fail
  go_ret
  exact ⟨by rw [HF.out]; rfl, HB1.out.trans ((below_regrown W1 dq osq).mono HB1.out.size)⟩
set_option maxHeartbeats 8000000 in
theorem right_5 {G : Nat → Prop} {w : World} {b : Nat} {lv : Value} {r : R} (h : RepAt w b lv r) (mk mfr mdst mtm mix mpv mcm : Int) (myes : Bool) (mrs : List Rec) (ma : Option Addr) (mc : Nat) (hp : Src G w ma mc mrs.length (recsV mrs)) (hn : mrs.length ≤ 9223372036854775807) (hd : ∀ x ∈ mrs, x.d.length ≤ 9223372036854775807) (q1 : 0 ≤ mk ∧ mk ≤ 3) (q2 : mdst = r.id) (q3 : 0 ≤ mfr ∧ mfr ≤ 2) (q4 : mfr ≠ r.id) (q5 : ¬ (1 ≤ mtm ∧ mtm ≤ 1099511627776)) : Calls Tryz.prog 47 #[.pointer (some ⟨b, 0, none⟩), .agg #[.int .i64 mk, .int .i64 mfr, .int .i64 mdst, .int .i64 mtm, .int .i64 mix, .int .i64 mpv, .int .i64 mcm, .bool myes, .slice ma mrs.length mc]] w fun e w' => e = .returned (.bool (right r.id ⟨mk, mfr, mdst, mtm, mix, mpv, mcm, myes, mrs⟩)) ∧ Below w.heap.size w w' := by
  have hF : right r.id ⟨mk, mfr, mdst, mtm, mix, mpv, mcm, myes, mrs⟩ = false := right_false (fun hr => q5 hr.tm)
  obtain ⟨W1, hW1⟩ : ∃ W1, W1 = w.alloc (.cells #[.int .i64 mk, .int .i64 mfr, .int .i64 mdst, .int .i64 mtm, .int .i64 mix, .int .i64 mpv, .int .i64 mcm, .bool myes, .slice ma mrs.length mc] 24) := ⟨_, rfl⟩
  have hb1 : Below w.heap.size w W1 := by rw [hW1]; exact below_new w _
  have hx1 : PM.at ⟨⟨mk, mfr, mdst, mtm, mix, mpv, mcm, myes, mrs⟩, ma, mc⟩ W1 w.heap.size := by rw [hW1]; exact box_new w _
  have QR := fun d os => Calls.regrown_of (w := W1) (d := d) (os := os) (rightRecs_c ((hp.on hb1).on (below_regrown W1 d os)) hn hd (max 1 mpv) mtm)
  have c0 := cell_regrown (h.on hb1).c.c0
  have hm := hx1.c
  have f0 := cell_regrown hm.c0
  have f1 := cell_regrown hm.c1
  have f2 := cell_regrown hm.c2
  have f3 := cell_regrown hm.c3
  have f4 := cell_regrown hm.c4
  have f5 := cell_regrown hm.c5
  have f6 := cell_regrown hm.c6
  have f7 := cell_regrown hm.c7
  have f8' := cell_regrown hm.c8
  obtain ⟨L, hL⟩ : ∃ L : Nat, mrs.length = L := ⟨_, rfl⟩
  have HL := Lib.hid hL
  have hn' : (L : Int) ≤ 9223372036854775807 := by omega
  have f8 : ∀ d os, (grow (redrawn W1 d) os).cell? ⟨w.heap.size, 8, none⟩ = some (.slice ma L mc) := by rw [← hL]; exact f8'
  have HB1 := Lib.hid hb1
  have Q1 := Lib.hid (fun d os => Calls.regrown_of (w := W1) (d := d) (os := os) (within_q mk 0 3 true (two_true q1) _))
  clear q1
  have e2 : (mdst == r.id) = true := by simp [q2]
  clear q2
  have Q3 := Lib.hid (fun d os => Calls.regrown_of (w := W1) (d := d) (os := os) (isReplica_q mfr true (two_true q3) _))
  clear q3
  have e4 : (mfr != r.id) = true := by simp [q4]
  clear q4
  have Q5 := Lib.hid (fun d os => Calls.regrown_of (w := W1) (d := d) (os := os) (within_q mtm 1 1099511627776 false (two_dec q5) _))
  clear q5
  obtain ⟨M, hM⟩ : ∃ M : Msg, M = ⟨mk, mfr, mdst, mtm, mix, mpv, mcm, myes, mrs⟩ := ⟨_, rfl⟩
  rw [← hM] at hF ⊢
  rw [hL] at QR hW1 ⊢
  have QR := Lib.hid QR
  clear h hp hd hn f8' hm hx1 hL hb1 hM
  have HF := Lib.hid hF
  clear hF
  go_enter Tryz.func47, Tryz.ntmps47
  go_upto_region 1 with fail
  rw [← hW1]
  clear hW1
  simp only [List.append_eq, List.cons_append, List.nil_append]
  refine wp_region_quiet_below (by kernel_rfl) (by kernel_rfl) ?_
  repeat (go_big_quiet_step (first | (with_reducible exact Q1.out _ _) | (with_reducible exact Q3.out _ _) | (with_reducible exact Q5.out _ _) | (with_reducible exact QR.out _ _)))
  refine wpQuiet_nil ?_
  intro _ hw
  obtain ⟨⟨dq, osq⟩, hw⟩ := hw
  subst hw
  go_wp2_with fail
  go_ret
  exact ⟨by rw [HF.out]; rfl, HB1.out.trans ((below_regrown W1 dq osq).mono HB1.out.size)⟩
end Go.Proofs.YtkmojcpiadpbaaaGreatDoor
