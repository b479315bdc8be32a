/-
  ValueMakes: it returns true for all ints, strings and rows, and of what was there nothing has turned.
-/
import Derived.Test.YtefaigbbleienaaDoorVArg
import Derived.Deep.DeepCutAuto
namespace Go.Proofs.YtefaigbbleienaaDoor
open Go Go.RowKit Go.Sort Wire Txt Vl

theorem cmp_ints (a b : Int) : cmpV ⟨0, a, []⟩ ⟨0, b, []⟩ < 0 ↔ a < b := by
  unfold cmpV
  simp only
  rw [if_neg (by simp [Lib.compareInt])]
  unfold Lib.compareInt
  split
  · simp; omega
  · split
    · simp; omega
    · simp [Lib.compareBytes]; omega
theorem good_next {l : List V} {k : Nat} {u : V} (h : true = (decide (l.length ≤ 12) && (l.take k).all rightV)) (hu : l[k]? = some u) : rightV ⟨u.k, u.n, u.s⟩ = (decide (l.length ≤ 12) && (l.take (k + 1)).all rightV) := by
  have h2 := h.symm
  rw [Bool.and_eq_true] at h2
  rw [List.take_add_one, List.all_append, hu, h2.1, h2.2]
  simp
theorem good_stay {l : List V} {k : Nat} (h : false = (decide (l.length ≤ 12) && (l.take k).all rightV)) : false = (decide (l.length ≤ 12) && (l.take (k + 1)).all rightV) := by
  rw [List.take_add_one, List.all_append, ← Bool.and_assoc, ← h]
  rfl
theorem right_len {l : List V} (h : rightR l = true) (hf : ∀ v ∈ l, Fits v) (hl : l.length ≤ 15) : (rbytes l).length ≤ 4000 := by
  unfold rightR at h
  simp only [Bool.and_eq_true, decide_eq_true_eq, List.all_eq_true] at h
  have := rbytes_len l 200 (by unfold InR; omega) (fun v hv => ⟨hf v hv, by
    rcases (rightV_iff v).1 (h.2 v hv) with ⟨_, g⟩ | ⟨_, _, g⟩ | ⟨_, g, _⟩
    · rw [g]; simp
    · exact g
    · rw [g]; simp⟩)
  omega
set_option maxHeartbeats 2000000 in
set_option maxRecDepth 100000 in
theorem makes_c (a b : Int) (s t : List UInt8) (l : List V) (x : Value)  (hs : s.length ≤ 300) (ht : t.length ≤ 300) (hsh : shortR l 15 = true) (hfit : ∀ v ∈ l, Fits v) (w : World) (hg : Good w) (hx : RowV w x l) :
    Calls Tryd.prog 5 #[.int .i64 a, .int .i64 b, .string ⟨s.toArray⟩, .string ⟨t.toArray⟩, x] w fun e w' => e = .returned (.bool true) ∧ Below w.heap.size w w' := by
  obtain ⟨hl15, hl300⟩ := short_parts' hsh
  obtain ⟨c1, hc1, H1⟩ : ∃ c1, cmpV ⟨0, a, []⟩ ⟨0, b, []⟩ = c1 ∧ decide (c1 < 0) = decide (a < b) := ⟨_, rfl, decide_eq_decide.2 (cmp_ints a b)⟩
  obtain ⟨c2, hc2, H2⟩ : ∃ c2, cmpV ⟨1, 0, s⟩ ⟨1, 0, t⟩ = c2 ∧ decide (c2 < 0) = Op.bytesLess s t := ⟨_, rfl, by rw [cmpV_s (a := ⟨1, 0, s⟩) (b := ⟨1, 0, t⟩) rfl rfl, bytes_less]⟩
  obtain ⟨c4, hc4, H4⟩ : ∃ c4, cmpV ⟨1, 0, []⟩ ⟨1, 0, s⟩ = c4 ∧ ¬ 0 < c4 := ⟨_, rfl, by rw [cmpV_s (a := ⟨1, 0, []⟩) (b := ⟨1, 0, s⟩) rfl rfl]; cases s <;> simp [Lib.compareBytes]⟩
  have hc3 : cmpV ⟨2, 0, []⟩ ⟨2, 1, []⟩ = -1 := by decide
  have HC1 := Lib.hid hc1
  have HC2 := Lib.hid hc2
  have HC4 := Lib.hid hc4
  have HSH := Lib.hid hsh
  have HF := Lib.hid hfit
  have HL := Lib.hid hl300
  have r1 : rightV ⟨0, a, []⟩ = true := by simp [rightV]
  have r2 : rightV ⟨1, 0, s⟩ = decide (s.length ≤ 200) := by simp [rightV]
  obtain ⟨n1, hn1, hn2, r3⟩ : ∃ n1 : Int, (if decide (b < a) = true then (1 : Int) else 0) = n1 ∧ (n1 == 1) = decide (b < a) ∧ rightV ⟨2, n1, []⟩ = true := ⟨_, rfl, by by_cases h : b < a <;> simp [h], by by_cases h : b < a <;> simp [h, rightV]⟩
  have HN1 := Lib.hid hn1
  clear hn1
  clear hc1 hc2 hc4 hsh hfit hl300
  have hx0 := hx
  obtain ⟨la, ax, ca, rfl, _⟩ := hx
  go_enter Tryd.func5, Tryd.ntmps5
  go_wp2_with fail
  refine (vsmall_c _ hg).mono ?_
  rintro e w1 ⟨rfl, hb1⟩
  have hr1 := hx0.on hb1 (Nat.le_refl _)
  have hg1 := hg.on hb1
  clear hx0
  go_wp2_with fail
  refine (short_c l _ 15 _ (fun v hv => by have := HL.out v hv; omega) hr1).mono ?_
  rw [HSH.out]
  rintro e w2 ⟨rfl, hb2⟩
  have hr2 := hr1.on hb2 (Nat.le_refl _)
  have hg2 := hg1.on hb2
  have hbb2 := chain hb1 hb2
  clear hr1 hg1 hb1 hb2
  go_wp2_with fail
  refine (vInt_c a _).mono ?_
  rintro e w3 ⟨rfl, hb3⟩
  go_wp2_with fail
  obtain ⟨w4, e4, bx4, hb4⟩ := box_new w3 ⟨0, a, []⟩
  simp only at e4
  rw [e4]
  clear e4
  have hr4 := (hr2.on hb3 (Nat.le_refl _)).on hb4 (Nat.le_refl _)
  have hg4 := (hg2.on hb3).on hb4
  have hbb4 := chain hbb2 (chain hb3 hb4)
  clear hr2 hg2 hbb2 hb3 hb4
  refine (vText_c s _).mono ?_
  rintro e w5 ⟨rfl, hb5⟩
  go_wp2_with fail
  obtain ⟨w6, e6, by6, hb6⟩ := box_new w5 ⟨1, 0, s⟩
  simp only at e6
  rw [e6]
  clear e6
  have bx6 := (bx4.on hb5).on hb6
  have hr6 := (hr4.on hb5 (Nat.le_refl _)).on hb6 (Nat.le_refl _)
  have hg6 := (hg4.on hb5).on hb6
  have hbb6 := chain hbb4 (chain hb5 hb6)
  clear bx4 hr4 hg4 hbb4 hb5 hb6
  refine (vBool_c (decide (b < a)) _).mono ?_
  rw [HN1.out]
  rintro e w7 ⟨rfl, hb7⟩
  go_upto_region 7 with (fail)
  obtain ⟨w8, e8, bz8, hb8⟩ := box_new w7 ⟨2, n1, []⟩
  simp only at e8
  rw [e8]
  clear e8
  have bx8 := (bx6.on hb7).on hb8
  have by8 := (by6.on hb7).on hb8
  have hr8 := (hr6.on hb7 (Nat.le_refl _)).on hb8 (Nat.le_refl _)
  have hg8 := (hg6.on hb7).on hb8
  have hbb8 := chain hbb6 (chain hb7 hb8)
  clear bx6 by6 hr6 hg6 hbb6 hb7 hb8
  go_cut [91] (fun t91 wx => t91 = .bool false ∧ Below w8.heap.size w8 wx)
  case first =>
    have x0 := bx8.c0
    have x1 := bx8.c1
    have x2 := bx8.c2
    go_wp2_with fail
    refine (right_c 0 a [] _).mono ?_
    rw [r1]
    rintro e w9 ⟨rfl, hb9⟩
    have y0 := (by8.on hb9).c0
    have y1 := (by8.on hb9).c1
    have y2 := (by8.on hb9).c2
    have ys : (s == s) = true := by simp
    go_wp2_with fail
    refine (right_c 1 0 s _).mono ?_
    rw [r2]
    rintro e wa ⟨rfl, hba⟩
    have z0 := ((bz8.on hb9).on hba).c0
    have z1 := ((bz8.on hb9).on hba).c1
    have z2 := ((bz8.on hb9).on hba).c2
    have hlen : (decide (s.length ≤ 200) != decide ((s.length : Int) ≤ 200)) = false := by
      have : decide (s.length ≤ 200) = decide ((s.length : Int) ≤ 200) := by congr 1; apply propext; omega
      rw [this]; simp
    go_wp2_with fail
    refine (right_c 2 n1 [] _).mono ?_
    rw [r3]
    rintro e wb ⟨rfl, hbb⟩
    go_wp2_with fail
    go_meet
    exact ⟨rfl, chain hb9 (chain hba hbb)⟩
  obtain ⟨rfl, hcut⟩ := hcut
  have bxb := bx8.on hcut
  have byb := by8.on hcut
  have hrb := hr8.on hcut (Nat.le_refl _)
  have hgb := hg8.on hcut
  have hbbb := chain hbb8 hcut
  generalize wc = wb at hcut bxb byb hrb hgb hbbb ⊢
  clear bx8 by8 bz8 hr8 hg8 hbb8 hcut
  go_upto_region 9 with (fail)
  go_cut [117] (fun t117 wx => t117 = .bool false ∧ Below wb.heap.size wb wx)
  case first =>
    have k0 := cell_regrown bxb.c0
    have k1 := cell_regrown bxb.c1
    have k2 := cell_regrown bxb.c2
    have k3 := cell_regrown byb.c0
    have k4 := cell_regrown byb.c1
    have k5 := cell_regrown byb.c2
    have q1 : ∀ d os, Calls Tryd.prog 18 #[.int .i64 b] (grow (redrawn wb d) os) fun e w'' => e = .returned (.agg #[.int .i64 0, .int .i64 b, .string ⟨#[]⟩]) ∧ ∃ p : Regrown, w'' = grow (redrawn wb p.d) p.os := fun d os => Calls.regrown_of (vInt_c b _)
    have Q1 := Lib.hid q1
    clear q1
    have q2 : ∀ d os, Calls Tryd.prog 11 #[.agg #[.int .i64 0, .int .i64 a, .string ⟨#[]⟩], .agg #[.int .i64 0, .int .i64 b, .string ⟨#[]⟩]] (grow (redrawn wb d) os) fun e w'' => e = .returned (.int .i64 c1) ∧ ∃ p : Regrown, w'' = grow (redrawn wb p.d) p.os := fun d os => Calls.regrown_of (by rw [← HC1.out]; exact compare_c ⟨0, a, []⟩ ⟨0, b, []⟩ _)
    have Q2 := Lib.hid q2
    clear q2
    have q3 : ∀ d os, Calls Tryd.prog 19 #[.string ⟨t.toArray⟩] (grow (redrawn wb d) os) fun e w'' => e = .returned (.agg #[.int .i64 1, .int .i64 0, .string ⟨t.toArray⟩]) ∧ ∃ p : Regrown, w'' = grow (redrawn wb p.d) p.os := fun d os => Calls.regrown_of (vText_c t _)
    have Q3 := Lib.hid q3
    clear q3
    have q4 : ∀ d os, Calls Tryd.prog 11 #[.agg #[.int .i64 1, .int .i64 0, .string ⟨s.toArray⟩], .agg #[.int .i64 1, .int .i64 0, .string ⟨t.toArray⟩]] (grow (redrawn wb d) os) fun e w'' => e = .returned (.int .i64 c2) ∧ ∃ p : Regrown, w'' = grow (redrawn wb p.d) p.os := fun d os => Calls.regrown_of (by rw [← HC2.out]; exact compare_c ⟨1, 0, s⟩ ⟨1, 0, t⟩ _)
    have Q4 := Lib.hid q4
    clear q4
    have q5 : ∀ d os, Calls Tryd.prog 20 #[.bool false] (grow (redrawn wb d) os) fun e w'' => e = .returned (.agg #[.int .i64 2, .int .i64 0, .string ⟨#[]⟩]) ∧ ∃ p : Regrown, w'' = grow (redrawn wb p.d) p.os := fun d os => Calls.regrown_of (vBool_c false _)
    have Q5 := Lib.hid q5
    clear q5
    have q6 : ∀ d os, Calls Tryd.prog 20 #[.bool true] (grow (redrawn wb d) os) fun e w'' => e = .returned (.agg #[.int .i64 2, .int .i64 1, .string ⟨#[]⟩]) ∧ ∃ p : Regrown, w'' = grow (redrawn wb p.d) p.os := fun d os => Calls.regrown_of (vBool_c true _)
    have Q6 := Lib.hid q6
    clear q6
    have q7 : ∀ d os, Calls Tryd.prog 11 #[.agg #[.int .i64 2, .int .i64 0, .string ⟨#[]⟩], .agg #[.int .i64 2, .int .i64 1, .string ⟨#[]⟩]] (grow (redrawn wb d) os) fun e w'' => e = .returned (.int .i64 (-1)) ∧ ∃ p : Regrown, w'' = grow (redrawn wb p.d) p.os := fun d os => Calls.regrown_of (by rw [← hc3]; exact compare_c ⟨2, 0, []⟩ ⟨2, 1, []⟩ _)
    have Q7 := Lib.hid q7
    clear q7
    refine wp_region_quiet_below (by kernel_rfl) (by kernel_rfl) ?_
    repeat (quiet_step (first | (with_reducible exact Q1.out _ _) | (with_reducible exact Q2.out _ _) | (with_reducible exact Q3.out _ _) | (with_reducible exact Q4.out _ _) | (with_reducible exact Q5.out _ _) | (with_reducible exact Q6.out _ _) | (with_reducible exact Q7.out _ _)))
    refine wpQuiet_nil ?_
    intro _ hw'
    obtain ⟨⟨dq, osq⟩, hw''⟩ := hw'
    subst hw''
    go_wp2_with fail
    go_meet
    exact ⟨rfl, below_regrown wb dq osq⟩
  obtain ⟨rfl, hcut⟩ := hcut
  generalize wc = w9 at hcut ⊢
  have byc := byb.on hcut
  have hrc := hrb.on hcut (Nat.le_refl _)
  have hgc := hgb.on hcut
  have hbbc := chain hbbb hcut
  clear bxb byb hrb hgb hbbb hcut
  go_upto_region 11 with (fail)
  go_cut [136] (fun t136 wx => t136 = .bool false ∧ Below w9.heap.size w9 wx)
  case first =>
    have k3 := cell_regrown byc.c0
    have k4 := cell_regrown byc.c1
    have k5 := cell_regrown byc.c2
    have q1 : ∀ d os, Calls Tryd.prog 21 #[.int .i64 1] (grow (redrawn w9 d) os) fun e w'' => e = .returned (.agg #[.int .i64 1, .int .i64 0, .string ⟨#[]⟩]) ∧ ∃ p : Regrown, w'' = grow (redrawn w9 p.d) p.os := fun d os => Calls.regrown_of (vZero_c 1 _)
    have Q1 := Lib.hid q1
    clear q1
    have q2 : ∀ d os, Calls Tryd.prog 19 #[.string ⟨#[]⟩] (grow (redrawn w9 d) os) fun e w'' => e = .returned (.agg #[.int .i64 1, .int .i64 0, .string ⟨#[]⟩]) ∧ ∃ p : Regrown, w'' = grow (redrawn w9 p.d) p.os := fun d os => Calls.regrown_of (vText_c [] _)
    have Q2 := Lib.hid q2
    clear q2
    have q3 : ∀ d os, Calls Tryd.prog 21 #[.int .i64 2] (grow (redrawn w9 d) os) fun e w'' => e = .returned (.agg #[.int .i64 2, .int .i64 0, .string ⟨#[]⟩]) ∧ ∃ p : Regrown, w'' = grow (redrawn w9 p.d) p.os := fun d os => Calls.regrown_of (vZero_c 2 _)
    have Q3 := Lib.hid q3
    clear q3
    have q4 : ∀ d os, Calls Tryd.prog 20 #[.bool false] (grow (redrawn w9 d) os) fun e w'' => e = .returned (.agg #[.int .i64 2, .int .i64 0, .string ⟨#[]⟩]) ∧ ∃ p : Regrown, w'' = grow (redrawn w9 p.d) p.os := fun d os => Calls.regrown_of (vBool_c false _)
    have Q4 := Lib.hid q4
    clear q4
    have q5 : ∀ d os, Calls Tryd.prog 21 #[.int .i64 0] (grow (redrawn w9 d) os) fun e w'' => e = .returned (.agg #[.int .i64 0, .int .i64 0, .string ⟨#[]⟩]) ∧ ∃ p : Regrown, w'' = grow (redrawn w9 p.d) p.os := fun d os => Calls.regrown_of (vZero_c 0 _)
    have Q5 := Lib.hid q5
    clear q5
    have q6 : ∀ d os, Calls Tryd.prog 18 #[.int .i64 0] (grow (redrawn w9 d) os) fun e w'' => e = .returned (.agg #[.int .i64 0, .int .i64 0, .string ⟨#[]⟩]) ∧ ∃ p : Regrown, w'' = grow (redrawn w9 p.d) p.os := fun d os => Calls.regrown_of (vInt_c 0 _)
    have Q6 := Lib.hid q6
    clear q6
    have q7 : ∀ d os, Calls Tryd.prog 11 #[.agg #[.int .i64 1, .int .i64 0, .string ⟨#[]⟩], .agg #[.int .i64 1, .int .i64 0, .string ⟨s.toArray⟩]] (grow (redrawn w9 d) os) fun e w'' => e = .returned (.int .i64 c4) ∧ ∃ p : Regrown, w'' = grow (redrawn w9 p.d) p.os := fun d os => Calls.regrown_of (by rw [← HC4.out]; exact compare_c ⟨1, 0, []⟩ ⟨1, 0, s⟩ _)
    have Q7 := Lib.hid q7
    clear q7
    refine wp_region_quiet_below (by kernel_rfl) (by kernel_rfl) ?_
    repeat (quiet_step (first | (with_reducible exact Q1.out _ _) | (with_reducible exact Q2.out _ _) | (with_reducible exact Q3.out _ _) | (with_reducible exact Q4.out _ _) | (with_reducible exact Q5.out _ _) | (with_reducible exact Q6.out _ _) | (with_reducible exact Q7.out _ _)))
    refine wpQuiet_nil ?_
    intro _ hw'
    obtain ⟨⟨dq2, osq2⟩, hw''⟩ := hw'
    subst hw''
    go_wp2_with fail
    go_meet
    exact ⟨by simp [H4], below_regrown w9 dq2 osq2⟩
  obtain ⟨rfl, hcut⟩ := hcut
  generalize wc = wd at hcut ⊢
  have hrd := hrc.on hcut (Nat.le_refl _)
  have hgd := hgc.on hcut
  have hbbd := chain hbbc hcut
  clear byc hrc hgc hbbc hcut
  go_wp2_with fail
  obtain ⟨_, axx, cxx, hxe, hcells⟩ := hrd
  have HC := Lib.hid hcells
  injection hxe with hx1 _ hx3
  subst hx1 hx3
  clear hcells
  go_loopw [15, 16] (fun s15 s16 wr => ∃ (k : Nat) (g : Bool), k ≤ l.length ∧ s15 = .bool g ∧ s16 = .int .i64 k ∧ Hid (g = (decide (l.length ≤ 12) && (l.take k).all rightV)) ∧ Below wd.heap.size wd wr) (fun _ s16 _ => l.length - (intOf s16).toNat)
  case atStart => exact ⟨0, _, Nat.zero_le _, rfl, rfl, Lib.hid (by simp; try omega), Below.refl _ _⟩
  case round =>
    obtain ⟨k, g, hk, rfl, rfl, HG, hbk⟩ := hrel
    by_cases hlt : k < l.length
    · obtain ⟨u, hu⟩ : ∃ u, l[k]? = some u := ⟨l[k], List.getElem?_eq_getElem hlt⟩
      obtain ⟨bx, ox, rfl, hc⟩ := HC.out (ne_of_lt hlt)
      obtain ⟨u0, u1, u2⟩ := (hc k u hu).on hbk (Nat.le_refl _)
      have HU := Lib.hid hu
      clear hu hc
      cases g with
      | true =>
        go_wp2_with fail
        refine (right_c _ _ _ _).mono ?_
        rintro e we ⟨rfl, hbe⟩
        go_wp2_with fail
        go_roundw
        case rel => exact ⟨k + 1, _, by omega, rfl, by go_num, Lib.hid (good_next HG.out HU.out), chain hbk hbe⟩
        case measure => simp [intOf]; omega
      | false =>
        go_wp2_with fail
        go_roundw
        case rel => exact ⟨k + 1, false, by omega, rfl, by go_num, Lib.hid (good_stay HG.out), hbk⟩
        case measure => simp [intOf]; omega
    · have HE := Lib.hid (show g = rightR l by rw [HG.out, List.take_of_length_le (by omega)]; rfl)
      have hre : RowV wr (.slice ax l.length ca) l := RowV.on (w := wd) ⟨la, ax, ca, rfl, HC.out⟩ hbk (Nat.le_refl _)
      have hge := hgd.on hbk
      have hbbe := chain hbbd hbk
      clear HC hgd hbbd hbk
      go_wp2_with fail
      refine (rightRow_c l _ _ hre).mono ?_
      rw [← HE.out]
      rintro e wf ⟨rfl, hbf⟩
      have hrf := hre.on hbf (Nat.le_refl _)
      have hgf := hge.on hbf
      have hbbf := chain hbbe hbf
      clear hre hge hbbe hbf
      cases g with
      | false =>
        go_wp2_with fail
        go_ret
        exact ⟨rfl, hbbf⟩
      | true =>
        have hrl := right_len HE.out.symm HF.out (by omega)
        have hle : ((rbytes l).length : Int) ≤ 4000 := by omega
        go_wp2_with fail
        refine (rowBytes_c l _ _ hgf (fun v hv => ⟨HF.out v hv, by have := HL.out v hv; omega⟩) (by omega) hrf).mono ?_
        rintro e wh ⟨rfl, hbh⟩
        go_wp2_with fail
        go_ret
        exact ⟨rfl, chain hbbf hbh⟩
end Go.Proofs.YtefaigbbleienaaDoor
