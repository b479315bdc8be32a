/-
  ValueTells returns true, for every two rows and every string; of what was there nothing has turned.
-/
import Derived.Test.YthibikdnoogfoaaGreatDoorVTells
namespace Go.Proofs.YthibikdnoogfoaaGreatDoor
open Go Go.RowKit Go.Sort Wire Txt Vl

theorem readP_form (s : List UInt8) : ∃ (v : V) (o : Bool), readP s = .tuple #[.agg #[.int .i64 v.k, .int .i64 v.n, .string ⟨v.s.toArray⟩], .bool o] := by
  cases h : readV s with
  | some v => exact ⟨v, true, readP_some h⟩
  | none => exact ⟨⟨0, 0, []⟩, false, readP_none h⟩
theorem parseP_form (s : List UInt8) : ∃ (v : V) (o : Bool), parseP s = .tuple #[.agg #[.int .i64 v.k, .int .i64 v.n, .string ⟨v.s.toArray⟩], .bool o] := by
  cases h : parseV s with
  | some v => exact ⟨v, true, parseP_some h⟩
  | none => exact ⟨⟨0, 0, []⟩, false, parseP_none h⟩
theorem read_det (s : List UInt8) (hs : s.length ≤ 500) : ∃ (L : List V) (o : Bool), ∀ w e w', ReadPost s w e w' → ∃ sv, e = .returned (.tuple #[sv, .bool o]) ∧ RowV w' sv L ∧ Below w.heap.size w w' := by
  cases h : readR s with
  | some L =>
    refine ⟨L, true, fun w e w' hp => ?_⟩
    obtain ⟨h1 | h1, hb⟩ := hp
    · obtain ⟨sv, l, he, hl, hll, hown⟩ := h1
      rw [h] at hl
      injection hl with hl
      subst hl
      exact ⟨sv, he, row_of_own hown (by omega), hb⟩
    · rw [h] at h1; cases h1.2
  | none =>
    refine ⟨[], false, fun w e w' hp => ?_⟩
    obtain ⟨h1 | h1, hb⟩ := hp
    · obtain ⟨sv, l, he, hl, _⟩ := h1
      rw [h] at hl; cases hl
    · exact ⟨_, h1.1, row_nil w', hb⟩
theorem parse_det (s : List UInt8) (hs : s.length ≤ 500) : ∃ (L : List V) (o : Bool), ∀ w e w', ParsePost s w e w' → ∃ sv, e = .returned (.tuple #[sv, .bool o]) ∧ RowV w' sv L ∧ Below w.heap.size w w' := by
  by_cases h : ∃ L, RowText s L
  · obtain ⟨L, hL⟩ := h
    exact ⟨L, true, fun w e w' hp => parse_yes hL hp (by omega)⟩
  · refine ⟨[], false, fun w e w' hp => ?_⟩
    obtain ⟨h1 | h1, hb⟩ := hp
    · obtain ⟨sv, l, he, hl, _⟩ := h1
      exact absurd ⟨l, hl⟩ h
    · exact ⟨_, h1.1, row_nil w', hb⟩
section
variable (a b : List V) (s : List UInt8) (x y : Value) (w : World)
set_option maxHeartbeats 3000000 in
set_option maxRecDepth 100000 in
theorem tells_main (hg : Good w) (hx : OArg w x a) (hy : OArg w y b) (h1 : shortR a 15 = true) (h2 : shortR b 15 = true) (h3 : s.length ≤ 500) :
    Calls Tryz.prog 3 #[x, y, .string ⟨s.toArray⟩] w fun e w' => e = .returned (.bool true) ∧ Below w.heap.size w w' := by
  obtain ⟨la, ma⟩ := short_parts' h1
  obtain ⟨lb, mb⟩ := short_parts' h2
  have la' : a.length ≤ 15 := by omega
  have lb' : b.length ≤ 15 := by omega
  have HFA : Hid (∀ v ∈ a, Fits v ∧ v.s.length ≤ 1000000) := Lib.hid fun v hv => ⟨hx.2 v hv, by have := ma v hv; omega⟩
  have HIA : Hid (∀ v ∈ a, InR v.n) := Lib.hid fun v hv => (hx.2 v hv).2.1
  have HX := Lib.hid hx
  have HY := Lib.hid hy
  have H1 := Lib.hid h1
  have H2 := Lib.hid h2
  obtain ⟨a1, c1, rfl⟩ := hx.slc
  obtain ⟨a2, c2, rfl⟩ := hy.slc
  clear hx hy h1 h2 ma mb
  go_enter Tryz.func3, Tryz.ntmps3
  go_wp2_with fail
  refine (vsmall_c _ hg).mono ?_
  rintro e w1 ⟨rfl, hb1⟩
  go_wp2_with fail
  refine (short_c a _ 15 _ (fits_len HX.out) (HX.out.on hb1 (Nat.le_refl _)).1.row).mono ?_
  rw [H1.out]
  rintro e w2 ⟨rfl, hb2⟩
  have hbb2 := chain hb1 hb2
  clear hb1 hb2
  go_wp2_with fail
  refine (short_c b _ 15 _ (fits_len HY.out) (HY.out.on hbb2 (Nat.le_refl _)).1.row).mono ?_
  rw [H2.out]
  rintro e w3 ⟨rfl, hb3⟩
  have hbb3 := chain hbb2 hb3
  clear hbb2 hb3
  go_wp2_with fail
  refine (rightRow_c a _ _ (HX.out.on hbb3 (Nat.le_refl _)).1.row).mono ?_
  rintro e w4 ⟨rfl, hb⟩
  have hbb4 := chain hbb3 hb
  clear hbb3 hb
  go_wp2_with fail
  refine (refRightRow_c a _ _ (HX.out.on hbb4 (Nat.le_refl _)).1.row).mono ?_
  rintro e w5 ⟨rfl, hb⟩
  have hbb5 := chain hbb4 hb
  clear hbb4 hb
  go_wp2_with fail
  refine (compareRows_c a b _ _ _ (HX.out.on hbb5 (Nat.le_refl _)).1.row (HY.out.on hbb5 (Nat.le_refl _)).1.row).mono ?_
  rintro e w6 ⟨rfl, hb⟩
  have hbb6 := chain hbb5 hb
  clear hbb5 hb
  go_wp2_with fail
  refine (refCompareRows_c a b _ _ _ (HX.out.on hbb6 (Nat.le_refl _)).1.row (HY.out.on hbb6 (Nat.le_refl _)).1.row).mono ?_
  rintro e w7 ⟨rfl, hb⟩
  have hbb7 := chain hbb6 hb
  clear hbb6 hb
  go_wp2_with fail
  refine (sameRows_c a b _ _ _ (HX.out.on hbb7 (Nat.le_refl _)).1.row (HY.out.on hbb7 (Nat.le_refl _)).1.row).mono ?_
  rintro e w8 ⟨rfl, hb⟩
  have hbb8 := chain hbb7 hb
  clear hbb7 hb
  obtain ⟨sm, hsm⟩ : ∃ q, decide (a = b) = q := ⟨_, rfl⟩
  have HSM := Lib.hid hsm
  rw [hsm]
  clear hsm
  go_wp2_with fail
  refine (refSame_c a b _ _ _ (HX.out.on hbb8 (Nat.le_refl _)).1.row (HY.out.on hbb8 (Nat.le_refl _)).1.row).mono ?_
  rw [HSM.out]
  rintro e w9 ⟨rfl, hb⟩
  have hbb9 := chain hbb8 hb
  clear hbb8 hb
  go_wp2_with fail
  refine (rowBytes_c a _ _ (hg.on hbb9) HFA.out (by omega) (HX.out.on hbb9 (Nat.le_refl _)).1.row).mono ?_
  rintro e w10 ⟨rfl, hb⟩
  have hbb10 := chain hbb9 hb
  clear hbb9 hb
  go_wp2_with fail
  refine (refRowBytes_c a _ _ HFA.out (by omega) (HX.out.on hbb10 (Nat.le_refl _)).1.row).mono ?_
  rintro e w11 ⟨rfl, hb⟩
  have hbb11 := chain hbb10 hb
  clear hbb10 hb
  go_wp2_with fail
  refine (showRow_c a _ _ (hg.on hbb11) HIA.out (by omega) (HX.out.on hbb11 (Nat.le_refl _)).1.row).mono ?_
  rintro e w12 ⟨rfl, hb⟩
  have hbb12 := chain hbb11 hb
  clear hbb11 hb
  go_wp2_with fail
  refine (refShowRow_c a _ _ HIA.out (by omega) (HX.out.on hbb12 (Nat.le_refl _)).1.row).mono ?_
  rintro e w13 ⟨rfl, hb⟩
  have hbb13 := chain hbb12 hb
  clear hbb12 hb
  go_wp2_with fail
  go_loopw [8] (fun s8 wr => ∃ k : Nat, k ≤ a.length ∧ s8 = .int .i64 k ∧ Below w.heap.size w wr) (fun s8 _ => a.length - (intOf s8).toNat)
  case atStart => exact ⟨0, Nat.zero_le _, rfl, hbb13⟩
  case round =>
    obtain ⟨k, hk, rfl, hbk⟩ := hrel
    clear hbb13
    by_cases hka : k < a.length
    · as_aux_lemma =>
        obtain ⟨u, hu⟩ : ∃ u, a[k]? = some u := ⟨a[k], List.getElem?_eq_getElem hka⟩
        obtain ⟨ax, ox, rfl, hcapa, hcua⟩ := (HX.out.on hbk (Nat.le_refl _)).place hka u hu
        obtain ⟨huf, hul⟩ := HFA.out u (List.mem_of_getElem? hu)
        have hun := HIA.out u (List.mem_of_getElem? hu)
        obtain ⟨R, hR⟩ : ∃ X, rightV u = X := ⟨_, rfl⟩
        obtain ⟨X1, hX1⟩ : ∃ X, vbytes u = X := ⟨_, rfl⟩
        obtain ⟨X2, hX2⟩ : ∃ X, showV u = X := ⟨_, rfl⟩
        have HR := Lib.hid hR
        have HX1 := Lib.hid hX1
        have HX2 := Lib.hid hX2
        have hgr := hg.on hbk
        have k0 := cell_regrown hcua.1
        have k1 := cell_regrown hcua.2.1
        have k2 := cell_regrown hcua.2.2
        have q1 : ∀ d os, Calls Tryz.prog 16 #[.agg #[.int .i64 u.k, .int .i64 u.n, .string ⟨u.s.toArray⟩]] (grow (redrawn wr d) os) fun e w'' => e = .returned (.bool R) ∧ ∃ p : Regrown, w'' = grow (redrawn wr p.d) p.os := fun d os => Calls.regrown_of (by rw [← HR.out]; exact right_c u.k u.n u.s _)
        have Q1 := Lib.hid q1
        have q2 : ∀ d os, Calls Tryz.prog 17 #[.agg #[.int .i64 u.k, .int .i64 u.n, .string ⟨u.s.toArray⟩]] (grow (redrawn wr d) os) fun e w'' => e = .returned (.bool R) ∧ ∃ p : Regrown, w'' = grow (redrawn wr p.d) p.os := fun d os => Calls.regrown_of (by rw [← HR.out]; exact refRight_c u.k u.n u.s _)
        have Q2 := Lib.hid q2
        have q3 : ∀ d os, Calls Tryz.prog 18 #[.agg #[.int .i64 u.k, .int .i64 u.n, .string ⟨u.s.toArray⟩]] (grow (redrawn wr d) os) fun e w'' => e = .returned (.string ⟨X1.toArray⟩) ∧ ∃ p : Regrown, w'' = grow (redrawn wr p.d) p.os := fun d os => Calls.regrown_of (by rw [← HX1.out]; exact bytes_c u _ (hgr.on (below_regrown wr d os)) huf (by omega))
        have Q3 := Lib.hid q3
        have q4 : ∀ d os, Calls Tryz.prog 19 #[.agg #[.int .i64 u.k, .int .i64 u.n, .string ⟨u.s.toArray⟩]] (grow (redrawn wr d) os) fun e w'' => e = .returned (.string ⟨X1.toArray⟩) ∧ ∃ p : Regrown, w'' = grow (redrawn wr p.d) p.os := fun d os => Calls.regrown_of (by rw [← HX1.out]; exact refBytes_c u _ huf (by omega))
        have Q4 := Lib.hid q4
        have q5 : ∀ d os, Calls Tryz.prog 20 #[.agg #[.int .i64 u.k, .int .i64 u.n, .string ⟨u.s.toArray⟩]] (grow (redrawn wr d) os) fun e w'' => e = .returned (.string ⟨X2.toArray⟩) ∧ ∃ p : Regrown, w'' = grow (redrawn wr p.d) p.os := fun d os => Calls.regrown_of (by rw [← HX2.out]; exact show_c u hun _ (hgr.on (below_regrown wr d os)))
        have Q5 := Lib.hid q5
        have q6 : ∀ d os, Calls Tryz.prog 21 #[.agg #[.int .i64 u.k, .int .i64 u.n, .string ⟨u.s.toArray⟩]] (grow (redrawn wr d) os) fun e w'' => e = .returned (.string ⟨X2.toArray⟩) ∧ ∃ p : Regrown, w'' = grow (redrawn wr p.d) p.os := fun d os => Calls.regrown_of (by rw [← HX2.out]; exact refShow_c u hun _)
        have Q6 := Lib.hid q6
        have HU := Lib.hid hu
        clear q1 q2 q3 q4 q5 q6 hR hX1 hX2 hu
        go_wp2_with fail
        go_cut [119] (fun t119 wx => t119 = .bool false ∧ Below wr.heap.size wr wx)
        case first =>
          refine wp_region_quiet_below (by kernel_rfl) (by kernel_rfl) ?_
          repeat (quiet_step (first | (with_reducible exact Q1.out _ _) | (with_reducible exact Q2.out _ _) | (with_reducible exact Q3.out _ _) | (with_reducible exact Q4.out _ _) | (with_reducible exact Q5.out _ _) | (with_reducible exact Q6.out _ _)))
          refine wpQuiet_nil ?_
          intro _ hw'
          obtain ⟨⟨dq, osq⟩, hw''⟩ := hw'
          subst hw''
          go_wp2_with fail
          go_meet
          exact ⟨rfl, below_regrown wr dq osq⟩
        obtain ⟨rfl, hbf⟩ := hcut
        generalize wc = wf at hbf ⊢
        have hua := hcua.on hbf (Nat.le_refl _)
        have hbkf := chain hbk hbf
        clear k0 k1 k2 Q1 Q2 Q3 Q4 Q5 Q6 hcua hgr
        by_cases hkb : k < b.length
        · obtain ⟨v, hv⟩ : ∃ v, b[k]? = some v := ⟨b[k], List.getElem?_eq_getElem hkb⟩
          obtain ⟨bx, oy, rfl, hcapb, hcvb⟩ := (HY.out.on hbkf (Nat.le_refl _)).place hkb v hv
          obtain ⟨o, ho⟩ : ∃ o, cmpV u v = o := ⟨_, rfl⟩
          have HO := Lib.hid ho
          have k0 := cell_regrown hua.1
          have k1 := cell_regrown hua.2.1
          have k2 := cell_regrown hua.2.2
          have k3 := cell_regrown hcvb.1
          have k4 := cell_regrown hcvb.2.1
          have k5 := cell_regrown hcvb.2.2
          have q1 : ∀ d os, Calls Tryz.prog 22 #[.agg #[.int .i64 u.k, .int .i64 u.n, .string ⟨u.s.toArray⟩], .agg #[.int .i64 v.k, .int .i64 v.n, .string ⟨v.s.toArray⟩]] (grow (redrawn wf d) os) fun e w'' => e = .returned (.int .i64 o) ∧ ∃ p : Regrown, w'' = grow (redrawn wf p.d) p.os := fun d os => Calls.regrown_of (by rw [← HO.out]; exact compare_c u v _)
          have Q1 := Lib.hid q1
          have q2 : ∀ d os, Calls Tryz.prog 23 #[.agg #[.int .i64 u.k, .int .i64 u.n, .string ⟨u.s.toArray⟩], .agg #[.int .i64 v.k, .int .i64 v.n, .string ⟨v.s.toArray⟩]] (grow (redrawn wf d) os) fun e w'' => e = .returned (.int .i64 o) ∧ ∃ p : Regrown, w'' = grow (redrawn wf p.d) p.os := fun d os => Calls.regrown_of (by rw [← HO.out]; exact refCompare_c u v _)
          have Q2 := Lib.hid q2
          clear q1 q2 hv ho
          go_wp2_with fail
          go_cut [144] (fun t144 wx => t144 = .bool false ∧ Below wf.heap.size wf wx)
          case first =>
            refine wp_region_quiet_below (by kernel_rfl) (by kernel_rfl) ?_
            repeat (quiet_step (first | (with_reducible exact Q1.out _ _) | (with_reducible exact Q2.out _ _)))
            refine wpQuiet_nil ?_
            intro _ hw'
            obtain ⟨⟨dq, osq⟩, hw''⟩ := hw'
            subst hw''
            go_wp2_with fail
            go_meet
            exact ⟨rfl, below_regrown wf dq osq⟩
          obtain ⟨rfl, hbz⟩ := hcut
          generalize wc = wz at hbz ⊢
          have hbkz := chain hbkf hbz
          clear k0 k1 k2 k3 k4 k5 Q1 Q2
          go_wp2_with fail
          go_roundw
          case rel => exact ⟨k + 1, by omega, by go_num, hbkz⟩
          case measure => simp [intOf]; omega
        · have hkb1 : ((k : Int) < (b.length : Int)) = False := by simp; omega
          go_wp2_with fail
          go_region
          go_wp2_with fail
          go_roundw
          case rel => exact ⟨k + 1, by omega, by go_num, hbkf.drew⟩
          case measure => simp [intOf]; omega
    · as_aux_lemma =>
        obtain ⟨v1, o1, hP1⟩ := readP_form s
        obtain ⟨v2, o2, hP2⟩ := parseP_form s
        obtain ⟨L3, o3, hD3⟩ := read_det s h3
        obtain ⟨L4, o4, hD4⟩ := parse_det s h3
        have P1 := Lib.hid hP1
        have P2 := Lib.hid hP2
        have D3 := Lib.hid hD3
        have D4 := Lib.hid hD4
        clear hP1 hP2 hD3 hD4
        go_wp2_with fail
        refine (read_c s (by omega) _ (hg.on hbk)).mono ?_
        rw [P1.out]
        rintro e w14 ⟨rfl, hb⟩
        have hc14 := chain hbk hb
        clear hb hbk
        obtain ⟨w15, e15, y1, hb⟩ := box_new w14 v1
        have hc15 := chain hc14 hb
        clear hb hc14
        go_wp2_with fail
        refine (refRead_c s (by omega) _).mono ?_
        rw [P1.out]
        rintro e w16 ⟨rfl, hb⟩
        have hc16 := chain hc15 hb
        replace y1 := y1.on hb
        clear hb hc15 e15
        obtain ⟨w17, e17, y2, hb⟩ := box_new w16 v1
        have hc17 := chain hc16 hb
        replace y1 := y1.on hb
        clear hb hc16
        go_wp2_with fail
        refine (parse_c s (by omega) _ (hg.on hc17)).mono ?_
        rw [P2.out]
        rintro e w18 ⟨rfl, hb⟩
        have hc18 := chain hc17 hb
        replace y1 := y1.on hb
        replace y2 := y2.on hb
        clear hb hc17 e17
        obtain ⟨w19, e19, y3, hb⟩ := box_new w18 v2
        have hc19 := chain hc18 hb
        replace y1 := y1.on hb
        replace y2 := y2.on hb
        clear hb hc18
        go_wp2_with fail
        refine (refParse_c s (by omega) _).mono ?_
        rw [P2.out]
        rintro e w20 ⟨rfl, hb⟩
        have hc20 := chain hc19 hb
        replace y1 := y1.on hb
        replace y2 := y2.on hb
        replace y3 := y3.on hb
        clear hb hc19 e19
        obtain ⟨w21, e21, y4, hb⟩ := box_new w20 v2
        have hc21 := chain hc20 hb
        replace y1 := y1.on hb
        replace y2 := y2.on hb
        replace y3 := y3.on hb
        clear hb hc20
        go_wp2_with fail
        refine (readRow_c s (by omega) _ (hg.on hc21)).mono ?_
        intro e w22 hp
        obtain ⟨s3, rfl, r3, hb⟩ := D3.out _ _ _ hp
        have hc22 := chain hc21 hb
        replace y1 := y1.on hb
        replace y2 := y2.on hb
        replace y3 := y3.on hb
        replace y4 := y4.on hb
        clear hb hc21 e21 hp
        go_wp2_with fail
        refine (refReadRow_c s (by omega) _).mono ?_
        intro e w23 hp
        obtain ⟨s4, rfl, r4, hb⟩ := D3.out _ _ _ hp
        have hc23 := chain hc22 hb
        replace y1 := y1.on hb
        replace y2 := y2.on hb
        replace y3 := y3.on hb
        replace y4 := y4.on hb
        replace r3 := r3.on hb (Nat.le_refl _)
        clear hb hc22 hp
        go_wp2_with fail
        refine (parseRow_c s (by omega) _ (hg.on hc23)).mono ?_
        intro e w24 hp
        obtain ⟨s5, rfl, r5, hb⟩ := D4.out _ _ _ hp
        have hc24 := chain hc23 hb
        replace y1 := y1.on hb
        replace y2 := y2.on hb
        replace y3 := y3.on hb
        replace y4 := y4.on hb
        replace r3 := r3.on hb (Nat.le_refl _)
        replace r4 := r4.on hb (Nat.le_refl _)
        clear hb hc23 hp
        go_wp2_with fail
        refine (refParseRow_c s (by omega) _).mono ?_
        intro e w25 hp
        obtain ⟨s6, rfl, r6, hb⟩ := D4.out _ _ _ hp
        have hc25 := chain hc24 hb
        replace y1 := y1.on hb
        replace y2 := y2.on hb
        replace y3 := y3.on hb
        replace y4 := y4.on hb
        replace r3 := r3.on hb (Nat.le_refl _)
        replace r4 := r4.on hb (Nat.le_refl _)
        replace r5 := r5.on hb (Nat.le_refl _)
        clear hb hc24 hp
        have a0 := y1.c0
        have a1' := y1.c1
        have a2' := y1.c2
        have b0 := y2.c0
        have b1 := y2.c1
        have b2 := y2.c2
        have d0 := y3.c0
        have d1 := y3.c1
        have d2 := y3.c2
        have f0 := y4.c0
        have f1 := y4.c1
        have f2 := y4.c2
        clear y1 y2 y3 y4
        go_wp2_with fail
        refine (refSame_c L3 L3 _ _ _ r3 r4).mono ?_
        rw [show decide (L3 = L3) = true by simp]
        rintro e w26 ⟨rfl, hb⟩
        have hc26 := chain hc25 hb
        replace r5 := r5.on hb (Nat.le_refl _)
        replace r6 := r6.on hb (Nat.le_refl _)
        clear hb hc25 a0 a1' a2' b0 b1 b2 d0 d1 d2 f0 f1 f2
        go_wp2_with fail
        refine (refSame_c L4 L4 _ _ _ r5 r6).mono ?_
        rw [show decide (L4 = L4) = true by simp]
        rintro e w27 ⟨rfl, hb⟩
        have hc27 := chain hc26 hb
        clear hb hc26
        go_wp2_with fail
        go_ret
        exact ⟨rfl, hc27⟩
end
theorem vtellsLaw_c (a b : List V) (s : List UInt8) (x y : Value) (w : World) (ls : s.length ≤ 9223372036854775807) (hg : Good w) (hx : OArg w x a) (hy : OArg w y b) :
    Calls Tryz.prog 3 #[x, y, .string ⟨s.toArray⟩] w fun e w' => e = .returned (.bool true) ∧ Below w.heap.size w w' := by
  cases h1 : shortR a 15 with
  | false => exact tells_out1 a b s x y w hg hx hy h1
  | true =>
    cases h2 : shortR b 15 with
    | false => exact tells_out2 a b s x y w hg hx hy h1 h2
    | true =>
      by_cases h3 : s.length ≤ 500
      · exact tells_main a b s x y w hg hx hy h1 h2 h3
      · exact tells_out3 a b s x y w ls hg hx hy h1 h2 h3
end Go.Proofs.YthibikdnoogfoaaGreatDoor
