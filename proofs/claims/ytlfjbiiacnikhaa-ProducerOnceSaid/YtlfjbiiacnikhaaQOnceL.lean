/-
  ProducerOnce: each record of a producer once.
-/
import Derived.Test.YtlfjbiiacnikhaaQOnceS
import Derived.Lib.QuietBelow
namespace Go.Proofs.Ytlfjbiiacnikhaa
set_option maxRecDepth 100000
open Go Go.RowKit Pq Go.Sort

theorem made_one (z : Value) (k : Nat) : madeCells #[z] k = (List.replicate k z).toArray := by
  apply Array.toList_inj.1
  unfold madeCells
  rw [Array.toList_map, Array.toList_range]
  apply List.ext_getElem?
  intro i
  rw [List.getElem?_map, List.getElem?_replicate]
  by_cases h : i < k
  · rw [List.getElem?_range h, if_pos h]
    show some (#[z][i % 1]!) = some z
    rw [Nat.mod_one]
    rfl
  · rw [if_neg h, List.getElem?_eq_none (by simp; omega)]
    rfl
theorem zeros64 : madeCells #[Value.int .i64 0] 64 = (numsV (List.replicate 64 0)).toArray := by
  rw [made_one]
  unfold numsV
  rw [List.map_replicate]
theorem mk64 (W : World) : (Instr.makeSlice 26 (.int .i64 64) (.int .i64 64)).run Try.prog W = .ok (.slice (some ⟨W.heap.size, 0, none⟩) 64 64) (W.alloc (.cells (numsV (List.replicate 64 0)).toArray 3)) := by
  have h := run_make_row' (P := Try.prog) 26 3 (.int .i64 0) 8 Try.underlying26 infoIntQ rfl .i64 .i64 64 (by decide) (by decide) W
  rw [zeros64] at h
  exact h
theorem once0 (w w1 : World) (hb : Below w.heap.size w w1) : OnceIs w w1.heap.size (w1.alloc (.cells (numsV (List.replicate 64 0)).toArray 3)) none 0 [] none 0 [] (List.replicate 64 0) (-1) 0 :=
  ⟨tb_nil _ _, World.ownsRow_nil _ _ _ _, (fun e => by cases e), box_new w1 _, by simp, (fun j hj => by rw [List.getElem?_replicate, if_pos hj]; rfl), inv_nil _, Int.le_refl _, by decide, Nat.le_refl _, hb.trans ((below_new w1 _).mono hb.size), hb.size⟩
theorem rightT_q {V : World} {ta : Option Addr} {tc : Nat} {T : List PP} (h : Tb (fun _ => True) V ta tc T) (hr : Right (tab T)) (d : Nat) (os : Array Obj) : Calls Try.prog 10 #[.slice ta T.length tc] (grow (redrawn V d) os) fun e w'' => e = .returned (.bool true) ∧ ∃ p : Regrown, w'' = grow (redrawn V p.d) p.os :=
  Calls.regrown_of (w := V) (d := d) (os := os) ((rightT_c (h.on (below_regrown V d os)) (by have := hr.1; rw [tab_length] at this; omega) (fun x hx => by
    have := (Tab.mem hr.2 (show x.p ∈ tab T from List.mem_map_of_mem hx)).2.2.len
    omega)).mono fun e w' hh => ⟨by rw [hh.1, decide_eq_true hr], hh.2⟩)
theorem drewN_b (w : World) (n : Nat) : Below w.heap.size w (w.drewN n) := ⟨rfl, rfl, rfl, Nat.le_refl _, fun _ _ => rfl⟩
theorem drewN_b2 {w0 w : World} {n : Nat} (h : w.drewN n = w0) : Below w.heap.size w w0 := by rw [← h]; exact drewN_b w n
set_option maxHeartbeats 32000000 in
theorem once_law {w : World} {v : Value} {l : List Op10} (h : OpsIn10 w v l) :
    Calls Try.prog 3 #[v] w fun r w' => r = .returned (.bool true) ∧ Below w.heap.size w w' := by
  obtain ⟨hlen, oa, oc, rfl, hops⟩ := h
  have Q1 := Lib.hid (small_c w)
  obtain ⟨n, hn⟩ : ∃ n, n = l.length := ⟨_, rfl⟩
  have HN := Lib.hid hn
  have HO := Lib.hid hops
  rw [← hn] at hlen ⊢
  clear hn hops
  by_cases h200 : 200 < n
  · have h200' : (200 : Int) < (n : Int) := by omega
    go_enter Try.func3, Try.ntmps3
    go_wp2_with (go_at_call 5; refine Q1.out.mono ?_; rintro r w1 ⟨rfl, hb1⟩)
    go_ret
    exact ⟨rfl, hb1⟩
  have h200' : ¬ (200 : Int) < (n : Int) := by omega
  go_enter Try.func3, Try.ntmps3
  go_upto_region 6 with (go_at_call 5; refine Q1.out.mono ?_; rintro r w1 ⟨rfl, hb1⟩)
  have H0 := Lib.hid (once0 w w1 hb1)
  obtain ⟨WE, hWE⟩ : ∃ WE, WE = w1.alloc (.cells (numsV (List.replicate 64 0)).toArray 3) := ⟨_, rfl⟩
  have hmk := mk64 w1
  rw [← hWE] at hmk H0
  obtain ⟨E, hE⟩ : ∃ E, E = w1.heap.size := ⟨_, rfl⟩
  rw [← hE] at hmk H0
  clear hWE hE hb1
  go_wp2_with fail
  go_loopw [4, 5, 7, 8] (fun v4 v5 v7 v8 wr => ∃ (i : Nat) (ta : Option Addr) (tc : Nat) (T : List PP) (ka : Option Addr) (kc : Nat) (ks : List K) (es : List Int) (pos : Int), i ≤ n ∧ v4 = .slice ta T.length tc ∧ v5 = .slice ka ks.length kc ∧ v7 = .int .i64 pos ∧ v8 = .int .i64 (i : Int) ∧ Hid (OnceIs w E wr ta tc T ka kc ks es pos i)) (fun _ _ _ v8 _ => n - (intOf v8).toNat)
  case atStart => exact ⟨0, none, 0, [], none, 0, [], _, -1, Nat.zero_le _, rfl, rfl, rfl, rfl, H0⟩
  case round =>
    obtain ⟨i, ta, tc, T, ka, kc, ks, es, pos, hi, rfl, rfl, rfl, rfl, HI⟩ := hrel
    obtain ⟨w0, hw0⟩ : ∃ w0, w0 = wr := ⟨wr, rfl⟩
    subst hw0
    by_cases hil : ¬ i < n
    · have hil' : ¬ (i : Int) < (n : Int) := by omega
      go_wp2_with fail
      go_ret
      exact ⟨rfl, HI.out.below⟩
    have hil0 : i < n := Decidable.not_not.1 hil
    have hil' : (i : Int) < (n : Int) := by omega
    clear hil
    obtain ⟨x, hx⟩ : ∃ x, l[i]? = some x := ⟨l[i]'(by have := HN.out; omega), List.getElem?_eq_getElem _⟩
    obtain ⟨ob, ooff, rfl, hrow, hfit⟩ := HO.out i x hx
    have hrow2 := hrow.on' HI.out.below
    have o0 := hrow2.c0
    have o1 := hrow2.c1
    have o2 := hrow2.c2
    have o3 := hrow2.c3
    have o4 := hrow2.c4
    obtain ⟨W1, hW1⟩ : ∃ W1, W1 = w0.alloc x.obj := ⟨_, rfl⟩
    have hb1 : Below w0.heap.size w0 W1 := by rw [hW1]; exact below_new w0 _
    have hx1 : W1.heap[w0.heap.size]? = some x.obj := by rw [hW1]; exact box_new w0 _
    have HB1 := Lib.hid hb1
    have HX1 := Lib.hid hx1
    have hbx := Op10.cells hx1
    have d0 := hbx.c0
    have d1 := hbx.c1
    have d2 := hbx.c2
    have d3 := hbx.c3
    have d4 := hbx.c4
    obtain ⟨dk, xid, ep, sq, far⟩ := x
    have HFit := Lib.hid hfit
    unfold Op10.obj at hW1
    dsimp only at *
    obtain ⟨j, hj⟩ : ∃ j : Nat, xid % 64 = (j : Int) := ⟨(xid % 64).toNat, by omega⟩
    have hj64 : j < 64 := by omega
    have hb63 : bits .and .i64 xid 63 = (j : Int) := by rw [i64_and63, hj]
    have hj64' : (j : Int) < 64 := by omega
    have HI1 := Lib.hid (HI.out.on hb1)
    have eE := HI1.out.cell hj64
    have HL := Lib.hid HI.out.lens
    obtain ⟨e0, he0⟩ : ∃ e0, e0 = (Pq.get (tab T) (j : Int)).ep := ⟨_, rfl⟩
    have HE0 := Lib.hid he0
    rw [← he0] at eE
    have hin := HI.out.ep0 (j : Int)
    rw [← he0] at hin
    unfold inB at hin
    have hwe : IntKind.i64.wrap (e0 + 1) = e0 + 1 := by rw [IntKind.wrap_i64]; omega
    clear hx hrow hfit hrow2 hb1 hx1 hbx hj he0
    go_upto_region 12 with fail
    rw [← hW1]
    clear hW1 o0 o1 o2 o3 o4
    have hfull := HL.out.1
    by_cases hodd : dk % 2 = 1
    · have hb1' : bits .and .i64 dk 1 = 1 := by rw [i64_and1, hodd]
      have q2 := fence_c HI1.out.tb.any HI.out.inv.right (j : Int)
      have Q2 := Lib.hid q2
      have f3 : W1.frozen? ⟨E, j, none⟩ = false := Lib.frozen_of_heap HI1.out.ep j
      clear q2 hodd
      go_upto_region 15 with (go_at_call 6; (with_reducible refine Q2.out.mono ?_); rintro r w2 ⟨⟨a2, c2, T2, ep2, z2, rfl, t2, hf⟩, hb2⟩)
      have eE2 := (Kept.below (S := fun _ => False) hb2).cell eE (fun e => e)
      have HI2 := Lib.hid (HI1.out.on hb2)
      have f4 : w2.frozen? ⟨E, j, none⟩ = false := Lib.frozen_of_heap HI2.out.ep j
      have HB2 := Lib.hid hb2
      have HF := Lib.hid hf
      have HT2 := Lib.hid t2
      clear eE f3 hb2 t2 hf d0 d1 d2 d3 d4
      by_cases hz : z2 = 0
      · have hfe : fence (tab T) (j : Int) = (some (tab T2, ep2), z2) := HF.out.elim (fun f => absurd hz f.2.2.2) (fun f => f.1)
        obtain ⟨g1, g2⟩ := OnceIs.fenced HI1.out HB2.out hfe HT2.out
        rw [← HE0.out] at g1
        have G2 := Lib.hid (g2 hj64)
        subst hz g1
        have hne : (e0 + 1 != e0 + 1) = false := by simp
        clear g2 hfe
        go_wp2_with fail
        go_roundw
        case rel => exact ⟨i + 1, a2, c2, T2, ka, kc, ks, _, pos, hil0, rfl, rfl, rfl, by go_num, Lib.hid G2.out.up⟩
        case measure => (simp only [intOf]; omega)
      · have hz' : (z2 == 0) = false := by simpa using hz
        clear hz
        go_wp2_with fail
        go_roundw
        case rel => exact ⟨i + 1, ta, tc, T, ka, kc, ks, es, pos, hil0, rfl, rfl, rfl, by go_num, Lib.hid HI2.out.up⟩
        case measure => (simp only [intOf]; omega)
    have hb1' : bits .and .i64 dk 1 = 0 := by rw [i64_and1]; omega
    clear hodd
    have q2 := record_c (j : Int) ep sq W1
    have Q2 := Lib.hid q2
    clear q2
    go_upto_region 21 with (first
      | (go_at_call 8; refine Q2.out.mono ?_; rintro r w2 ⟨rfl, hb2⟩; have HI2 := Lib.hid (HI1.out.on hb2); have HX2 := Lib.hid (box_on HX1.out hb2); have HB2 := Lib.hid hb2; clear hb2 d0 d1 d2 d3 d4; have Q3 := Lib.hid (look_c HI2.out.tb.any HI2.out.inv.right (recE (j : Int) ep sq)))
      | (go_at_call 7; (with_reducible refine Q3.out.mono ?_); rintro r w3 ⟨rfl, hb3⟩))
    obtain ⟨at', hat⟩ : ∃ a, a = (Pq.look (tab T) (j : Int) ep sq).1 := ⟨_, rfl⟩
    obtain ⟨z, hz⟩ : ∃ z, z = (Pq.look (tab T) (j : Int) ep sq).2 := ⟨_, rfl⟩
    have hlk : Pq.look (tab T) (j : Int) ep sq = (at', z) := by rw [hat, hz]
    rw [show (Pq.look (tab T) (recE (j : Int) ep sq).pr (recE (j : Int) ep sq).ep (recE (j : Int) ep sq).sq).1 = at' from hat.symm, show (Pq.look (tab T) (recE (j : Int) ep sq).pr (recE (j : Int) ep sq).ep (recE (j : Int) ep sq).sq).2 = z from hz.symm]
    have HLK := Lib.hid hlk
    have HI3 := Lib.hid (HI2.out.on hb3)
    have HX3 := Lib.hid (box_on HX2.out hb3)
    have HB3 := Lib.hid hb3
    have HB13 := Lib.hid (HB2.out.trans (hb3.mono HB2.out.size))
    have hkl := HI.out.kl
    have hkl2 : ks.length ≤ 200 := by omega
    clear hat hz hlk hb3 eE Q2 Q3 hkl
    go_wp2_with fail
    go_loopw [16, 17, 18] (fun v16 v17 v18 w4 => ∃ (k : Nat) (f c : Int), k ≤ ks.length ∧ v16 = .int .i64 f ∧ v17 = .int .i64 c ∧ v18 = .int .i64 (k : Int) ∧ 0 ≤ c ∧ c ≤ k ∧ Hid (Cnt ks (j : Int) ep sq k f c) ∧ Hid (Below w3.heap.size w3 w4)) (fun _ _ v18 _ => ks.length - (intOf v18).toNat)
    case atStart => exact ⟨0, -1, 0, Nat.zero_le _, rfl, rfl, rfl, Int.le_refl _, Int.le_refl _, Lib.hid (cnt0 _ _ _ _), Lib.hid (Below.refl _ _)⟩
    case round =>
      obtain ⟨k, f, c, hk, rfl, rfl, rfl, hc0, hck, HC, HB4⟩ := hrel
      obtain ⟨w4, hw4⟩ : ∃ w4, w4 = wr := ⟨wr, rfl⟩
      subst hw4
      have HI4 := Lib.hid (HI3.out.on HB4.out)
      have hx4 := box_on HX3.out HB4.out
      have hbx := Op10.cells hx4
      have d2 := hbx.c2
      have d3 := hbx.c3
      dsimp only at d2 d3
      clear hx4 hbx
      by_cases hkl : k < ks.length
      · have hkl' : (k : Int) < (ks.length : Int) := by omega
        obtain ⟨y, hy⟩ : ∃ y, ks[k]? = some y := ⟨ks[k], List.getElem?_eq_getElem hkl⟩
        obtain ⟨kb, rfl, hkc⟩ := k_cells HI4.out.kr hy
        have k0 := hkc.c0
        have k1 := hkc.c1
        have k2 := hkc.c2
        have HY := Lib.hid hy
        have hwc : IntKind.i64.wrap (c + 1) = c + 1 := by rw [IntKind.wrap_i64]; omega
        clear hy hkc
        by_cases g1 : y.id = (j : Int)
        · by_cases g2 : y.ep = ep
          · by_cases g3 : y.seq = sq
            · as_aux_lemma =>
                have g1' : (y.id == (j : Int)) = true := by simpa using g1
                have g2' : (y.ep == ep) = true := by simpa using g2
                have g3' : (y.seq == sq) = true := by simpa using g3
                have HC2 := Lib.hid (HC.out.found HY.out ⟨g1, g2⟩ g3)
                clear g1 g2 g3
                go_upto_region 26 with fail
                go_quiet (fail)
                go_upto_region 28 with fail
                go_quiet (fail)
                go_wp2_with fail
                go_roundw
                case rel => exact ⟨k + 1, (k : Int), c + 1, hkl, rfl, rfl, by go_num, by omega, by omega, HC2, Lib.hid (HB4.out.trans ((drewN_b w4 _).mono HB4.out.size))⟩
                case measure => (simp only [intOf]; omega)
            · as_aux_lemma =>
                have g1' : (y.id == (j : Int)) = true := by simpa using g1
                have g2' : (y.ep == ep) = true := by simpa using g2
                have g3' : (y.seq == sq) = false := by simpa using g3
                have HC2 := Lib.hid (HC.out.other HY.out ⟨g1, g2⟩ g3)
                clear g1 g2 g3
                go_upto_region 26 with fail
                go_quiet (fail)
                go_upto_region 28 with fail
                go_quiet (fail)
                go_wp2_with fail
                go_roundw
                case rel => exact ⟨k + 1, f, c + 1, hkl, rfl, rfl, by go_num, by omega, by omega, HC2, Lib.hid (HB4.out.trans ((drewN_b w4 _).mono HB4.out.size))⟩
                case measure => (simp only [intOf]; omega)
          · as_aux_lemma =>
              have g1' : (y.id == (j : Int)) = true := by simpa using g1
              have g2' : (y.ep == ep) = false := by simpa using g2
              have HC2 := Lib.hid (HC.out.skip HY.out (fun q => g2 q.2))
              clear g1 g2
              go_upto_region 26 with fail
              go_quiet (fail)
              go_wp2_with fail
              go_roundw
              case rel => exact ⟨k + 1, f, c, hkl, rfl, rfl, by go_num, by omega, by omega, HC2, Lib.hid (HB4.out.trans ((drewN_b w4 _).mono HB4.out.size))⟩
              case measure => (simp only [intOf]; omega)
        · as_aux_lemma =>
            have g1' : (y.id == (j : Int)) = false := by simpa using g1
            have HC2 := Lib.hid (HC.out.skip HY.out (fun q => g1 q.1))
            clear g1
            go_upto_region 26 with fail
            go_quiet (fail)
            go_wp2_with fail
            go_roundw
            case rel => exact ⟨k + 1, f, c, hkl, rfl, rfl, by go_num, by omega, by omega, HC2, Lib.hid (HB4.out.trans ((drewN_b w4 _).mono HB4.out.size))⟩
            case measure => (simp only [intOf]; omega)
      · have hkl' : ¬ (k : Int) < (ks.length : Int) := by omega
        obtain ⟨hcc, hff⟩ := HC.out.end (by omega)
        have hx4' := box_on HX3.out HB4.out
        have HX4 := Lib.hid hx4'
        have cE := HI4.out.cell hj64
        rw [← HE0.out] at cE
        have e1 : w4.frozen? ⟨E, j, none⟩ = false := Lib.frozen_of_heap HI4.out.ep j
        have HFF := Lib.hid hff
        have HCC := Lib.hid hcc
        clear hx4' hff hcc e1
        by_cases z18 : z = 18
        · as_aux_lemma =>
            subst z18
            have hlt := (look_cases HLK.out).1 rfl
            rw [← HE0.out] at hlt
            have g1 : decide (e0 ≤ ep) = false := decide_eq_false (by omega)
            clear hlt
            go_upto_region 36 with fail
            go_quiet (fail)
            go_upto_region 38 with fail
            generalize hV : w4.drewN nq = V
            have HBV := Lib.hid (drewN_b2 hV)
            clear hV d2 d3 cE
            have HIV := Lib.hid (HI4.out.on HBV.out)
            have HXV := Lib.hid (box_on HX4.out HBV.out)
            have hbx := Op10.cells HXV.out
            have d2 := hbx.c2
            have d3 := hbx.c3
            dsimp only at d2 d3
            have cE := HIV.out.cell hj64
            clear hbx
            rw [← HE0.out] at cE
            have r2 := cell_regrown d2
            have r3 := cell_regrown d3
            have rE := cell_regrown cE
            clear d2 d3 cE
            have QR := Lib.hid (rightT_q HIV.out.tb.any HIV.out.inv.right)
            refine wp_region_quiet_below (by kernel_rfl) (by kernel_rfl) ?_
            repeat (go_big_quiet_step (with_reducible exact QR.out _ _))
            refine wpQuiet_nil ?_
            intro _ hw
            obtain ⟨⟨dq, osq⟩, hw⟩ := hw
            subst hw
            go_wp2_with fail
            go_roundw
            case rel => exact ⟨i + 1, ta, tc, T, ka, kc, ks, es, pos, hil0, rfl, rfl, rfl, by go_num, Lib.hid (HIV.out.on (below_regrown V dq osq)).up⟩
            case measure => (simp only [intOf]; omega)
        by_cases z19 : z = 19
        · as_aux_lemma =>
            subst z19
            have hgap := HI.out.inv.gap HLK.out
            rw [← HCC.out] at hgap
            have g1 : decide (sq ≤ c) = false := decide_eq_false (by omega)
            clear hgap z18
            go_upto_region 36 with fail
            go_quiet (fail)
            go_upto_region 38 with fail
            generalize hV : w4.drewN nq = V
            have HBV := Lib.hid (drewN_b2 hV)
            clear hV d2 d3 cE
            have HIV := Lib.hid (HI4.out.on HBV.out)
            have HXV := Lib.hid (box_on HX4.out HBV.out)
            have hbx := Op10.cells HXV.out
            have d2 := hbx.c2
            have d3 := hbx.c3
            dsimp only at d2 d3
            have cE := HIV.out.cell hj64
            clear hbx
            rw [← HE0.out] at cE
            have r2 := cell_regrown d2
            have r3 := cell_regrown d3
            have rE := cell_regrown cE
            clear d2 d3 cE
            have QR := Lib.hid (rightT_q HIV.out.tb.any HIV.out.inv.right)
            refine wp_region_quiet_below (by kernel_rfl) (by kernel_rfl) ?_
            repeat (go_big_quiet_step (with_reducible exact QR.out _ _))
            refine wpQuiet_nil ?_
            intro _ hw
            obtain ⟨⟨dq, osq⟩, hw⟩ := hw
            subst hw
            go_wp2_with fail
            go_roundw
            case rel => exact ⟨i + 1, ta, tc, T, ka, kc, ks, es, pos, hil0, rfl, rfl, rfl, by go_num, Lib.hid (HIV.out.on (below_regrown V dq osq)).up⟩
            case measure => (simp only [intOf]; omega)
        by_cases z5 : z = 5
        · subst z5
          obtain ⟨h1, ⟨kk, hk1, hk2⟩, h3, h4⟩ := HI.out.inv.twice HLK.out
          rw [← HE0.out] at h1
          obtain ⟨f0, y, hf0, hy, hym, hys⟩ := HFF.out.elim (fun q => absurd hk2 (q.2 kk hk1)) (fun q => q)
          obtain ⟨kb, hkb, hkc⟩ := k_cells HI4.out.kr hy
          have kp := hkc.c3
          have hf64 : f0 < ks.length := (List.getElem?_eq_some_iff.1 hy).1
          subst h1 hf0 hkb
          have g1 : decide ((f0 : Int) < 0) = false := decide_eq_false (by omega)
          have hmx : max (f0 : Int) 0 = (f0 : Int) := by omega
          have hf65 : (f0 : Int) < (ks.length : Int) := by omega
          have hq0 : 0 ≤ sq := ((look_cases HLK.out).2.2 rfl).2.1
          have hwq : IntKind.i64.wrap (c - sq) = c - sq := by have := HFit.out.sq; unfold In64 at this; dsimp only at this; rw [IntKind.wrap_i64]; omega
          rw [← HCC.out] at h3 h4
          clear hkc hk1 hk2
          by_cases g20 : c - sq ≤ 20
          · as_aux_lemma =>
              have g2 : decide (c - sq ≤ 20) = true := decide_eq_true g20
              have g3 : decide (20 < c - sq) = false := decide_eq_false (by omega)
              have h5 := h3 g20 y hym hys
              subst h5
              clear h3 h4 z18 z19 g20 hym hys hy
              have g4 : (y.pos != y.pos) = false := by simp
              have g5 : (ep != ep) = false := by simp
              go_upto_region 36 with fail
              go_quiet (fail)
              go_upto_region 38 with fail
              generalize hV : w4.drewN nq = V
              have HBV := Lib.hid (drewN_b2 hV)
              clear hV d2 d3 cE
              have HIV := Lib.hid (HI4.out.on HBV.out)
              have HXV := Lib.hid (box_on HX4.out HBV.out)
              have hbx := Op10.cells HXV.out
              have d2 := hbx.c2
              have d3 := hbx.c3
              dsimp only at d2 d3
              have cE := HIV.out.cell hj64
              clear hbx
              rw [← HE0.out] at cE
              have r2 := cell_regrown d2
              have r3 := cell_regrown d3
              have rE := cell_regrown cE
              clear d2 d3 cE
              have QR := Lib.hid (rightT_q HIV.out.tb.any HIV.out.inv.right)
              refine wp_region_quiet_below (by kernel_rfl) (by kernel_rfl) ?_
              repeat (go_big_quiet_step (with_reducible exact QR.out _ _))
              refine wpQuiet_nil ?_
              intro _ hw
              obtain ⟨⟨dq, osq⟩, hw⟩ := hw
              subst hw
              go_wp2_with fail
              go_roundw
              case rel => exact ⟨i + 1, ta, tc, T, _, kc, ks, es, pos, hil0, rfl, rfl, rfl, by go_num, Lib.hid (HIV.out.on (below_regrown V dq osq)).up⟩
              case measure => (simp only [intOf]; omega)
          · as_aux_lemma =>
              have g2 : decide (c - sq ≤ 20) = false := decide_eq_false (by omega)
              have g3 : decide (20 < c - sq) = true := decide_eq_true (by omega)
              have h5 := h4 (by omega)
              subst h5
              clear h3 h4 z18 z19 g20 hym hys hy kp
              have g5 : (ep != ep) = false := by simp
              go_upto_region 36 with fail
              go_quiet (fail)
              go_upto_region 38 with fail
              generalize hV : w4.drewN nq = V
              have HBV := Lib.hid (drewN_b2 hV)
              clear hV d2 d3 cE
              have HIV := Lib.hid (HI4.out.on HBV.out)
              have HXV := Lib.hid (box_on HX4.out HBV.out)
              have hbx := Op10.cells HXV.out
              have d2 := hbx.c2
              have d3 := hbx.c3
              dsimp only at d2 d3
              have cE := HIV.out.cell hj64
              clear hbx
              rw [← HE0.out] at cE
              have r2 := cell_regrown d2
              have r3 := cell_regrown d3
              have rE := cell_regrown cE
              clear d2 d3 cE
              have QR := Lib.hid (rightT_q HIV.out.tb.any HIV.out.inv.right)
              refine wp_region_quiet_below (by kernel_rfl) (by kernel_rfl) ?_
              repeat (go_big_quiet_step (with_reducible exact QR.out _ _))
              refine wpQuiet_nil ?_
              intro _ hw
              obtain ⟨⟨dq, osq⟩, hw⟩ := hw
              subst hw
              go_wp2_with fail
              go_roundw
              case rel => exact ⟨i + 1, ta, tc, T, _, kc, ks, es, pos, hil0, rfl, rfl, rfl, by go_num, Lib.hid (HIV.out.on (below_regrown V dq osq)).up⟩
              case measure => (simp only [intOf]; omega)
        by_cases z0 : z = 0
        · as_aux_lemma =>
            subst z0
            obtain ⟨h1, h2, h3⟩ := HI.out.inv.next (by rw [HLK.out])
            obtain ⟨hf1, _⟩ := HFF.out.elim (fun q => q) (fun ⟨_, y, _, _, hym, hys⟩ => absurd hys (h3 y hym))
            rw [← HCC.out] at h1
            rw [← HE0.out] at h2
            subst h1 h2 hf1
            have g4 : (c != c) = false := by simp
            have g5 : (ep != ep) = false := by simp
            clear h3 z18 z19 z5
            go_upto_region 31 with fail
            go_quiet (fail)
            go_upto_region 33 with fail
            generalize hU : w4.drewN nq = U
            have HBU := Lib.hid (drewN_b2 hU)
            clear hU d2 d3 cE
            have HIU := Lib.hid (HI4.out.on HBU.out)
            have HXU := Lib.hid (box_on HX4.out HBU.out)
            have hbx := Op10.cells HXU.out
            have d2 := hbx.c2
            have d3 := hbx.c3
            have d4 := hbx.c4
            dsimp only at d2 d3 d4
            have cE := HIU.out.cell hj64
            clear hbx
            obtain ⟨ff, hff⟩ : ∃ ff, far % 256 = ff := ⟨_, rfl⟩
            have hb255 : bits .and .i64 far 255 = ff := by rw [i64_and255, hff]
            have hp0 := HI.out.p0
            have hp1 := HI.out.p1
            have hf0 : 0 ≤ ff := by omega
            have hf1 : ff < 256 := by omega
            have hwa : IntKind.i64.wrap (pos + 1) = pos + 1 := by rw [IntKind.wrap_i64]; omega
            have hwb : IntKind.i64.wrap (pos + 1 + ff) = pos + 1 + ff := by rw [IntKind.wrap_i64]; omega
            clear hff
            go_upto_region 34 with fail
            have HP := Lib.hid (And.intro hf0 hf1)
            have HX6 := HXU
            have Q5 := Lib.hid (record_c (j : Int) ep c U)
            clear hb255 hwa hwb hf0 hf1 hp0 hp1 cE
            go_upto_region 35 with (first
              | (go_at_call 8; refine Q5.out.mono ?_; rintro r w6 ⟨rfl, hb6⟩; have HI6 := Lib.hid (HIU.out.on hb6); have HX6 := Lib.hid (box_on HXU.out hb6); have HB6 := Lib.hid hb6; clear hb6 d2 d3 d4; have Q6 := Lib.hid (put_c HI6.out.tb.any HI6.out.inv.right (recE (j : Int) ep c) (pos + 1 + ff)))
              | (go_at_call 9; (with_reducible refine Q6.out.mono ?_); rintro r w7 ⟨⟨a2, c2, T2, rfl, e2, t2⟩, hb7⟩))
            have HI7 := Lib.hid (HI6.out.on hb7)
            have HX7 := Lib.hid (box_on HX6.out hb7)
            have HB7 := Lib.hid (HB6.out.trans (hb7.mono HB6.out.size))
            have HE2 := Lib.hid e2
            have HT2 := Lib.hid (t2.mono (G' := fun b => U.heap.size ≤ b) (fun b hb' => Nat.le_trans HB6.out.size hb'))
            clear hb7 e2 t2
            obtain ⟨a3, c3, w9, hr, hk9, hbl9, h49⟩ := app_k (w7.alloc (.cells #[.int .i64 (j : Int), .int .i64 ep, .int .i64 c, .int .i64 (pos + 1 + ff)] 39)) w.heap.size _ ks ⟨(j : Int), ep, c, pos + 1 + ff⟩ w7.heap.size (box_new w7 _) (own_kept HI7.out.kr (Kept.alloc (fun _ => False) _ _) (fun _ _ e => e)) (by omega) (by have := HI7.out.below.size; simp; omega)
            have hb8 := below_new w7 (.cells #[.int .i64 (j : Int), .int .i64 ep, .int .i64 c, .int .i64 (pos + 1 + ff)] 39)
            have HI9 := Lib.hid (OnceIs.stored (j := (j : Int)) (e := ep) (q := c) HIU.out HB7.out (by rw [HLK.out]) HE2.out HT2.out (show pos < pos + 1 + ff by have := HP.out.1; omega) (by have := HP.out.2; omega) (by omega) hb8 hk9 hbl9 h49)
            have HX9 := Lib.hid (h49.heap (box_on HX7.out hb8) (fun e => by have := own_lt (own_base HI.out.kr) e; omega))
            have HR := Lib.hid hr
            have hbx := Op10.cells HX7.out
            have d2 := hbx.c2
            have d3 := hbx.c3
            dsimp only at d2 d3
            clear hr hk9 hbl9 h49 hb8 hbx
            go_upto_region 36 with (at_builtin; refine Lib.wpList_append_run _ rfl _ _ _ _ rfl _ _ rfl rfl _ w9 HR.out ?_)
            clear d2 d3
            have hbx := Op10.cells HX9.out
            have d2 := hbx.c2
            have d3 := hbx.c3
            dsimp only at d2 d3
            have cE := HI9.out.cell hj64
            clear hbx
            go_quiet (fail)
            go_upto_region 38 with fail
            generalize hV : w9.drewN nq = V
            have HBV := Lib.hid (drewN_b2 hV)
            clear hV d2 d3 cE
            have HIV := Lib.hid (HI9.out.on HBV.out)
            have HXV := Lib.hid (box_on HX9.out HBV.out)
            have hbx := Op10.cells HXV.out
            have d2 := hbx.c2
            have d3 := hbx.c3
            dsimp only at d2 d3
            have cE := HIV.out.cell hj64
            clear hbx
            have r2 := cell_regrown d2
            have r3 := cell_regrown d3
            have rE := cell_regrown cE
            clear d2 d3 cE
            have QR := Lib.hid (rightT_q HIV.out.tb.any HIV.out.inv.right)
            refine wp_region_quiet_below (by kernel_rfl) (by kernel_rfl) ?_
            repeat (go_big_quiet_step (with_reducible exact QR.out _ _))
            refine wpQuiet_nil ?_
            intro _ hw
            obtain ⟨⟨dq, osq⟩, hw⟩ := hw
            subst hw
            go_wp2_with fail
            go_roundw
            case rel => exact ⟨i + 1, a2, c2, T2, a3, c3, _, es, pos + 1 + ff, hil0, rfl, by rw [List.length_append]; rfl, rfl, by go_num, Lib.hid (HIV.out.on (below_regrown V dq osq))⟩
            case measure => (simp only [intOf]; omega)
        · as_aux_lemma =>
            have g0 : (z == 0) = false := by simpa using z0
            have g1 : (z == 5) = false := by simpa using z5
            have g2 : (z == 18) = false := by simpa using z18
            have g3 : (z == 19) = false := by simpa using z19
            clear z0 z5 z18 z19
            go_upto_region 36 with fail
            go_quiet (fail)
            go_upto_region 38 with fail
            generalize hV : w4.drewN nq = V
            have HBV := Lib.hid (drewN_b2 hV)
            clear hV d2 d3 cE
            have HIV := Lib.hid (HI4.out.on HBV.out)
            have HXV := Lib.hid (box_on HX4.out HBV.out)
            have hbx := Op10.cells HXV.out
            have d2 := hbx.c2
            have d3 := hbx.c3
            dsimp only at d2 d3
            have cE := HIV.out.cell hj64
            clear hbx
            rw [← HE0.out] at cE
            have r2 := cell_regrown d2
            have r3 := cell_regrown d3
            have rE := cell_regrown cE
            clear d2 d3 cE
            have QR := Lib.hid (rightT_q HIV.out.tb.any HIV.out.inv.right)
            refine wp_region_quiet_below (by kernel_rfl) (by kernel_rfl) ?_
            repeat (go_big_quiet_step (with_reducible exact QR.out _ _))
            refine wpQuiet_nil ?_
            intro _ hw
            obtain ⟨⟨dq, osq⟩, hw⟩ := hw
            subst hw
            go_wp2_with fail
            go_roundw
            case rel => exact ⟨i + 1, ta, tc, T, ka, kc, ks, es, pos, hil0, rfl, rfl, rfl, by go_num, Lib.hid (HIV.out.on (below_regrown V dq osq)).up⟩
            case measure => (simp only [intOf]; omega)
end Go.Proofs.Ytlfjbiiacnikhaa
