/-
  IntakeFinal: the records up to Closed are final.
-/
import Derived.Test.YtmgpfkckafdbmaaIFinalM
namespace Go.Proofs.Ytmgpfkckafdbmaa
set_option maxRecDepth 100000
open Go Go.RowKit Vl

set_option maxHeartbeats 16000000 in
theorem final_law {w : World} {x : Cfg} (hxf : x.fit) {v : Value} {l : List EIn} (h : EntsIn w v l) :
    Calls Try.prog 3 #[x.val, v] w fun r w' => r = .returned (.bool true) ∧ Below w.heap.size w w' := by
  obtain ⟨W1, hW1⟩ : ∃ W1, W1 = w.alloc x.obj := ⟨_, rfl⟩
  have hb1 : Below w.heap.size w W1 := by rw [hW1]; exact below_new w _
  have hx1 : W1.heap[w.heap.size]? = some x.obj := by rw [hW1]; exact box_new w _
  have HB1 := Lib.hid hb1
  have HX1 := Lib.hid hx1
  have HXF := Lib.hid hxf
  have QS := Lib.hid (small_cI W1)
  have QF := Lib.hid (fun (W : World) (hW : Below w.heap.size w W) => fewI_c (w := W) (v := v) (l := l) (by
    obtain ⟨h1, a, c, h2, h3⟩ := h
    refine ⟨h1, a, c, h2, fun i x hx => ?_⟩
    obtain ⟨b, off, g1, g2, g3, g4⟩ := h3 i x hx
    exact ⟨b, off, g1, g2.on hW, g3.on hW (Nat.le_refl _), g4⟩) 150)
  obtain ⟨hlen, oa, oc, rfl, hops⟩ := h
  obtain ⟨n, hn⟩ : ∃ n, n = l.length := ⟨_, rfl⟩
  have HN := Lib.hid hn
  have HO := Lib.hid hops
  rw [← hn] at hlen QF ⊢
  obtain ⟨cf, hcf⟩ : ∃ cf, cf = fewI l 150 := ⟨_, rfl⟩
  have HCF := Lib.hid hcf
  rw [← hcf] at QF
  have hv : x.val = .agg #[.int .i64 x.parts, .int .i64 x.c.delay, .int .i64 x.c.late, .int .i64 x.c.ahead, .int .i64 x.c.rate, .int .i64 x.span] := rfl
  unfold Cfg.obj at hW1
  rw [hv]
  clear hn hops hcf hb1 hx1 hxf hv
  go_enter Try.func3, Try.ntmps3
  go_upto_region 1 with fail
  rw [← hW1]
  clear hW1
  go_upto_region 2 with (go_at_call 5; refine QS.out.mono ?_; rintro r w2 ⟨rfl, hb2⟩; have HB2 := Lib.hid (HB1.out.trans (hb2.mono HB1.out.size)); have HX2 := Lib.hid (box_on HX1.out hb2); clear hb2)
  have hcc := Cfg.cells HX2.out
  have c0 := hcc.c0
  have c1 := hcc.c1
  have c2 := hcc.c2
  have c3 := hcc.c3
  have c4 := hcc.c4
  have c5 := hcc.c5
  clear hcc
  have QK := Lib.hid ((known_c w2.drew).mono (R' := fun r u => ∃ a c, r = .returned (.slice a 2 c) ∧ CfgAt u w.heap.size x ∧ Hid (u.heap[w.heap.size]? = some x.obj ∧ Below w.heap.size w u ∧ ∃ K : List KP, K.map KP.core = core0 ∧ Kns (fun k => w2.drew.heap.size ≤ k) u a c K)) (fun r u hh => by
    obtain ⟨a, c, g1, g2, g3⟩ := hh
    have q : Below w2.heap.size w2 u := (below_drew (Below.refl _ w2)).trans g3
    have qx := box_on HX2.out q
    exact ⟨a, c, g1, Cfg.cells qx, Lib.hid ⟨qx, HB2.out.trans (q.mono HB2.out.size), g2.out⟩⟩))
  by_cases hr : x.c.right
  · as_aux_lemma =>
      have HR := Lib.hid hr
      clear hr
      go_cut [6] (fun v6 wx => ∃ w4 b p, v6 = .pointer (some ⟨b, 0, none⟩) ∧ wx = w4 ∧ Hid (FinIs w w4 x b p.mb p In.new [] none 0 0))
      case first =>
        go_region_with (first
          | (go_at_call 7; refine QK.out.mono ?_; rintro r u0 ⟨ka, kc, rfl, HC, HK⟩
             have d0 := HC.c0
             have d1 := HC.c1
             have d2 := HC.c2
             have d3 := HC.c3
             have d4 := HC.c4
             have d5 := HC.c5
             have qn := new_hold x (w0 := w) HK.out.2.2 HR.out HK.out.2.1
             unfold Cfg.val at qn
             have QN := Lib.hid qn
             clear qn HC)
          | (go_at_call 6; (with_reducible refine QN.out.mono ?_); rintro r w4 ⟨b, p, rfl, HH⟩))
        all_goals (go_wp2_with fail)
        all_goals go_meet
        all_goals exact ⟨w4, b, p, rfl, rfl, Lib.hid (fin_new HK.out.1 HR.out HK.out.2.1 HH.out)⟩
      case rest =>
        obtain ⟨_, b, p, rfl, rfl, HI⟩ := hcut
        obtain ⟨w4, hw4⟩ : ∃ w4, w4 = wc := ⟨wc, rfl⟩
        subst hw4
        obtain ⟨mb, hmb⟩ : ∃ mb, mb = p.mb := ⟨_, rfl⟩
        rw [← hmb] at HI
        clear hmb c0 c1 c2 c3 c4 c5 QK
        have QF4 := Lib.hid (QF.out w4 HI.out.below)
        cases cf with
        | false =>
          go_wp2_with (go_at_call 8; refine QF4.out.mono ?_; rintro r w5 ⟨rfl, hw⟩; rw [hw]; clear hw)
          go_ret
          exact ⟨rfl, HI.out.below⟩
        | true =>
          have hn150 : n ≤ 150 := by
            have := fewI_len HCF.out.symm
            rw [HN.out]
            exact this
          clear QF
          go_upto_region 7 with (go_at_call 8; refine QF4.out.mono ?_; rintro r w5 ⟨rfl, hw⟩; rw [hw]; clear hw)
          go_loopw [7, 8] (fun v7 v8 wr => ∃ (i : Nat) (p : IP) (s : In.St) (ts : List Int) (ta : Option Addr) (tc : Nat), i ≤ n ∧ v7 = .slice ta ts.length tc ∧ v8 = .int .i64 (i : Int) ∧ Hid (FinIs w wr x b mb p s ts ta tc i ∧ In.Had x.c s ts ∧ ∀ t ∈ ts, 0 ≤ t)) (fun _ v8 _ => n - (intOf v8).toNat)
          case atStart => exact ⟨0, p, In.new, [], none, 0, Nat.zero_le _, rfl, rfl, Lib.hid ⟨HI.out, In.had_new HR.out, fun t ht => by cases ht⟩⟩
          case round =>
            obtain ⟨i, p1, s, ts, ta, tc, hi, rfl, rfl, HF⟩ := hrel
            obtain ⟨w5, hw5⟩ : ∃ w5, w5 = wr := ⟨wr, rfl⟩
            subst hw5
            by_cases hin : i < n
            · have hin' : (i : Int) < (n : Int) := by omega
              obtain ⟨y, hy⟩ : ∃ y, l[i]? = some y := ⟨l[i]'(by have := HN.out; omega), List.getElem?_eq_getElem _⟩
              obtain ⟨eb, eo, rfl, he, hrow, hrn, hfit⟩ := HO.out i y hy
              have QC := Lib.hid (closed_cI HF.out.1.hold.at' HF.out.1.iv.sm)
              obtain ⟨K0, hK0⟩ : ∃ K0, K0 = In.closed x.c s := ⟨_, rfl⟩
              obtain ⟨M0, hM0⟩ : ∃ M0, M0 = In.mark x.c s := ⟨_, rfl⟩
              obtain ⟨T0, hT0⟩ : ∃ T0, T0 = s.top := ⟨_, rfl⟩
              have HK0 := Lib.hid hK0
              have HM0 := Lib.hid hM0
              have HT0 := Lib.hid hT0
              rw [← hK0] at QC
              clear hK0 hM0 hT0
              go_upto_region 12 with (first
                | (go_at_call 10; (with_reducible refine QC.out.mono ?_); rintro r w6 ⟨rfl, m6, hw6⟩
                   have HB6 := Lib.hid (show Below w5.heap.size w5 w6 by rw [hw6]; exact drew_below _ _)
                   have HF6 := Lib.hid (HF.out.1.on HB6.out)
                   have qm := mark_cI HF6.out.hold.at' HF6.out.iv.sm
                   rw [← HM0.out] at qm
                   have QM := Lib.hid qm
                   clear hw6 qm)
                | (go_at_call 11; (with_reducible refine QM.out.mono ?_); rintro r w7 ⟨rfl, m7, hw7⟩
                   have HB7 := Lib.hid (show Below w6.heap.size w6 w7 by rw [hw7]; exact drew_below _ _)
                   have HF7 := Lib.hid (HF6.out.on HB7.out)
                   have qt := top_cI HF7.out.hold.at'
                   rw [← HT0.out] at qt
                   have QT := Lib.hid qt
                   clear hw7 qt)
                | (go_at_call 12; (with_reducible refine QT.out.mono ?_); rintro r w8 ⟨rfl, hw8⟩; rw [hw8]; clear hw8))
              have hbw := HF7.out.below
              have he7 := he.on hbw
              have o0 := he7.c0
              have o1 := he7.c1
              have o2 := he7.c2
              have o3 := he7.c3
              have o4 := he7.c4
              have o5 := he7.c5
              have o6 := he7.c6
              have o7 := he7.c7
              have qa := HF7.out.hold.apply HF7.out.iv (e := y.e) (row := y.row) ⟨hrow.on hbw (Nat.le_refl _), hrn, hfit.tm⟩
              have HE := Lib.hid he
              have HTM := Lib.hid hfit.tm
              obtain ⟨en, hen⟩ : ∃ en, en = enOf ks0 y.e y.row := ⟨_, rfl⟩
              rw [← hen] at qa
              obtain ⟨⟨kd, pr, ep, sq, src, sc, tm, ra, rn, rc⟩, row⟩ := y
              have HEK := Lib.hid (show en.kd = kd by rw [hen]; rfl)
              have HET := Lib.hid (show en.tm = tm by rw [hen]; rfl)
              unfold EE.val at qa
              dsimp only at *
              obtain ⟨n1, hn1⟩ : ∃ n1, n1 = (In.apply x.c s en).2.1 := ⟨_, rfl⟩
              obtain ⟨z1, hz1⟩ : ∃ z1, z1 = (In.apply x.c s en).2.2 := ⟨_, rfl⟩
              have HZ := Lib.hid hz1
              rw [← hn1, ← hz1] at qa
              have QA := Lib.hid qa
              have HFS := Lib.hid (In.final_step HR.out HF.out.1.iv.ok HF.out.2.1 en)
              clear hy he hrow hrn hfit hbw he7 hen qa hn1 hz1
              go_upto_region 13 with (go_at_call 13; (with_reducible refine QA.out.mono ?_); rintro r w9 ⟨rfl, HH⟩)
              obtain ⟨p2, hp2⟩ := HH.out
              have HF9 := Lib.hid (HF7.out.apply (by omega) en hp2)
              clear hp2 HH QA QT QM QC o0 o1 o2 o3 o4 o5 o6 o7
              have he9 := HE.out.on HF9.out.below
              have o0 := he9.c0
              have o6 := he9.c6
              dsimp only at o0 o6
              clear he9
              by_cases hkd : kd = 0
              · as_aux_lemma =>
                  subst hkd
                  by_cases hzz : z1 = 0
                  · as_aux_lemma =>
                      subst hzz
                      have HS2 := Lib.hid (HFS.out.2.2.2.2.2.1 HEK.out HZ.out.symm)
                      have HADD := Lib.hid (show In.Had x.c (In.apply x.c s en).1 (ts ++ [tm]) by
                        have := HFS.out.2.2.2.2.2.2.2
                        rw [if_pos ⟨HEK.out, HZ.out.symm⟩, HET.out] at this
                        exact this)
                      have HPOS := Lib.hid (show ∀ t ∈ ts ++ [tm], 0 ≤ t from fun t ht => by
                        rcases List.mem_append.1 ht with f | f
                        · exact HF.out.2.2 t f
                        · rw [List.mem_singleton.1 f]
                          have h1 := HS2.out.1
                          rw [HET.out] at h1
                          unfold In.closed at h1
                          omega)
                      have g1 : ¬ tm ≤ K0 := by have := HS2.out.1; rw [HET.out, ← HK0.out] at this; omega
                      obtain ⟨N1, hN1⟩ : ∃ N1, N1 = (In.apply x.c s en).1.now := ⟨_, rfl⟩
                      have g2 : ¬ N1 + x.c.ahead < tm := by have := HS2.out.2; rw [HET.out, ← hN1] at this; omega
                      have g3 : IntKind.i64.wrap (N1 + x.c.ahead) = N1 + x.c.ahead := by
                        have h1 := HF9.out.iv.ok.now
                        have h2 := HR.out
                        unfold Pq.inB at h1
                        unfold In.C.right at h2
                        rw [← hN1] at h1
                        rw [IntKind.wrap_i64]; omega
                      have QN := Lib.hid (fun m => now_cI (HF9.out.hold.at'.drewN m))
                      rw [← hN1] at QN
                      have c3 := (Cfg.cells HF9.out.box).c3
                      clear hN1
                      go_upto_region 14 with fail
                      go_quiet ((go_at_call 14; exact Calls.quiet_of_same (QN.out _)))
                      obtain ⟨wn, hwn⟩ : ∃ wn, wn = w9.drewN nq := ⟨_, rfl⟩
                      have HBN := Lib.hid (show Below w9.heap.size w9 wn by rw [hwn]; exact drew_below _ _)
                      rw [← hwn]
                      clear hwn o0 o6 c3 g1 g2 g3
                      have HFN := Lib.hid (HF9.out.on HBN.out)
                      have o6 := (HE.out.on HFN.out.below).c6
                      dsimp only at o6
                      obtain ⟨ta2, tc2, wq, happ, hrow2, hob2, hk2⟩ := app_numI (wn.alloc (.cells #[.int .i64 tm] 3)) w.heap.size (.slice ta ts.length tc) ts tm wn.heap.size (box_new wn _) (HFN.out.on (below_new wn _)).row (by have := HF.out.1.tl; omega) (by have := HFN.out.below.size; simp; omega)
                      have HA := Lib.hid ((HFN.out.on (below_new wn (.cells #[.int .i64 tm] 3))).app HF.out.1.tl hrow2 hob2 hk2)
                      have HAPP := Lib.hid happ
                      have hl2 : (ts ++ [tm]).length = ts.length + 1 := by rw [List.length_append, List.length_singleton]
                      have HL2 := Lib.hid hl2
                      clear happ hrow2 hob2 hk2 hl2
                      go_upto_region 17 with (at_builtin; refine Lib.wpList_append_run _ rfl _ _ _ _ rfl _ _ rfl rfl _ wq HAPP.out ?_)
                      rw [← HL2.out]
                      have HQ := Lib.hid HA.out
                      have QC := Lib.hid (fun m => closed_cI (HQ.out.hold.at'.drewN m) HQ.out.iv.sm)
                      have QM := Lib.hid (fun m => mark_cI (HQ.out.hold.at'.drewN m) HQ.out.iv.sm)
                      have QT := Lib.hid (fun m => top_cI (HQ.out.hold.at'.drewN m))
                      obtain ⟨K1, hK1⟩ : ∃ K1, K1 = In.closed x.c (In.apply x.c s en).1 := ⟨_, rfl⟩
                      obtain ⟨M1, hM1⟩ : ∃ M1, M1 = In.mark x.c (In.apply x.c s en).1 := ⟨_, rfl⟩
                      obtain ⟨T1, hT1⟩ : ∃ T1, T1 = (In.apply x.c s en).1.top := ⟨_, rfl⟩
                      rw [← hK1] at QC
                      rw [← hM1] at QM
                      rw [← hT1] at QT
                      have k1 : ¬ K1 < K0 := by have := HFS.out.1; rw [← hK1, ← HK0.out] at this; omega
                      have k2 : ¬ M1 < M0 := by have := HFS.out.2.1; rw [← hM1, ← HM0.out] at this; omega
                      have k3 : ¬ T1 < T0 := by have := HFS.out.2.2.1; rw [← hT1, ← HT0.out] at this; omega
                      have k4 : ¬ M1 < K1 := by have := HFS.out.2.2.2.1; rw [← hK1, ← hM1] at this; omega
                      have k5 : 0 ≤ T1 → ¬ T1 ≤ M1 := by have := HFS.out.2.2.2.2.1; rw [← hM1, ← hT1] at this; intro f; have := this f; omega
                      have K5 := Lib.hid k5
                      clear hK1 hM1 hT1 k5
                      rw [show wq = wq.drewN 0 from rfl]
                      by_cases ht0 : 0 ≤ T1
                      · as_aux_lemma =>
                          have k6 := K5.out ht0
                          go_wp2_with (first
                            | (go_at_call 10; refine (QC.out _).mono ?_; rintro r wz ⟨rfl, mz, hwz⟩; rw [hwz, World.drewN_drewN]; clear hwz)
                            | (go_at_call 11; refine (QM.out _).mono ?_; rintro r wz ⟨rfl, mz, hwz⟩; rw [hwz, World.drewN_drewN]; clear hwz)
                            | (go_at_call 12; refine (QT.out _).mono ?_; rintro r wz ⟨rfl, hwz⟩; rw [hwz]; clear hwz))
                          go_roundw
                          case rel => exact ⟨i + 1, p2, _, (ts ++ [tm]), ta2, tc2, hin, (by rw [HL2.out]), by go_num, Lib.hid ⟨HQ.out.on (drew_below _ _), HADD.out, HPOS.out⟩⟩
                          case measure => (simp only [intOf]; omega)
                      · as_aux_lemma =>
                          go_wp2_with (first
                            | (go_at_call 10; refine (QC.out _).mono ?_; rintro r wz ⟨rfl, mz, hwz⟩; rw [hwz, World.drewN_drewN]; clear hwz)
                            | (go_at_call 11; refine (QM.out _).mono ?_; rintro r wz ⟨rfl, mz, hwz⟩; rw [hwz, World.drewN_drewN]; clear hwz)
                            | (go_at_call 12; refine (QT.out _).mono ?_; rintro r wz ⟨rfl, hwz⟩; rw [hwz]; clear hwz))
                          go_roundw
                          case rel => exact ⟨i + 1, p2, _, (ts ++ [tm]), ta2, tc2, hin, (by rw [HL2.out]), by go_num, Lib.hid ⟨HQ.out.on (drew_below _ _), HADD.out, HPOS.out⟩⟩
                          case measure => (simp only [intOf]; omega)

                  · as_aux_lemma =>
                      have hz0 : (z1 == 0) = false := by simpa using hzz
                      have HHAD := Lib.hid (show In.Had x.c (In.apply x.c s en).1 ts by
                        have := HFS.out.2.2.2.2.2.2.2
                        rw [if_neg (fun f => hzz (HZ.out.trans f.2))] at this
                        exact this)
                      obtain ⟨wq, hwq⟩ : ∃ wq, wq = w9 := ⟨w9, rfl⟩
                      subst hwq
                      go_upto_region 17 with fail
                      have HQ := Lib.hid HF9.out
                      have QC := Lib.hid (fun m => closed_cI (HQ.out.hold.at'.drewN m) HQ.out.iv.sm)
                      have QM := Lib.hid (fun m => mark_cI (HQ.out.hold.at'.drewN m) HQ.out.iv.sm)
                      have QT := Lib.hid (fun m => top_cI (HQ.out.hold.at'.drewN m))
                      obtain ⟨K1, hK1⟩ : ∃ K1, K1 = In.closed x.c (In.apply x.c s en).1 := ⟨_, rfl⟩
                      obtain ⟨M1, hM1⟩ : ∃ M1, M1 = In.mark x.c (In.apply x.c s en).1 := ⟨_, rfl⟩
                      obtain ⟨T1, hT1⟩ : ∃ T1, T1 = (In.apply x.c s en).1.top := ⟨_, rfl⟩
                      rw [← hK1] at QC
                      rw [← hM1] at QM
                      rw [← hT1] at QT
                      have k1 : ¬ K1 < K0 := by have := HFS.out.1; rw [← hK1, ← HK0.out] at this; omega
                      have k2 : ¬ M1 < M0 := by have := HFS.out.2.1; rw [← hM1, ← HM0.out] at this; omega
                      have k3 : ¬ T1 < T0 := by have := HFS.out.2.2.1; rw [← hT1, ← HT0.out] at this; omega
                      have k4 : ¬ M1 < K1 := by have := HFS.out.2.2.2.1; rw [← hK1, ← hM1] at this; omega
                      have k5 : 0 ≤ T1 → ¬ T1 ≤ M1 := by have := HFS.out.2.2.2.2.1; rw [← hM1, ← hT1] at this; intro f; have := this f; omega
                      have K5 := Lib.hid k5
                      clear hK1 hM1 hT1 k5
                      rw [show wq = wq.drewN 0 from rfl]
                      by_cases ht0 : 0 ≤ T1
                      · as_aux_lemma =>
                          have k6 := K5.out ht0
                          go_wp2_with (first
                            | (go_at_call 10; refine (QC.out _).mono ?_; rintro r wz ⟨rfl, mz, hwz⟩; rw [hwz, World.drewN_drewN]; clear hwz)
                            | (go_at_call 11; refine (QM.out _).mono ?_; rintro r wz ⟨rfl, mz, hwz⟩; rw [hwz, World.drewN_drewN]; clear hwz)
                            | (go_at_call 12; refine (QT.out _).mono ?_; rintro r wz ⟨rfl, hwz⟩; rw [hwz]; clear hwz))
                          go_roundw
                          case rel => exact ⟨i + 1, p2, _, ts, ta, tc, hin, rfl, by go_num, Lib.hid ⟨HQ.out.on (drew_below _ _), HHAD.out, HF.out.2.2⟩⟩
                          case measure => (simp only [intOf]; omega)
                      · as_aux_lemma =>
                          go_wp2_with (first
                            | (go_at_call 10; refine (QC.out _).mono ?_; rintro r wz ⟨rfl, mz, hwz⟩; rw [hwz, World.drewN_drewN]; clear hwz)
                            | (go_at_call 11; refine (QM.out _).mono ?_; rintro r wz ⟨rfl, mz, hwz⟩; rw [hwz, World.drewN_drewN]; clear hwz)
                            | (go_at_call 12; refine (QT.out _).mono ?_; rintro r wz ⟨rfl, hwz⟩; rw [hwz]; clear hwz))
                          go_roundw
                          case rel => exact ⟨i + 1, p2, _, ts, ta, tc, hin, rfl, by go_num, Lib.hid ⟨HQ.out.on (drew_below _ _), HHAD.out, HF.out.2.2⟩⟩
                          case measure => (simp only [intOf]; omega)

              · as_aux_lemma =>
                  have hkd0 : (kd == 0) = false := by simpa using hkd
                  have HHAD := Lib.hid (show In.Had x.c (In.apply x.c s en).1 ts by
                    have := HFS.out.2.2.2.2.2.2.2
                    rw [if_neg (fun f => hkd (HEK.out.symm.trans f.1))] at this
                    exact this)
                  obtain ⟨wq, hwq⟩ : ∃ wq, wq = w9 := ⟨w9, rfl⟩
                  subst hwq
                  clear hkd
                  go_upto_region 17 with fail
                  have HQ := Lib.hid HF9.out
                  have QC := Lib.hid (fun m => closed_cI (HQ.out.hold.at'.drewN m) HQ.out.iv.sm)
                  have QM := Lib.hid (fun m => mark_cI (HQ.out.hold.at'.drewN m) HQ.out.iv.sm)
                  have QT := Lib.hid (fun m => top_cI (HQ.out.hold.at'.drewN m))
                  obtain ⟨K1, hK1⟩ : ∃ K1, K1 = In.closed x.c (In.apply x.c s en).1 := ⟨_, rfl⟩
                  obtain ⟨M1, hM1⟩ : ∃ M1, M1 = In.mark x.c (In.apply x.c s en).1 := ⟨_, rfl⟩
                  obtain ⟨T1, hT1⟩ : ∃ T1, T1 = (In.apply x.c s en).1.top := ⟨_, rfl⟩
                  rw [← hK1] at QC
                  rw [← hM1] at QM
                  rw [← hT1] at QT
                  have k1 : ¬ K1 < K0 := by have := HFS.out.1; rw [← hK1, ← HK0.out] at this; omega
                  have k2 : ¬ M1 < M0 := by have := HFS.out.2.1; rw [← hM1, ← HM0.out] at this; omega
                  have k3 : ¬ T1 < T0 := by have := HFS.out.2.2.1; rw [← hT1, ← HT0.out] at this; omega
                  have k4 : ¬ M1 < K1 := by have := HFS.out.2.2.2.1; rw [← hK1, ← hM1] at this; omega
                  have k5 : 0 ≤ T1 → ¬ T1 ≤ M1 := by have := HFS.out.2.2.2.2.1; rw [← hM1, ← hT1] at this; intro f; have := this f; omega
                  have K5 := Lib.hid k5
                  clear hK1 hM1 hT1 k5
                  rw [show wq = wq.drewN 0 from rfl]
                  by_cases ht0 : 0 ≤ T1
                  · as_aux_lemma =>
                      have k6 := K5.out ht0
                      go_wp2_with (first
                        | (go_at_call 10; refine (QC.out _).mono ?_; rintro r wz ⟨rfl, mz, hwz⟩; rw [hwz, World.drewN_drewN]; clear hwz)
                        | (go_at_call 11; refine (QM.out _).mono ?_; rintro r wz ⟨rfl, mz, hwz⟩; rw [hwz, World.drewN_drewN]; clear hwz)
                        | (go_at_call 12; refine (QT.out _).mono ?_; rintro r wz ⟨rfl, hwz⟩; rw [hwz]; clear hwz))
                      go_roundw
                      case rel => exact ⟨i + 1, p2, _, ts, ta, tc, hin, rfl, by go_num, Lib.hid ⟨HQ.out.on (drew_below _ _), HHAD.out, HF.out.2.2⟩⟩
                      case measure => (simp only [intOf]; omega)
                  · as_aux_lemma =>
                      go_wp2_with (first
                        | (go_at_call 10; refine (QC.out _).mono ?_; rintro r wz ⟨rfl, mz, hwz⟩; rw [hwz, World.drewN_drewN]; clear hwz)
                        | (go_at_call 11; refine (QM.out _).mono ?_; rintro r wz ⟨rfl, mz, hwz⟩; rw [hwz, World.drewN_drewN]; clear hwz)
                        | (go_at_call 12; refine (QT.out _).mono ?_; rintro r wz ⟨rfl, hwz⟩; rw [hwz]; clear hwz))
                      go_roundw
                      case rel => exact ⟨i + 1, p2, _, ts, ta, tc, hin, rfl, by go_num, Lib.hid ⟨HQ.out.on (drew_below _ _), HHAD.out, HF.out.2.2⟩⟩
                      case measure => (simp only [intOf]; omega)

            · as_aux_lemma =>
                have hin' : ¬ (i : Int) < (n : Int) := by omega
                obtain ⟨T, hT⟩ : ∃ T, T = ts.length := ⟨_, rfl⟩
                have HTL := Lib.hid hT
                have htl : T ≤ 1000 := by have := HF.out.1.tl; omega
                have HFI := Lib.hid (fun (t : Int) (hm : t ∈ ts) => In.final_end HF.out.1.iv.ok HF.out.2.1 hm)
                have HF1 := Lib.hid HF.out.1
                rw [← hT]
                clear hT
                go_wp2_with fail
                go_loopw [14] (fun v14 wr => ∃ k : Nat, k ≤ T ∧ v14 = .int .i64 (k : Int) ∧ Hid (FinIs w wr x b mb p1 s ts ta tc i)) (fun v14 _ => T - (intOf v14).toNat)
                case atStart => exact ⟨0, Nat.zero_le _, rfl, HF1⟩
                case round =>
                  obtain ⟨k, hk, rfl, HG⟩ := hrel
                  obtain ⟨w6, hw6⟩ : ∃ w6, w6 = wr := ⟨wr, rfl⟩
                  subst hw6
                  by_cases hkT : k < T
                  · have hkT' : (k : Int) < (T : Int) := by omega
                    obtain ⟨t, ht⟩ : ∃ t, ts[k]? = some t := ⟨ts[k]'(by have := HTL.out; omega), List.getElem?_eq_getElem _⟩
                    have HT := Lib.hid ht
                    have htb : -1 ≤ t ∧ t ≤ 1099511627776 := by
                      obtain ⟨h1, h2, h3, h4⟩ := HFI.out t (List.mem_of_getElem? ht)
                      have h5 := HF.out.2.2 t (List.mem_of_getElem? ht)
                      have h6 := HF.out.1.iv.ok.top
                      omega
                    clear ht
                    go_wp2_with fail
                    go_loopw [15, 16] (fun v15 v16 wr => ∃ (q : Nat) (e : Int), q ≤ T ∧ v15 = .int .i64 e ∧ v16 = .int .i64 (q : Int) ∧ 0 ≤ e ∧ e ≤ (q : Int) ∧ Hid (e = In.occ (ts.take q) t ∧ FinIs w wr x b mb p1 s ts ta tc i)) (fun _ v16 _ => T - (intOf v16).toNat)
                    case atStart => exact ⟨0, 0, Nat.zero_le _, rfl, rfl, Int.le_refl _, Int.le_refl _, Lib.hid ⟨rfl, HG.out⟩⟩
                    case round =>
                      obtain ⟨q, e, hq, rfl, rfl, he0, heq, HE⟩ := hrel
                      obtain ⟨w7, hw7⟩ : ∃ w7, w7 = wr := ⟨wr, rfl⟩
                      subst hw7
                      obtain ⟨g, hta, hg⟩ : ∃ g, ta = some ⟨g, 0, none⟩ ∧ ∀ (j : Nat) (u : Int), ts[j]? = some u → w7.cell? ⟨g, j, none⟩ = some (.int .i64 u) := by
                        obtain ⟨g, h1, _⟩ := own_at2 (own_base HE.out.2.row) rfl (by have := HTL.out; omega)
                        refine ⟨g, h1, fun j u hu => ?_⟩
                        have := own_cell_size (own_base HE.out.2.row) (by rw [h1]) j _ (numsV_get hu)
                        rwa [Lib.add_plain, Nat.zero_add] at this
                      have m0 := hg k t HT.out
                      by_cases hqT : q < T
                      · have hqT' : (q : Int) < (T : Int) := by omega
                        obtain ⟨u, hu⟩ : ∃ u, ts[q]? = some u := ⟨ts[q]'(by have := HTL.out; omega), List.getElem?_eq_getElem _⟩
                        have m1 := hg q u hu
                        have HU := Lib.hid hu
                        have hwe : IntKind.i64.wrap (e + 1) = e + 1 := by rw [IntKind.wrap_i64]; omega
                        have HOC := Lib.hid (show In.occ (ts.take (q + 1)) t = e + if u = t then 1 else 0 by
                          rw [List.take_add_one, HU.out, HE.out.1]
                          exact In.occ_app (ts.take q) u t)
                        have HTA := Lib.hid hta
                        subst hta
                        clear hu hg
                        go_upto_region 26 with fail
                        by_cases hut : u = t
                        · as_aux_lemma =>
                            have hb1 : (u == t) = true := by simpa using hut
                            have HO1 := Lib.hid (show e + 1 = In.occ (ts.take (q + 1)) t by rw [HOC.out, if_pos hut])
                            clear hut
                            go_quiet (fail)
                            have HG2 := Lib.hid (HE.out.2.on (drew_below _ nq))
                            go_wp2_with fail
                            go_roundw
                            case rel => exact ⟨q + 1, e + 1, hqT, rfl, by go_num, by omega, by omega, Lib.hid ⟨HO1.out, HG2.out⟩⟩
                            case measure => (simp only [intOf]; omega)
                        · as_aux_lemma =>
                            have hb1 : (u == t) = false := by simpa using hut
                            have HO1 := Lib.hid (show e = In.occ (ts.take (q + 1)) t by rw [HOC.out, if_neg hut]; omega)
                            clear hut
                            go_quiet (fail)
                            have HG2 := Lib.hid (HE.out.2.on (drew_below _ nq))
                            go_wp2_with fail
                            go_roundw
                            case rel => exact ⟨q + 1, e, hqT, rfl, by go_num, by omega, by omega, Lib.hid ⟨HO1.out, HG2.out⟩⟩
                            case measure => (simp only [intOf]; omega)
                      · as_aux_lemma =>
                          have hqT' : ¬ (q : Int) < (T : Int) := by omega
                          have HEO := Lib.hid (show e = In.occ ts t by
                            have := HE.out.1
                            rwa [List.take_of_length_le (by have := HTL.out; omega)] at this)
                          subst hta
                          clear hg
                          have c4 := (Cfg.cells HE.out.2.box).c4
                          have QT := Lib.hid (fun m => top_cI (HE.out.2.hold.at'.drewN m))
                          have QC := Lib.hid (fun m => closed_cI (HE.out.2.hold.at'.drewN m) HE.out.2.iv.sm)
                          have QN := Lib.hid (fun m => count_cI (t := t) (HE.out.2.hold.at'.drewN m) (by unfold I64; omega))
                          obtain ⟨f1, f2, f3, f4⟩ := HFI.out t (List.mem_of_getElem? HT.out)
                          obtain ⟨K, hK⟩ : ∃ K, K = In.closed x.c s := ⟨_, rfl⟩
                          obtain ⟨C, hC⟩ : ∃ C, C = In.cnt s.cs t := ⟨_, rfl⟩
                          obtain ⟨P, hP⟩ : ∃ P, P = s.top := ⟨_, rfl⟩
                          rw [← hK] at QC f3 f4
                          rw [← hC] at QN f3 f4
                          rw [← hP] at QT f2
                          rw [← HEO.out] at f1 f3
                          have g1 : ¬ x.c.rate < e := by omega
                          have g2 : ¬ P < t := by omega
                          have HFC := Lib.hid (And.intro f3 f4)
                          clear f1 f2 f3 f4 hK hC hP
                          go_upto_region 28 with fail
                          by_cases hKt : K < t
                          · as_aux_lemma =>
                              have hc := HFC.out.1 hKt
                              subst hc
                              have g3 : (C != C) = false := by simp
                              have g4 : ¬ t ≤ K := by omega
                              go_quiet ((first | (go_at_call 12; exact Calls.quiet_of_same (QT.out _)) | (go_at_call 10; exact Calls.quiet_of (QC.out _)) | (go_at_call 15; exact Calls.quiet_of_same (QN.out _))))
                              have HG2 := Lib.hid (HE.out.2.on (drew_below _ nq))
                              go_wp2_with fail
                              go_roundw
                              case rel => exact ⟨k + 1, hkT, by go_num, HG2⟩
                              case measure => (simp only [intOf]; omega)
                          · as_aux_lemma =>
                              have hc := HFC.out.2 (by omega)
                              subst hc
                              have g3 : ((0 : Int) != 0) = false := by decide
                              have g4 : t ≤ K := by omega
                              go_quiet ((first | (go_at_call 12; exact Calls.quiet_of_same (QT.out _)) | (go_at_call 10; exact Calls.quiet_of (QC.out _)) | (go_at_call 15; exact Calls.quiet_of_same (QN.out _))))
                              have HG2 := Lib.hid (HE.out.2.on (drew_below _ nq))
                              go_wp2_with fail
                              go_roundw
                              case rel => exact ⟨k + 1, hkT, by go_num, HG2⟩
                              case measure => (simp only [intOf]; omega)
                  · as_aux_lemma =>
                      have hkT' : ¬ (k : Int) < (T : Int) := by omega
                      go_wp2_with fail
                      go_ret
                      exact ⟨rfl, HG.out.below⟩
  · as_aux_lemma =>
      have HR := Lib.hid hr
      clear hr
      have QR := Lib.hid (fun W => right_cI x W)
      unfold Cfg.val at QR
      rw [decide_eq_false HR.out] at QR
      go_cut [6] (fun v6 wx => ∃ w4, v6 = .pointer none ∧ wx = w4 ∧ CfgAt w4 w.heap.size x ∧ Hid (Below w.heap.size w w4))
      case first =>
        go_region_with (first
          | (go_at_call 7; refine QK.out.mono ?_; rintro r u0 ⟨ka, kc, rfl, HC, HK⟩
             have d0 := HC.c0
             have d1 := HC.c1
             have d2 := HC.c2
             have d3 := HC.c3
             have d4 := HC.c4
             have d5 := HC.c5
             have qn := new_not x HK.out.2.2 HR.out
             unfold Cfg.val at qn
             have QN := Lib.hid (qn.mono (R' := fun e w' => e = .returned (.pointer none) ∧ Hid (CfgAt w' w.heap.size x ∧ Below w.heap.size w w')) (fun e w' hh => ⟨hh.1, Lib.hid ⟨Cfg.cells (box_on HK.out.1 hh.2), HK.out.2.1.trans (hh.2.mono HK.out.2.1.size)⟩⟩))
             clear qn HC)
          | (go_at_call 6; (with_reducible refine QN.out.mono ?_); rintro r w4 ⟨rfl, HH⟩))
        all_goals (go_wp2_with fail)
        all_goals go_meet
        all_goals exact ⟨w4, rfl, rfl, HH.out.1, Lib.hid HH.out.2⟩
      case rest =>
        obtain ⟨_, rfl, rfl, hc4, HB4⟩ := hcut
        obtain ⟨w4, hw4⟩ : ∃ w4, w4 = wc := ⟨wc, rfl⟩
        subst hw4
        have e0 := hc4.c0
        have e1 := hc4.c1
        have e2 := hc4.c2
        have e3 := hc4.c3
        have e4 := hc4.c4
        have e5 := hc4.c5
        clear hc4 c0 c1 c2 c3 c4 c5 QK
        have QF4 := Lib.hid (QF.out w4 HB4.out)
        cases cf with
        | false =>
          go_wp2_with (first
            | (go_at_call 8; refine QF4.out.mono ?_; rintro r w5 ⟨rfl, hw⟩; rw [hw]; clear hw)
            | (go_at_call 9; refine (QR.out w4).mono ?_; rintro r w6 ⟨rfl, hb6⟩))
          go_ret
          exact ⟨rfl, HB4.out.trans (hb6.mono HB4.out.size)⟩
        | true =>
          go_wp2_with (first
            | (go_at_call 8; refine QF4.out.mono ?_; rintro r w5 ⟨rfl, hw⟩; rw [hw]; clear hw)
            | (go_at_call 9; refine (QR.out w4).mono ?_; rintro r w6 ⟨rfl, hb6⟩))
          go_ret
          exact ⟨rfl, HB4.out.trans (hb6.mono HB4.out.size)⟩
end Go.Proofs.Ytmgpfkckafdbmaa
