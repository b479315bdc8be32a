/-
  IntakeOnce: what is accepted has the positions 0, 1, ..; sent again it is told its position.
-/
import Derived.Test.YtmgpfkckafdbmaaIOnceM
namespace Go.Proofs.Ytmgpfkckafdbmaa
set_option maxRecDepth 100000
open Go Go.RowKit Vl

set_option maxHeartbeats 16000000 in
theorem once_lawI {w : World} {x : Cfg} (hxf : x.fit) {v : Value} {l : List EIn} (h : EntsIn w v l) {vp : Value} {ps : List Int} (hp : PicksIn w vp ps) :
    Calls Try.prog 4 #[x.val, v, vp] w fun r w' => r = .returned (.bool true) ∧ Below w.heap.size w w' := by
  obtain ⟨W1, hW1⟩ : ∃ W1, W1 = w.alloc x.obj := ⟨_, rfl⟩
  have hb1 : Below w.heap.size w W1 := by rw [hW1]; exact below_new w _
  have hx1 : W1.heap[w.heap.size]? = some x.obj := by rw [hW1]; exact box_new w _
  have HB1 := Lib.hid hb1
  have HX1 := Lib.hid hx1
  have HXF := Lib.hid hxf
  have QS := Lib.hid (small_cI W1)
  have QF := Lib.hid (fun (W : World) (hW : Below w.heap.size w W) => fewI_c (w := W) (v := v) (l := l) (by
    obtain ⟨h1, a, c, h2, h3⟩ := h
    refine ⟨h1, a, c, h2, fun i x hx => ?_⟩
    obtain ⟨b, off, g1, g2, g3, g4⟩ := h3 i x hx
    exact ⟨b, off, g1, g2.on hW, g3.on hW (Nat.le_refl _), g4⟩) 100)
  obtain ⟨hlen, oa, oc, rfl, hops⟩ := h
  obtain ⟨n, hn⟩ : ∃ n, n = l.length := ⟨_, rfl⟩
  have HN := Lib.hid hn
  obtain ⟨hplen, pa, pc, rfl, hpk⟩ := hp
  obtain ⟨m, hm⟩ : ∃ m, m = ps.length := ⟨_, rfl⟩
  have HM := Lib.hid hm
  have HP := Lib.hid hpk
  have HO := Lib.hid hops
  rw [← hn] at hlen QF ⊢
  rw [← hm] at hplen ⊢
  obtain ⟨cf, hcf⟩ : ∃ cf, cf = fewI l 100 := ⟨_, rfl⟩
  have HCF := Lib.hid hcf
  rw [← hcf] at QF
  have hv : x.val = .agg #[.int .i64 x.parts, .int .i64 x.c.delay, .int .i64 x.c.late, .int .i64 x.c.ahead, .int .i64 x.c.rate, .int .i64 x.span] := rfl
  unfold Cfg.obj at hW1
  rw [hv]
  clear hn hops hm hpk hcf hb1 hx1 hxf hv
  go_enter Try.func4, Try.ntmps4
  go_upto_region 1 with fail
  rw [← hW1]
  clear hW1
  go_upto_region 2 with (go_at_call 5; refine QS.out.mono ?_; rintro r w2 ⟨rfl, hb2⟩; have HB2 := Lib.hid (HB1.out.trans (hb2.mono HB1.out.size)); have HX2 := Lib.hid (box_on HX1.out hb2); clear hb2)
  have hcc := Cfg.cells HX2.out
  have c0 := hcc.c0
  have c1 := hcc.c1
  have c2 := hcc.c2
  have c3 := hcc.c3
  have c4 := hcc.c4
  have c5 := hcc.c5
  clear hcc
  have QK := Lib.hid ((known_c w2.drew).mono (R' := fun r u => ∃ a c, r = .returned (.slice a 2 c) ∧ CfgAt u w.heap.size x ∧ Hid (u.heap[w.heap.size]? = some x.obj ∧ Below w.heap.size w u ∧ ∃ K : List KP, K.map KP.core = core0 ∧ Kns (fun k => w2.drew.heap.size ≤ k) u a c K)) (fun r u hh => by
    obtain ⟨a, c, g1, g2, g3⟩ := hh
    have q : Below w2.heap.size w2 u := (below_drew (Below.refl _ w2)).trans g3
    have qx := box_on HX2.out q
    exact ⟨a, c, g1, Cfg.cells qx, Lib.hid ⟨qx, HB2.out.trans (q.mono HB2.out.size), g2.out⟩⟩))
  by_cases hr : x.c.right
  · have HR := Lib.hid hr
    clear hr
    go_cut [8] (fun v6 wx => ∃ w4 b p, v6 = .pointer (some ⟨b, 0, none⟩) ∧ wx = w4 ∧ Hid (OncIs w w4 x b p.mb p In.new [] none 0 0))
    case first =>
      go_region_with (first
        | (go_at_call 7; refine QK.out.mono ?_; rintro r u0 ⟨ka, kc, rfl, HC, HK⟩
           have d0 := HC.c0
           have d1 := HC.c1
           have d2 := HC.c2
           have d3 := HC.c3
           have d4 := HC.c4
           have d5 := HC.c5
           have qn := new_hold x (w0 := w) HK.out.2.2 HR.out HK.out.2.1
           unfold Cfg.val at qn
           have QN := Lib.hid qn
           clear qn HC)
        | (go_at_call 6; (with_reducible refine QN.out.mono ?_); rintro r w4 ⟨b, p, rfl, HH⟩))
      all_goals (go_wp2_with fail)
      all_goals go_meet
      all_goals exact ⟨w4, b, p, rfl, rfl, Lib.hid (onc_new HK.out.1 HR.out HK.out.2.1 HH.out)⟩
    case rest =>
      obtain ⟨_, b, p, rfl, rfl, HI⟩ := hcut
      obtain ⟨w4, hw4⟩ : ∃ w4, w4 = wc := ⟨wc, rfl⟩
      subst hw4
      obtain ⟨mb, hmb⟩ : ∃ mb, mb = p.mb := ⟨_, rfl⟩
      rw [← hmb] at HI
      clear hmb c0 c1 c2 c3 c4 c5 QK
      have QF4 := Lib.hid (QF.out w4 HI.out.below)
      cases cf with
      | false =>
        go_wp2_with (go_at_call 8; refine QF4.out.mono ?_; rintro r w5 ⟨rfl, hw⟩; rw [hw]; clear hw)
        go_ret
        exact ⟨rfl, HI.out.below⟩
      | true =>
        have hn100 : n ≤ 100 := by
          have := fewI_len HCF.out.symm
          rw [HN.out]
          exact this
        clear QF
        by_cases hm100 : 100 < m
        · have hm' : (100 : Int) < (m : Int) := by omega
          go_wp2_with (go_at_call 8; refine QF4.out.mono ?_; rintro r w5 ⟨rfl, hw⟩; rw [hw]; clear hw)
          go_ret
          exact ⟨rfl, HI.out.below⟩
        have hm' : ¬ (100 : Int) < (m : Int) := by omega
        go_upto_region 7 with (go_at_call 8; refine QF4.out.mono ?_; rintro r w5 ⟨rfl, hw⟩; rw [hw]; clear hw)
        go_loopw [9, 10] (fun v9 v10 wr => ∃ (i : Nat) (p : IP) (s : In.St) (D : List EIn) (da : Option Addr) (dc : Nat), i ≤ n ∧ v9 = .slice da D.length dc ∧ v10 = .int .i64 (i : Int) ∧ Hid (OncIs w wr x b mb p s D da dc i ∧ ∃ L, In.Acc s L ∧ DoneIs w D L)) (fun _ v10 _ => n - (intOf v10).toNat)
        case atStart => exact ⟨0, p, In.new, [], none, 0, Nat.zero_le _, rfl, rfl, Lib.hid ⟨HI.out, [], In.acc_new, done_nil w⟩⟩
        case round =>
          obtain ⟨i, p1, s, D, da, dc, hi, rfl, rfl, HF⟩ := hrel
          obtain ⟨w5, hw5⟩ : ∃ w5, w5 = wr := ⟨wr, rfl⟩
          subst hw5
          by_cases hin : i < n
          · have hin' : (i : Int) < (n : Int) := by omega
            obtain ⟨y, hy⟩ : ∃ y, l[i]? = some y := ⟨l[i]'(by have := HN.out; omega), List.getElem?_eq_getElem _⟩
            obtain ⟨eb, eo, rfl, he, hrow, hrn, hfit⟩ := HO.out i y hy
            have hbw := HF.out.1.below
            have he7 := he.on hbw
            have o0 := he7.c0
            have o1 := he7.c1
            have o2 := he7.c2
            have o3 := he7.c3
            have o4 := he7.c4
            have o5 := he7.c5
            have o6 := he7.c6
            have o7 := he7.c7
            have HOK := Lib.hid (show EOk w y.e y.row from ⟨hrow, hrn, hfit.tm⟩)
            have qa := HF.out.1.hold.apply HF.out.1.iv (e := y.e) (row := y.row) (HOK.out.on hbw)
            have HE := Lib.hid he
            obtain ⟨en, hen⟩ : ∃ en, en = enOf ks0 y.e y.row := ⟨_, rfl⟩
            rw [← hen] at qa
            obtain ⟨⟨kd, pr, ep, sq, src, sc, tm, ra, rn, rc⟩, row⟩ := y
            have HEK := Lib.hid (show en.kd = kd by rw [hen]; rfl)
            have HEP := Lib.hid (show en.pr = pr ∧ en.ep = ep ∧ en.sq = sq by rw [hen]; exact ⟨rfl, rfl, rfl⟩)
            unfold EE.val at qa
            dsimp only at *
            obtain ⟨n1, hn1⟩ : ∃ n1, n1 = (In.apply x.c s en).2.1 := ⟨_, rfl⟩
            obtain ⟨z1, hz1⟩ : ∃ z1, z1 = (In.apply x.c s en).2.2 := ⟨_, rfl⟩
            have HZ := Lib.hid (And.intro hn1 hz1)
            rw [← hn1, ← hz1] at qa
            have QA := Lib.hid qa
            clear hy he hrow hrn hfit hbw he7 hen qa hn1 hz1
            go_upto_region 10 with (go_at_call 13; (with_reducible refine QA.out.mono ?_); rintro r w9 ⟨rfl, HH⟩)
            obtain ⟨p2, hp2⟩ := HH.out
            have HF9 := Lib.hid (HF.out.1.apply (by omega) en hp2)
            clear hp2 HH QA o0 o1 o2 o3 o4 o5 o6 o7
            have he9 := HE.out.on HF9.out.below
            have o0 := he9.c0
            dsimp only at o0
            clear he9
            by_cases hkd : kd = 0
            · subst hkd
              have HPUT := Lib.hid (In.put_ok (c := x.c) (s := s) HEK.out)
              by_cases hzz : z1 = 0
              · subst hzz
                obtain ⟨L, hacc, hdone⟩ := HF.out.2
                have hlk0 : (In.look x.c s en).2 = 0 := by rw [← HPUT.out]; exact HZ.out.2.symm
                obtain ⟨t1, t2, t3⟩ := hacc.take (c := x.c) hlk0 (by have := HF.out.1.nx; omega)
                have hnn : n1 = (D.length : Int) := by rw [HZ.out.1, HPUT.out, t1, hdone.len]
                have HSQ := Lib.hid (show sq = ((Pq.of L pr ep).length : Int) by
                  obtain ⟨f1, f2, f3⟩ := HEP.out
                  rw [f1, f2, f3] at t2
                  exact t2.symm)
                have HDONE := Lib.hid hdone
                have HNEW := Lib.hid (show In.Acc (In.apply x.c s en).1 (L ++ [⟨en.pr, en.ep, en.sq, L.length⟩]) ∧ DoneIs w (D ++ [⟨⟨0, pr, ep, sq, src, sc, tm, ra, rn, rc⟩, row⟩]) (L ++ [⟨en.pr, en.ep, en.sq, L.length⟩]) by
                  refine ⟨?_, hdone.app HEP.out ⟨HOK.out, rfl⟩⟩
                  rw [In.apply_take HEK.out hlk0]
                  exact t3)
                subst hnn
                obtain ⟨T, hT⟩ : ∃ T, T = D.length := ⟨_, rfl⟩
                have HTL := Lib.hid hT
                have htl : T ≤ 100 := by have := HF.out.1.tl; omega
                rw [← hT]
                clear hacc hdone hlk0 t1 t2 t3 hT
                go_upto_region 13 with fail
                go_loopw [13, 14] (fun v13 v14 wr => ∃ (q : Nat) (e : Int), q ≤ T ∧ v13 = .int .i64 e ∧ v14 = .int .i64 (q : Int) ∧ 0 ≤ e ∧ e ≤ (q : Int) ∧ Hid (e = ofN D pr ep q ∧ OncIs w wr x b mb p2 (In.apply x.c s en).1 D da dc (i + 1))) (fun _ v14 _ => T - (intOf v14).toNat)
                case atStart => exact ⟨0, 0, Nat.zero_le _, rfl, rfl, Int.le_refl _, Int.le_refl _, Lib.hid ⟨rfl, HF9.out⟩⟩
                case round =>
                  obtain ⟨q, e, hq, rfl, rfl, he0, heq, HG⟩ := hrel
                  obtain ⟨w7, hw7⟩ : ∃ w7, w7 = wr := ⟨wr, rfl⟩
                  subst hw7
                  have heW := HE.out.on HG.out.2.below
                  have o1 := heW.c1
                  have o2 := heW.c2
                  have o3 := heW.c3
                  dsimp only at o1 o2 o3
                  by_cases hqT : q < T
                  · have hqT' : (q : Int) < (T : Int) := by omega
                    obtain ⟨u, hu⟩ : ∃ u, D[q]? = some u := ⟨D[q]'(by have := HTL.out; omega), List.getElem?_eq_getElem _⟩
                    have hcells := HG.out.2.row
                    rw [← HTL.out] at hcells
                    obtain ⟨g, hda, hu7⟩ := ent_cells hcells hu
                    have u1 := hu7.c1
                    have u2 := hu7.c2
                    have hwe : IntKind.i64.wrap (e + 1) = e + 1 := by rw [IntKind.wrap_i64]; omega
                    have HOC := Lib.hid (show ofN D pr ep (q + 1) = e + if u.e.pr = pr ∧ u.e.ep = ep then 1 else 0 by rw [ofN_next hu, HG.out.1])
                    obtain ⟨⟨ukd, upr, uep, usq, usrc, usc, utm, ura, urn, urc⟩, urow⟩ := u
                    dsimp only at *
                    clear hu hu7 hcells heW
                    subst hda
                    go_upto_region 15 with fail
                    by_cases h1 : upr = pr
                    · have b1 : (upr == pr) = true := by simpa using h1
                      by_cases h2 : uep = ep
                      · as_aux_lemma =>
                          have b2 : (uep == ep) = true := by simpa using h2
                          have HO1 := Lib.hid (show e + 1 = ofN D pr ep (q + 1) by rw [HOC.out, if_pos ⟨h1, h2⟩])
                          clear h1 h2
                          go_quiet (fail)
                          have HG2 := Lib.hid (HG.out.2.on (drew_below _ nq))
                          go_wp2_with fail
                          go_roundw
                          case rel => exact ⟨q + 1, e + 1, hqT, rfl, by go_num, by omega, by omega, Lib.hid ⟨HO1.out, HG2.out⟩⟩
                          case measure => (simp only [intOf]; omega)
                      · as_aux_lemma =>
                          have b2 : (uep == ep) = false := by simpa using h2
                          have HO1 := Lib.hid (show e = ofN D pr ep (q + 1) by rw [HOC.out, if_neg (fun f => h2 f.2)]; omega)
                          clear h1 h2
                          go_quiet (fail)
                          have HG2 := Lib.hid (HG.out.2.on (drew_below _ nq))
                          go_wp2_with fail
                          go_roundw
                          case rel => exact ⟨q + 1, e, hqT, rfl, by go_num, by omega, by omega, Lib.hid ⟨HO1.out, HG2.out⟩⟩
                          case measure => (simp only [intOf]; omega)
                    · as_aux_lemma =>
                        have b1 : (upr == pr) = false := by simpa using h1
                        have HO1 := Lib.hid (show e = ofN D pr ep (q + 1) by rw [HOC.out, if_neg (fun f => h1 f.1)]; omega)
                        clear h1
                        go_quiet (fail)
                        have HG2 := Lib.hid (HG.out.2.on (drew_below _ nq))
                        go_wp2_with fail
                        go_roundw
                        case rel => exact ⟨q + 1, e, hqT, rfl, by go_num, by omega, by omega, Lib.hid ⟨HO1.out, HG2.out⟩⟩
                        case measure => (simp only [intOf]; omega)
                  · have hqT' : ¬ (q : Int) < (T : Int) := by omega
                    have hesq : e = sq := by rw [HG.out.1, HSQ.out]; exact ofN_end HDONE.out pr ep (by have := HTL.out; omega)
                    subst hesq
                    have b1 : ((T : Int) != (T : Int)) = false := by simp
                    have b2 : (e != e) = false := by simp
                    have o0 := heW.c0
                    have o4 := heW.c4
                    have o5 := heW.c5
                    have o6 := heW.c6
                    have o7 := heW.c7
                    dsimp only at o0 o4 o5 o6 o7
                    obtain ⟨y, hy⟩ : ∃ y : EIn, y = ⟨⟨0, pr, ep, e, src, sc, tm, ra, rn, rc⟩, row⟩ := ⟨_, rfl⟩
                    have hrw := HG.out.2.on (below_new w7 (EE.obj ⟨0, pr, ep, e, src, sc, tm, ra, rn, rc⟩))
                    obtain ⟨da2, dc2, wq, happ, hrow2, hob2, hk2⟩ := app_ent (w7.alloc (EE.obj ⟨0, pr, ep, e, src, sc, tm, ra, rn, rc⟩)) w.heap.size (.slice da D.length dc) D ⟨⟨0, pr, ep, e, src, sc, tm, ra, rn, rc⟩, row⟩ w7.heap.size (box_new w7 _) hrw.row (by have := HTL.out; omega) (by have := HG.out.2.below.size; simp; omega)
                    have HA := Lib.hid (hrw.app HF.out.1.tl hrow2 hob2 hk2)
                    rw [← HTL.out] at happ
                    unfold EE.obj at happ
                    dsimp only at happ
                    have HAPP := Lib.hid happ
                    have HL2 := Lib.hid (show (D ++ [(⟨⟨0, pr, ep, e, src, sc, tm, ra, rn, rc⟩, row⟩ : EIn)]).length = T + 1 by rw [List.length_append, List.length_singleton, HTL.out])
                    clear hy happ hrow2 hob2 hk2 hrw heW
                    go_wp2_with (at_builtin; refine Lib.wpList_append_run _ rfl _ _ _ _ rfl _ _ rfl rfl _ wq HAPP.out ?_)
                    go_roundw
                    case rel => exact ⟨i + 1, p2, _, _, da2, dc2, hin, (by rw [HL2.out]), by go_num, Lib.hid ⟨HA.out, _, HNEW.out⟩⟩
                    case measure => (simp only [intOf]; omega)
              · as_aux_lemma =>
                  have hz0 : (z1 != 0) = true := by simpa using hzz
                  have HNEW := Lib.hid (show ∃ L, In.Acc (In.apply x.c s en).1 L ∧ DoneIs w D L by
                    obtain ⟨L, hacc, hdone⟩ := HF.out.2
                    refine ⟨L, hacc.other (fun f => hzz ?_), hdone⟩
                    rw [HZ.out.2, HPUT.out]
                    exact f.2)
                  clear hzz
                  go_wp2_with fail
                  go_roundw
                  case rel => exact ⟨i + 1, p2, _, D, da, dc, hin, rfl, by go_num, Lib.hid ⟨HF9.out, HNEW.out⟩⟩
                  case measure => (simp only [intOf]; omega)
            · as_aux_lemma =>
                have hkd0 : (kd != 0) = true := by simpa using hkd
                have HNEW := Lib.hid (show ∃ L, In.Acc (In.apply x.c s en).1 L ∧ DoneIs w D L by
                  obtain ⟨L, hacc, hdone⟩ := HF.out.2
                  exact ⟨L, hacc.other (fun f => hkd (HEK.out.symm.trans f.1)), hdone⟩)
                clear hkd
                go_wp2_with fail
                go_roundw
                case rel => exact ⟨i + 1, p2, _, D, da, dc, hin, rfl, by go_num, Lib.hid ⟨HF9.out, HNEW.out⟩⟩
                case measure => (simp only [intOf]; omega)
          · as_aux_lemma =>
              have hin' : ¬ (i : Int) < (n : Int) := by omega
              have HNX := Lib.hid (next_cI HF.out.1.hold.at')
              obtain ⟨L, hacc, hdone⟩ := HF.out.2
              have HACC := Lib.hid hacc
              have HDONE := Lib.hid hdone
              obtain ⟨T, hT⟩ : ∃ T, T = D.length := ⟨_, rfl⟩
              have HTL := Lib.hid hT
              have htl : T ≤ 100 := by have := HF.out.1.tl; omega
              rw [show s.next = (T : Int) by rw [hacc.next, hdone.len, hT]] at HNX
              rw [← hT]
              have HF1 := Lib.hid HF.out.1
              have hne0 : ((T : Int) != (T : Int)) = false := by simp
              clear hacc hdone hT
              go_wp2_with (go_at_call 16; refine HNX.out.mono ?_; rintro r wz ⟨rfl, hwz⟩; rw [hwz]; clear hwz)
              go_loopw [15] (fun v15 wr => ∃ (j : Nat) (p : IP) (s : In.St), j ≤ m ∧ v15 = .int .i64 (j : Int) ∧ Hid (OncIs w wr x b mb p s D da dc (n + j) ∧ In.Acc s L)) (fun v15 _ => m - (intOf v15).toNat)
              case atStart =>
                have q : i = n := by omega
                exact ⟨0, p1, s, Nat.zero_le _, rfl, Lib.hid ⟨q ▸ HF1.out, HACC.out⟩⟩
              case round =>
                obtain ⟨j, p2, s2, hj, rfl, HG⟩ := hrel
                obtain ⟨w6, hw6⟩ : ∃ w6, w6 = wr := ⟨wr, rfl⟩
                subst hw6
                have hnx := next_cI HG.out.1.hold.at'
                rw [show s2.next = (T : Int) by rw [HG.out.2.next, HDONE.out.len, HTL.out]] at hnx
                have HNX2 := Lib.hid hnx
                have heq : ((T : Int) == (T : Int)) = true := by simp
                clear hnx
                by_cases hjm : j < m
                · have hjm' : (j : Int) < (m : Int) := by omega
                  by_cases hT0 : 0 < T
                  · have hT0' : (0 : Int) < (T : Int) := by omega
                    have hTn : ¬ (T : Int) = 0 := by omega
                    obtain ⟨pk, hpk⟩ : ∃ pk, ps[j]? = some pk := ⟨ps[j]'(by have := HM.out; omega), List.getElem?_eq_getElem _⟩
                    obtain ⟨pb, po, rfl, hpc, hpI⟩ := HP.out j pk hpk
                    have pc0 := (Kept.below (S := fun _ => False) HG.out.1.below).cell hpc (fun e => e)
                    obtain ⟨r, hr⟩ : ∃ r, pk.tmod (T : Int) = r := ⟨_, rfl⟩
                    have hrb : -(T : Int) < r ∧ r < T := by
                      rw [← hr]
                      have h1 := Int.tmod_lt_of_pos pk hT0'
                      have h2 := Int.tmod_lt_of_pos (-pk) hT0'
                      rw [Int.neg_tmod] at h2
                      omega
                    have hrw : IntKind.i64.wrap r = r := by rw [IntKind.wrap_i64]; omega
                    clear hpk hpc hpI
                    by_cases hr0 : r < 0
                    · as_aux_lemma =>
                        obtain ⟨κ, hκ⟩ : ∃ κ : Nat, r + (T : Int) = (κ : Int) := ⟨(r + T).toNat, by omega⟩
                        have hwk : IntKind.i64.wrap (r + (T : Int)) = (κ : Int) := by rw [IntKind.wrap_i64]; omega
                        have hκT : κ < T := by omega
                        clear hκ
                        go_upto_region 28 with fail
                        obtain ⟨y, hy⟩ : ∃ y, D[κ]? = some y := ⟨D[κ]'(by have := HTL.out; omega), List.getElem?_eq_getElem _⟩
                        obtain ⟨q, hq⟩ : ∃ q, L[κ]? = some q := ⟨L[κ]'(by have := HTL.out; have := HDONE.out.len; omega), List.getElem?_eq_getElem _⟩
                        obtain ⟨hs1, hs2, hs3⟩ := HDONE.out.same κ y q hy hq
                        obtain ⟨hok, hkd⟩ := HDONE.out.ok y (List.mem_of_getElem? hy)
                        have hcells := HG.out.1.row
                        rw [← HTL.out] at hcells
                        obtain ⟨g, hda, he7⟩ := ent_cells hcells hy
                        have o0 := he7.c0
                        have o1 := he7.c1
                        have o2 := he7.c2
                        have o3 := he7.c3
                        have o4 := he7.c4
                        have o5 := he7.c5
                        have o6 := he7.c6
                        have o7 := he7.c7
                        have qa := HG.out.1.hold.apply HG.out.1.iv (e := y.e) (row := y.row) (hok.on HG.out.1.below)
                        obtain ⟨en, hen⟩ : ∃ en, en = enOf ks0 y.e y.row := ⟨_, rfl⟩
                        rw [← hen] at qa
                        have HLK := Lib.hid (HG.out.2.again (c := x.c) hq (e := en) (by rw [hen]; exact hs1.symm) (by rw [hen]; exact hs2.symm) (by rw [hen]; exact hs3.symm))
                        have HKD := Lib.hid (show en.kd = 0 by rw [hen]; exact hkd)
                        have HPUT := Lib.hid (In.put_ok (c := x.c) (s := s2) HKD.out)
                        rw [HPUT.out] at qa
                        obtain ⟨⟨kd, pr, ep, sq, src, sc, tm, ra, rn, rc⟩, row⟩ := y
                        unfold EE.val at qa
                        dsimp only at *
                        obtain ⟨n1, hn1⟩ : ∃ n1, n1 = (In.look x.c s2 en).1 := ⟨_, rfl⟩
                        obtain ⟨z1, hz1⟩ : ∃ z1, z1 = (In.look x.c s2 en).2 := ⟨_, rfl⟩
                        rw [← hn1, ← hz1] at qa
                        have QA := Lib.hid qa
                        have HRES := Lib.hid (show z1 = 18 ∨ (n1 = (κ : Int) ∧ z1 = 5) ∨ (n1 = -1 ∧ z1 = 5) by
                          rcases HLK.out with f | f | f
                          · exact Or.inl (hz1.trans f)
                          · exact Or.inr (Or.inl ⟨by rw [hn1, f], by rw [hz1, f]⟩)
                          · exact Or.inr (Or.inr ⟨by rw [hn1, f], by rw [hz1, f]⟩))
                        have HACC2 := Lib.hid (show In.Acc (In.apply x.c s2 en).1 L from HG.out.2.other (fun f => by
                          have h1 := f.2
                          rw [← hz1] at h1
                          rcases HRES.out with g | g | g <;> omega))
                        subst hda
                        clear hy hq hs1 hs2 hs3 hok hkd he7 hcells hen qa hn1 hz1
                        go_upto_region 29 with (go_at_call 13; (with_reducible refine QA.out.mono ?_); rintro r w9 ⟨rfl, HH⟩)
                        obtain ⟨p3, hp3⟩ := HH.out
                        have HF9 := Lib.hid (HG.out.1.apply (by omega) en hp3)
                        clear hp3 HH QA o0 o1 o2 o3 o4 o5 o6 o7
                        rcases HRES.out with g | ⟨g1, g⟩ | ⟨g1, g⟩
                        · as_aux_lemma =>
                            subst g
                            go_wp2_with fail
                            go_roundw
                            case rel => exact ⟨j + 1, p3, _, hjm, by go_num, Lib.hid ⟨HF9.out, HACC2.out⟩⟩
                            case measure => (simp only [intOf]; omega)
                        · as_aux_lemma =>
                            subst g g1
                            have b1 : ((κ : Int) != (κ : Int)) = false := by simp
                            go_wp2_with fail
                            go_roundw
                            case rel => exact ⟨j + 1, p3, _, hjm, by go_num, Lib.hid ⟨HF9.out, HACC2.out⟩⟩
                            case measure => (simp only [intOf]; omega)
                        · as_aux_lemma =>
                            subst g g1
                            have b1 : ((-1 : Int) != (κ : Int)) = true := by simp <;> omega
                            go_wp2_with fail
                            go_roundw
                            case rel => exact ⟨j + 1, p3, _, hjm, by go_num, Lib.hid ⟨HF9.out, HACC2.out⟩⟩
                            case measure => (simp only [intOf]; omega)
                    · as_aux_lemma =>
                        obtain ⟨κ, hκ⟩ : ∃ κ : Nat, r = (κ : Int) := ⟨r.toNat, by omega⟩
                        subst hκ
                        have hκT : κ < T := by omega
                        go_upto_region 28 with fail
                        obtain ⟨y, hy⟩ : ∃ y, D[κ]? = some y := ⟨D[κ]'(by have := HTL.out; omega), List.getElem?_eq_getElem _⟩
                        obtain ⟨q, hq⟩ : ∃ q, L[κ]? = some q := ⟨L[κ]'(by have := HTL.out; have := HDONE.out.len; omega), List.getElem?_eq_getElem _⟩
                        obtain ⟨hs1, hs2, hs3⟩ := HDONE.out.same κ y q hy hq
                        obtain ⟨hok, hkd⟩ := HDONE.out.ok y (List.mem_of_getElem? hy)
                        have hcells := HG.out.1.row
                        rw [← HTL.out] at hcells
                        obtain ⟨g, hda, he7⟩ := ent_cells hcells hy
                        have o0 := he7.c0
                        have o1 := he7.c1
                        have o2 := he7.c2
                        have o3 := he7.c3
                        have o4 := he7.c4
                        have o5 := he7.c5
                        have o6 := he7.c6
                        have o7 := he7.c7
                        have qa := HG.out.1.hold.apply HG.out.1.iv (e := y.e) (row := y.row) (hok.on HG.out.1.below)
                        obtain ⟨en, hen⟩ : ∃ en, en = enOf ks0 y.e y.row := ⟨_, rfl⟩
                        rw [← hen] at qa
                        have HLK := Lib.hid (HG.out.2.again (c := x.c) hq (e := en) (by rw [hen]; exact hs1.symm) (by rw [hen]; exact hs2.symm) (by rw [hen]; exact hs3.symm))
                        have HKD := Lib.hid (show en.kd = 0 by rw [hen]; exact hkd)
                        have HPUT := Lib.hid (In.put_ok (c := x.c) (s := s2) HKD.out)
                        rw [HPUT.out] at qa
                        obtain ⟨⟨kd, pr, ep, sq, src, sc, tm, ra, rn, rc⟩, row⟩ := y
                        unfold EE.val at qa
                        dsimp only at *
                        obtain ⟨n1, hn1⟩ : ∃ n1, n1 = (In.look x.c s2 en).1 := ⟨_, rfl⟩
                        obtain ⟨z1, hz1⟩ : ∃ z1, z1 = (In.look x.c s2 en).2 := ⟨_, rfl⟩
                        rw [← hn1, ← hz1] at qa
                        have QA := Lib.hid qa
                        have HRES := Lib.hid (show z1 = 18 ∨ (n1 = (κ : Int) ∧ z1 = 5) ∨ (n1 = -1 ∧ z1 = 5) by
                          rcases HLK.out with f | f | f
                          · exact Or.inl (hz1.trans f)
                          · exact Or.inr (Or.inl ⟨by rw [hn1, f], by rw [hz1, f]⟩)
                          · exact Or.inr (Or.inr ⟨by rw [hn1, f], by rw [hz1, f]⟩))
                        have HACC2 := Lib.hid (show In.Acc (In.apply x.c s2 en).1 L from HG.out.2.other (fun f => by
                          have h1 := f.2
                          rw [← hz1] at h1
                          rcases HRES.out with g | g | g <;> omega))
                        subst hda
                        clear hy hq hs1 hs2 hs3 hok hkd he7 hcells hen qa hn1 hz1
                        go_upto_region 29 with (go_at_call 13; (with_reducible refine QA.out.mono ?_); rintro r w9 ⟨rfl, HH⟩)
                        obtain ⟨p3, hp3⟩ := HH.out
                        have HF9 := Lib.hid (HG.out.1.apply (by omega) en hp3)
                        clear hp3 HH QA o0 o1 o2 o3 o4 o5 o6 o7
                        rcases HRES.out with g | ⟨g1, g⟩ | ⟨g1, g⟩
                        · as_aux_lemma =>
                            subst g
                            go_wp2_with fail
                            go_roundw
                            case rel => exact ⟨j + 1, p3, _, hjm, by go_num, Lib.hid ⟨HF9.out, HACC2.out⟩⟩
                            case measure => (simp only [intOf]; omega)
                        · as_aux_lemma =>
                            subst g g1
                            have b1 : ((κ : Int) != (κ : Int)) = false := by simp
                            go_wp2_with fail
                            go_roundw
                            case rel => exact ⟨j + 1, p3, _, hjm, by go_num, Lib.hid ⟨HF9.out, HACC2.out⟩⟩
                            case measure => (simp only [intOf]; omega)
                        · as_aux_lemma =>
                            subst g g1
                            have b1 : ((-1 : Int) != (κ : Int)) = true := by simp <;> omega
                            go_wp2_with fail
                            go_roundw
                            case rel => exact ⟨j + 1, p3, _, hjm, by go_num, Lib.hid ⟨HF9.out, HACC2.out⟩⟩
                            case measure => (simp only [intOf]; omega)
                  · have hT0' : ¬ (0 : Int) < (T : Int) := by omega
                    go_wp2_with (go_at_call 16; refine HNX2.out.mono ?_; rintro r wz ⟨rfl, hwz⟩; rw [hwz]; clear hwz)
                    go_ret
                    exact ⟨rfl, HG.out.1.below⟩
                · have hjm' : ¬ (j : Int) < (m : Int) := by omega
                  go_wp2_with (go_at_call 16; refine HNX2.out.mono ?_; rintro r wz ⟨rfl, hwz⟩; rw [hwz]; clear hwz)
                  go_ret
                  exact ⟨rfl, HG.out.1.below⟩
  · as_aux_lemma =>
      have HR := Lib.hid hr
      clear hr
      have QR := Lib.hid (fun W => right_cI x W)
      unfold Cfg.val at QR
      rw [decide_eq_false HR.out] at QR
      go_cut [8] (fun v6 wx => ∃ w4, v6 = .pointer none ∧ wx = w4 ∧ CfgAt w4 w.heap.size x ∧ Hid (Below w.heap.size w w4))
      case first =>
        go_region_with (first
          | (go_at_call 7; refine QK.out.mono ?_; rintro r u0 ⟨ka, kc, rfl, HC, HK⟩
             have d0 := HC.c0
             have d1 := HC.c1
             have d2 := HC.c2
             have d3 := HC.c3
             have d4 := HC.c4
             have d5 := HC.c5
             have qn := new_not x HK.out.2.2 HR.out
             unfold Cfg.val at qn
             have QN := Lib.hid (qn.mono (R' := fun e w' => e = .returned (.pointer none) ∧ Hid (CfgAt w' w.heap.size x ∧ Below w.heap.size w w')) (fun e w' hh => ⟨hh.1, Lib.hid ⟨Cfg.cells (box_on HK.out.1 hh.2), HK.out.2.1.trans (hh.2.mono HK.out.2.1.size)⟩⟩))
             clear qn HC)
          | (go_at_call 6; (with_reducible refine QN.out.mono ?_); rintro r w4 ⟨rfl, HH⟩))
        all_goals (go_wp2_with fail)
        all_goals go_meet
        all_goals exact ⟨w4, rfl, rfl, HH.out.1, Lib.hid HH.out.2⟩
      case rest =>
        obtain ⟨_, rfl, rfl, hc4, HB4⟩ := hcut
        obtain ⟨w4, hw4⟩ : ∃ w4, w4 = wc := ⟨wc, rfl⟩
        subst hw4
        have e0 := hc4.c0
        have e1 := hc4.c1
        have e2 := hc4.c2
        have e3 := hc4.c3
        have e4 := hc4.c4
        have e5 := hc4.c5
        clear hc4 c0 c1 c2 c3 c4 c5 QK
        have QF4 := Lib.hid (QF.out w4 HB4.out)
        cases cf with
        | false =>
          go_wp2_with (first
            | (go_at_call 8; refine QF4.out.mono ?_; rintro r w5 ⟨rfl, hw⟩; rw [hw]; clear hw)
            | (go_at_call 9; refine (QR.out w4).mono ?_; rintro r w6 ⟨rfl, hb6⟩))
          go_ret
          exact ⟨rfl, HB4.out.trans (hb6.mono HB4.out.size)⟩
        | true =>
          by_cases hm100 : 100 < m
          · have hm' : (100 : Int) < (m : Int) := by omega
            go_wp2_with (first
              | (go_at_call 8; refine QF4.out.mono ?_; rintro r w5 ⟨rfl, hw⟩; rw [hw]; clear hw)
              | (go_at_call 9; refine (QR.out w4).mono ?_; rintro r w6 ⟨rfl, hb6⟩))
            go_ret
            exact ⟨rfl, HB4.out.trans (hb6.mono HB4.out.size)⟩
          · have hm' : ¬ (100 : Int) < (m : Int) := by omega
            go_wp2_with (first
              | (go_at_call 8; refine QF4.out.mono ?_; rintro r w5 ⟨rfl, hw⟩; rw [hw]; clear hw)
              | (go_at_call 9; refine (QR.out w4).mono ?_; rintro r w6 ⟨rfl, hb6⟩))
            go_ret
            exact ⟨rfl, HB4.out.trans (hb6.mono HB4.out.size)⟩
end Go.Proofs.Ytmgpfkckafdbmaa
