/-
  ReplicaVotes: the walk.
-/
import Derived.Test.YtoghaogcekappaaRLaw
import Derived.BigRegion
namespace Go.Proofs.Ytoghaogcekappaa
set_option maxRecDepth 100000
open Go Go.RowKit Rp

/-- The state of the law's loop. -/
structure Vt (w0 w : World) (b : Nat) (s : St) (x : Cl) (t : Nat → Nat) (m : CM) (v : Value) (sd : List PM) : Prop where
  cz : Cz w0 w b x t m
  sim : Sim s x
  len : x.sent.length ≤ 300
  said : Said w0 w t v sd
  good : ∀ p ∈ sd, Rp.Good s p.m ∧ p.m.k = 1 ∧ p.m.yes = true
  sl : sd.length ≤ 500
theorem Vt.on {w0 w w' : World} {b : Nat} {s : St} {x : Cl} {t : Nat → Nat} {m : CM} {v : Value} {sd : List PM} (h : Vt w0 w b s x t m v sd) (hb : Below w.heap.size w w') : Vt w0 w' b s x t m v sd := ⟨h.cz.on hb, h.sim, h.len, h.said.on hb, h.good, h.sl⟩
theorem Vt.moved {w0 w w' : World} {b : Nat} {s s' : St} {x x' : Cl} {t : Nat → Nat} {m : CM} {v : Value} {sd : List PM} (h : Vt w0 w b s x t m v sd) {k who n : Int} {d : List UInt8} (ex : stepC x k who n d = some x') (hS : Sim s' x') (hE : Ext s s') (hm : Moved w w' b t x') : ∃ t' m', Vt w0 w' b s' x' t' m' v sd := by
  obtain ⟨t', m', c, h1, h2⟩ := h.cz.moved hm
  exact ⟨t', m', c, hS, len_step h.len ex, h.said.moved h1 h2, fun p hp => ⟨(h.good p hp).1.ext hE, (h.good p hp).2⟩, h.sl⟩
theorem Vt.say {w0 w : World} {b : Nat} {s : St} {x : Cl} {t : Nat → Nat} {m : CM} {v : Value} {sd : List PM} (h : Vt w0 w b s x t m v sd) {p : PM} (hp : Rp.Good s p.m) (h1 : p.m.k = 1) (h2 : p.m.yes = true) (hl : sd.length < 500) :
    ∃ a c w2, (Builtin.append_ #[26, 26] 26 #[v, .slice (some ⟨w.heap.size, 0, none⟩) 1 1]).run Try.prog (w.alloc p.obj) = .ok (.slice a (sd.length + 1) c) w2 ∧
      Hid (Vt w0 w2 b s x (newT w t 9) m (.slice a (sd ++ [p]).length c) (sd ++ [p])) := by
  obtain ⟨a, c, w2, q1, q2⟩ := h.cz.say h.said p (by omega)
  refine ⟨a, c, w2, q1, Lib.hid ⟨q2.out.1, h.sim, h.len, q2.out.2, fun q hq => ?_, by simp; omega⟩⟩
  rcases List.mem_append.1 hq with hq | hq
  · exact h.good q hq
  · obtain rfl := List.mem_singleton.1 hq
    exact ⟨hp, h1, h2⟩
set_option maxHeartbeats 4000000 in
set_option linter.unusedSimpArgs false in
theorem votes_law (a0 : Option Addr) (c0 : Nat) (l : List Op8) (W : World) (hlen : l.length ≤ 9223372036854775807) (hcell : ∀ i x, l[i]? = some x → ∃ b off, a0 = some ⟨b, off, none⟩ ∧ OpRow8 W b (off + i * 4) x) : Calls Try.prog 6 #[.slice a0 l.length c0] W fun e w' => e = .returned (.bool true) ∧ Below W.heap.size W w' := by
  have HCELL := Lib.hid (fun (w1 : World) (hb : Below W.heap.size W w1) (i : Nat) (o : Op8) (hi : l[i]? = some o) => (show ∃ b' off, a0 = some ⟨b', off, none⟩ ∧ Hid (OpRow8 w1 b' (off + i * 4) o) from by
    obtain ⟨b', off, h1, h2⟩ := hcell i o hi
    exact ⟨b', off, h1, Lib.hid (h2.on hb)⟩))
  have HO := Lib.hid (show OpsIn8 W (.slice a0 l.length c0) l from ⟨hlen, a0, c0, rfl, hcell⟩)
  obtain ⟨L, hL⟩ : ∃ L, l.length = L := ⟨_, rfl⟩
  rw [hL] at HO hlen ⊢
  have HLn := Lib.hid hL
  clear hcell hL
  go_enter Try.func6, Try.ntmps6
  go_wp2_with fail
  refine (small_c W).mono ?_
  rintro e w1 ⟨rfl, hb1⟩
  have HB1 := Lib.hid hb1
  clear hb1
  go_wp2_with fail
  refine (begin_c w1).mono ?_
  rintro e w2 ⟨b, rfl, HC⟩
  go_wp2_with fail
  obtain ⟨t2, m2, hcz⟩ := HC.out
  have HZ := Lib.hid hcz
  clear HC hcz
  refine (few_c _ l 150 w2 ((HO.out.on HB1.out).on HZ.out.low)).mono ?_
  rintro e w3 ⟨rfl, hw⟩
  rw [hw]
  clear hw
  cases hfew : few8 l 150 with
  | false =>
    clear hfew
    go_wp2_with fail
    go_ret
    exact ⟨rfl, HB1.out.trans (HZ.out.low.mono HB1.out.size)⟩
  | true =>
    have hL150 : L ≤ 150 := by have h1 := (few8_len hfew).1; rw [HLn.out] at h1; exact h1
    clear hfew
    have HV0 := Lib.hid (show ∃ s x t m, Vt w1 w2 b s x t m (.slice none 0 0) [] from ⟨s0, beginC, t2, m2, HZ.out, begin_sim, Nat.zero_le _, ⟨msgRow_nil _ _, (fun j e => by cases e)⟩, (fun p hp => by cases hp), Nat.zero_le _⟩)
    clear HZ HO
    go_wp2_with fail
    go_loopw [5, 6] (fun v5 v6 wr => ∃ (i : Nat) (qa : Option Addr) (qc : Nat) (sd : List PM), i ≤ L ∧ v5 = .slice qa sd.length qc ∧ v6 = .int .i64 (i : Int) ∧ Hid (∃ s x t m, Vt w1 wr b s x t m (.slice qa sd.length qc) sd)) (fun _ v6 _ => L - (intOf v6).toNat)
    case atStart => exact ⟨0, none, 0, [], Nat.zero_le _, rfl, rfl, HV0⟩
    case round =>
      obtain ⟨i, qa, qc, sd, hi, rfl, rfl, HV⟩ := hrel
      clear HV0
      obtain ⟨wa, hwa⟩ : ∃ wa, wa = wr := ⟨_, rfl⟩
      subst hwa
      by_cases hiL : i < L
      · have hiL' : (i : Int) < (L : Int) := by omega
        obtain ⟨s, x, t, m, hv⟩ := HV.out
        clear HV
        obtain ⟨o, ho⟩ : ∃ o, l[i]? = some o := ⟨l[i]'(by have := HLn.out; omega), List.getElem?_eq_getElem _⟩
        obtain ⟨ob, off, rfl, HOR⟩ := HCELL.out w1 HB1.out i o ho
        obtain ⟨o0, o1, o2, o3, hfit⟩ := HOR.out.on hv.cz.low
        obtain ⟨x', s', ex, hS', hE⟩ := step_next hv.sim (o.k % 16) o.n o.q o.s
        have QST := Lib.hid ((step_c hv.cz.clu (hv.sim.nice hv.len) o hfit ex).mono (R' := fun e w4 => e = .returned (.bool true) ∧ Hid (∃ t m, Vt w1 w4 b s' x' t m (.slice qa sd.length qc) sd)) (fun e w4 hh => ⟨hh.1, Lib.hid (hv.moved ex hS' hE hh.2.out)⟩))
        unfold opV8 at QST
        clear hv ho HOR hfit ex hS' hE
        go_wp2_with ((with_reducible refine QST.out.mono ?_); rintro e w4 ⟨rfl, HV4⟩)
        obtain ⟨t4, m4, hv4⟩ := HV4.out
        have HV5 := Lib.hid (show ∃ t, Vt w1 w4 b s' x' t m4 (.slice qa sd.length qc) sd from ⟨t4, hv4⟩)
        clear HV4 QST o0 o1 o2 o3
        obtain ⟨SN, hSN⟩ : ∃ SN, m4.ps.length = SN := ⟨_, rfl⟩
        have hSN3 : SN ≤ 300 := by have h1 := hv4.len; rw [← hv4.cz.clu.ms, List.length_map, hSN] at h1; exact h1
        have HSN := Lib.hid hSN
        clear hSN hv4
        go_loopw [5, 7] (fun v5 v7 wr => ∃ (k : Nat) (qa : Option Addr) (qc : Nat) (sd : List PM), k ≤ SN ∧ v5 = .slice qa sd.length qc ∧ v7 = .int .i64 (k : Int) ∧ Hid (∃ t, Vt w1 wr b s' x' t m4 (.slice qa sd.length qc) sd)) (fun _ v7 _ => SN - (intOf v7).toNat)
        case atStart => exact ⟨0, qa, qc, sd, Nat.zero_le _, rfl, rfl, HV5⟩
        case round =>
          clear HV5
          obtain ⟨k, qa, qc, sd, hk, rfl, rfl, HV⟩ := hrel
          obtain ⟨wb, hwb⟩ : ∃ wb, wb = wr := ⟨_, rfl⟩
          subst hwb
          obtain ⟨t, hv⟩ := HV.out
          have hc := hv.cz.clu.c (k := 0) (by decide)
          have y2 := hc.x2
          rw [HSN.out] at y2
          clear hc
          by_cases hkS : k < SN
          · have hkS' : (k : Int) < (SN : Int) := by omega
            obtain ⟨p, hp⟩ : ∃ p, m4.ps[k]? = some p := ⟨m4.ps[k]'(by have := HSN.out; omega), List.getElem?_eq_getElem _⟩
            obtain ⟨bx, ox, hxa, _, hmc⟩ := msg_cells (hv.cz.clu.sent.src (G := fun _ => True) (fun _ _ => trivial)) rfl hp
            rw [hxa] at y2
            obtain ⟨d0, d1, d2, d3, d4, d5, d6, d7, d8⟩ := hmc
            have hgood : Rp.Good s' p.m := hv.sim.good p.m (by rw [← hv.cz.clu.ms]; exact List.mem_map.2 ⟨p, List.mem_of_getElem? hp, rfl⟩)
            have HG := Lib.hid hgood
            obtain ⟨W5, hW5⟩ : ∃ W5, W5 = wb.alloc (.cells #[.int .i64 p.m.k, .int .i64 p.m.fr, .int .i64 p.m.dst, .int .i64 p.m.tm, .int .i64 p.m.ix, .int .i64 p.m.pv, .int .i64 p.m.cm, .bool p.m.yes, .slice p.a p.m.rs.length p.c] 39) := ⟨_, rfl⟩
            have hb5 : Below wb.heap.size wb W5 := by rw [hW5]; exact below_new wb _
            have hg5 : W5.heap[wb.heap.size]? = some p.obj := by rw [hW5]; exact box_new wb _
            have HG5 := Lib.hid hg5
            have HV5 := Lib.hid (hv.on hb5)
            have e0 : W5.cell? ⟨wb.heap.size, 0, none⟩ = some (.int .i64 p.m.k) := by rw [Lib.cell_of_heap hg5]; rfl
            have e7 : W5.cell? ⟨wb.heap.size, 7, none⟩ = some (.bool p.m.yes) := by rw [Lib.cell_of_heap hg5]; rfl
            clear hv hp hxa hgood hb5 hg5 HV
            go_upto_region 15 with fail
            rw [← hW5]
            clear hW5 d0 d1 d2 d3 d4 d5 d6 d7 d8 y2
            by_cases hpk : p.m.k = 1
            · have hpk' : (p.m.k != 1) = false := by simp [hpk]
              cases hpy : p.m.yes with
              | false =>
                rw [hpy] at e7
                clear hpk hpy
                go_wp2_with fail
                go_roundw
                case rel => exact ⟨k + 1, qa, qc, sd, hkS, rfl, by go_num, Lib.hid ⟨t, HV5.out⟩⟩
                case measure => simp [intOf]; omega
              | true =>
                rw [hpy] at e7
                have HPK := Lib.hid hpk
                have HPY := Lib.hid hpy
                clear hpk hpy
                obtain ⟨SD, hSD⟩ : ∃ SD, sd.length = SD := ⟨_, rfl⟩
                rw [hSD]
                have hSD5 : SD ≤ 500 := by have h1 := HV5.out.sl; rw [hSD] at h1; exact h1
                have HSD := Lib.hid hSD
                clear hSD
                go_wp2_with fail
                clear e0 e7 hpk'
                go_loopw [9] (fun v9 wz => ∃ n : Nat, n ≤ SD ∧ v9 = .int .i64 (n : Int) ∧ Hid (Below W5.heap.size W5 wz)) (fun v9 _ => SD - (intOf v9).toNat)
                case atStart => exact ⟨0, Nat.zero_le _, rfl, Lib.hid (Below.refl _ _)⟩
                case round =>
                  obtain ⟨n, hn, rfl, HBZ⟩ := hrel
                  have hg6 := box_on HG5.out HBZ.out
                  by_cases hnS : n < SD
                  · have hnS' : (n : Int) < (SD : Int) := by omega
                    obtain ⟨q, hq⟩ : ∃ q, sd[n]? = some q := ⟨sd[n]'(by have := HSD.out; omega), List.getElem?_eq_getElem _⟩
                    obtain ⟨by', oy, hqa, _, hmq⟩ := msg_cells ((HV5.out.said.row.on HBZ.out).src (G := fun _ => True) (fun _ _ => trivial)) rfl hq
                    subst hqa
                    have q1 := hmq.c1
                    have q2 := hmq.c2
                    have q3 := hmq.c3
                    have e1 : wr.cell? ⟨wb.heap.size, 1, none⟩ = some (.int .i64 p.m.fr) := by rw [Lib.cell_of_heap hg6]; rfl
                    have e2 : wr.cell? ⟨wb.heap.size, 2, none⟩ = some (.int .i64 p.m.dst) := by rw [Lib.cell_of_heap hg6]; rfl
                    have e3 : wr.cell? ⟨wb.heap.size, 3, none⟩ = some (.int .i64 p.m.tm) := by rw [Lib.cell_of_heap hg6]; rfl
                    obtain ⟨g1, g2, g3⟩ := HV5.out.good q (List.mem_of_getElem? hq)
                    by_cases hf : q.m.fr = p.m.fr
                    · have hfb : (q.m.fr == p.m.fr) = true := by simp [hf]
                      by_cases hm : q.m.tm = p.m.tm
                      · have hmb : (q.m.tm == p.m.tm) = true := by simp [hm]
                        have hd := good_votes g1 HG.out g2 HPK.out g3 HPY.out hf hm
                        have hdb : (q.m.dst != p.m.dst) = false := by simp [hd]
                        clear hf hm hd g1 g2 g3 hq hmq hg6
                        go_wp2_with fail
                        go_quiet (fail)
                        go_wp2_with fail
                        go_roundw
                        case rel => exact ⟨n + 1, hnS, by go_num, Lib.hid ⟨HBZ.out.os, HBZ.out.tape, HBZ.out.output, HBZ.out.size, HBZ.out.block⟩⟩
                        case measure => simp [intOf]; omega
                      · have hmb : (q.m.tm == p.m.tm) = false := by simp [hm]
                        clear hf hm g1 g2 g3 hq hmq hg6
                        go_wp2_with fail
                        go_quiet (fail)
                        go_wp2_with fail
                        go_roundw
                        case rel => exact ⟨n + 1, hnS, by go_num, Lib.hid ⟨HBZ.out.os, HBZ.out.tape, HBZ.out.output, HBZ.out.size, HBZ.out.block⟩⟩
                        case measure => simp [intOf]; omega
                    · have hfb : (q.m.fr == p.m.fr) = false := by simp [hf]
                      clear hf g1 g2 g3 hq hmq hg6
                      go_wp2_with fail
                      go_quiet (fail)
                      go_wp2_with fail
                      go_roundw
                      case rel => exact ⟨n + 1, hnS, by go_num, Lib.hid ⟨HBZ.out.os, HBZ.out.tape, HBZ.out.output, HBZ.out.size, HBZ.out.block⟩⟩
                      case measure => simp [intOf]; omega
                  · have hnS' : ¬ (n : Int) < (SD : Int) := by omega
                    have HVZ := Lib.hid (HV5.out.on HBZ.out)
                    by_cases hS5 : SD < 500
                    · have hS5' : (SD : Int) < 500 := by omega
                      have e0 : wr.cell? ⟨wb.heap.size, 0, none⟩ = some (.int .i64 p.m.k) := by rw [Lib.cell_of_heap hg6]; rfl
                      have e1 : wr.cell? ⟨wb.heap.size, 1, none⟩ = some (.int .i64 p.m.fr) := by rw [Lib.cell_of_heap hg6]; rfl
                      have e2 : wr.cell? ⟨wb.heap.size, 2, none⟩ = some (.int .i64 p.m.dst) := by rw [Lib.cell_of_heap hg6]; rfl
                      have e3 : wr.cell? ⟨wb.heap.size, 3, none⟩ = some (.int .i64 p.m.tm) := by rw [Lib.cell_of_heap hg6]; rfl
                      have e4 : wr.cell? ⟨wb.heap.size, 4, none⟩ = some (.int .i64 p.m.ix) := by rw [Lib.cell_of_heap hg6]; rfl
                      have e5 : wr.cell? ⟨wb.heap.size, 5, none⟩ = some (.int .i64 p.m.pv) := by rw [Lib.cell_of_heap hg6]; rfl
                      have e6 : wr.cell? ⟨wb.heap.size, 6, none⟩ = some (.int .i64 p.m.cm) := by rw [Lib.cell_of_heap hg6]; rfl
                      have e7 : wr.cell? ⟨wb.heap.size, 7, none⟩ = some (.bool p.m.yes) := by rw [Lib.cell_of_heap hg6]; rfl
                      have e8 : wr.cell? ⟨wb.heap.size, 8, none⟩ = some (.slice p.a p.m.rs.length p.c) := by rw [Lib.cell_of_heap hg6]; rfl
                      obtain ⟨na, nc, w6, hr6, HV6⟩ := HVZ.out.say HG.out HPK.out HPY.out (by have := HSD.out; omega)
                      rw [HSD.out] at hr6
                      have HR6 := Lib.hid hr6
                      clear hr6 hg6
                      go_wp2_with (at_builtin; refine Lib.wpList_append_run _ rfl _ _ _ _ rfl _ _ rfl rfl _ w6 HR6.out ?_)
                      go_roundw
                      case rel => exact ⟨k + 1, na, nc, sd ++ [p], hkS, by rw [List.length_append, HSD.out]; rfl, by go_num, Lib.hid ⟨_, HV6.out⟩⟩
                      case measure => simp [intOf]; omega
                    · have hS5' : ¬ (SD : Int) < 500 := by omega
                      clear hg6
                      go_wp2_with fail
                      go_roundw
                      case rel => exact ⟨k + 1, qa, qc, sd, hkS, by rw [HSD.out], by go_num, Lib.hid ⟨t, HVZ.out⟩⟩
                      case measure => simp [intOf]; omega
            · have hpk' : (p.m.k != 1) = true := by simp [hpk]
              clear hpk
              go_wp2_with fail
              go_roundw
              case rel => exact ⟨k + 1, qa, qc, sd, hkS, rfl, by go_num, Lib.hid ⟨t, HV5.out⟩⟩
              case measure => simp [intOf]; omega
          · have hkS' : ¬ (k : Int) < (SN : Int) := by omega
            have HVE := Lib.hid (show ∃ s x t m, Vt w1 wb b s x t m (.slice qa sd.length qc) sd from ⟨s', x', t, m4, hv⟩)
            clear hv HV
            go_wp2_with fail
            go_roundw
            case rel => exact ⟨i + 1, qa, qc, sd, hiL, rfl, by go_num, HVE⟩
            case measure => simp [intOf]; omega
      · have hiL' : ¬ (i : Int) < (L : Int) := by omega
        go_wp2_with fail
        go_ret
        obtain ⟨s, x, t, m, hv⟩ := HV.out
        exact ⟨rfl, HB1.out.trans (hv.cz.low.mono HB1.out.size)⟩
theorem votes_in (v : Value) (l : List Op8) (W : World) (h : OpsIn8 W v l) : Calls Try.prog 6 #[v] W fun e w' => e = .returned (.bool true) ∧ Below W.heap.size W w' := by
  obtain ⟨h1, a, c, rfl, h2⟩ := h
  exact votes_law a c l W h1 h2
end Go.Proofs.Ytoghaogcekappaa
