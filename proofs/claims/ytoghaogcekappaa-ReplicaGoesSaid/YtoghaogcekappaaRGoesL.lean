/-
  ReplicaGoes: the walk.
-/
import Derived.Test.YtoghaogcekappaaRFlow
import Derived.BigRegion
import Derived.Deep.RegionHeld3
namespace Go.Proofs.Ytoghaogcekappaa
set_option maxRecDepth 100000
open Go Go.RowKit Rp

section
variable {w0 w w' : World} {b : Nat} {s s' : St} {x x' : Cl} {t : Nat → Nat} {m : CM}
theorem id3 {k : Nat} (h : k < 3) : isId (k : Int) := by unfold isId; omega
theorem Cz.b0 (h : Cz w0 w b x t m) {j : Nat} (hj : t j ≠ 0) : w0.heap.size ≤ j := by
  rcases Nat.lt_or_ge j w0.heap.size with q | q
  · exact absurd (h.t0 j q) hj
  · exact q
theorem Cz.cleared (h : Cz w0 w b x t m) : Cz w0 (w.setCell ⟨b, 2, none⟩ (.slice none 0 0)) b { x with sent := [] } t { m with xa := none, xc := 0, ps := [] } :=
  ⟨h.low.trans ((Kept.set b 2 w (.slice none 0 0)).toBelow h.low.size (fun j e => by rw [e]; exact h.b0 (by rw [h.clu.tb]; decide))), h.t0,
    h.clu.flight (Kept.refl _ _) (msgRow_nil _ _) (fun j e => by cases e) (fun p hp => by cases hp) (fun p hp => by cases hp)⟩
theorem Cz.halt (h : Cz w0 w b x t m) {k : Nat} (hk : k < 3) (v : Int) : ∃ m', Cz w0 (w.setCell ⟨m.sb, k * 4 + 3, none⟩ (Value.int .i64 v)) b { x with st := upd x.st k v } t m' :=
  ⟨_, ⟨h.low.trans ((Kept.set m.sb (k * 4 + 3) w (Value.int .i64 v)).toBelow h.low.size (fun j e => by rw [e]; exact h.b0 (by rw [h.clu.ts]; decide))), h.t0, h.clu.stopped hk v⟩⟩
/-- Operations. -/
structure Gz (w0 w : World) (b : Nat) (s : St) (x : Cl) (t : Nat → Nat) (m : CM) (i : Nat) : Prop where
  cz : Cz w0 w b x t m
  sim : Sim s x
  len : x.sent.length ≤ 300
  bd : Bd x i i
/-- None is interrupted. -/
structure Gq (w0 w : World) (b : Nat) (x : Cl) (st : Int → Int) (i : Nat) (t : Nat → Nat) (m : CM) : Prop where
  cz : Cz w0 w b { x with sent := [], st := st } t m
  z : ∀ j : Nat, j < i → st j = 0
/-- Rounds of ticks. -/
structure Rd (w0 w : World) (b : Nat) (s : St) (x : Cl) (t : Nat → Nat) (m : CM) (xf : Cl) (jf : Int) (n : Nat) (ld : Int) : Prop where
  cz : Cz w0 w b x t m
  sim : Sim s x
  len : x.sent.length ≤ 300
  go : (ld = -1 ∧ rounds (18 - n) ((n : Int) % 3) x = some (xf, some jf)) ∨ (ld = jf ∧ x = xf)
theorem rounds_step {k : Nat} {i : Int} {xf : Cl} {jf : Int} {x1 : Cl} (h : rounds (k + 1) i x = some (xf, some jf)) (e1 : doneC x i (tickR (x.r i)).1 (tickR (x.r i)).2 = some x1) : ∃ x2, flowC 2000 x1 = some x2 ∧ (if (x2.r i).role = 2 then some (x2, some i) else rounds k ((i + 1) % 3) x2) = some (xf, some jf) := by
  have h : ((doneC x i (tickR (x.r i)).1 (tickR (x.r i)).2).bind fun x1 => (flowC 2000 x1).bind fun x2 => if (x2.r i).role = 2 then some (x2, some i) else rounds k ((i + 1) % 3) x2) = some (xf, some jf) := h
  rw [e1] at h
  have h : ((flowC 2000 x1).bind fun x2 => if (x2.r i).role = 2 then some (x2, some i) else rounds k ((i + 1) % 3) x2) = some (xf, some jf) := h
  cases hf : flowC 2000 x1 with
  | none => rw [hf] at h; cases h
  | some x2 => rw [hf] at h; exact ⟨x2, rfl, h⟩
/-- A tick, what is done with it, the flow. -/
theorem tick_flow (h : Cz w0 w b x t m) (hn : Nice x) {k : Nat} (hk : k < 3) {x1 x2 : Cl} (hx : doneC x k (tickR (x.r k)).1 (tickR (x.r k)).2 = some x1) (hS1 : Sim s' x1) (hf : flowC 2000 x1 = some x2) :
    Calls Try.prog 15 #[.pointer (some ⟨m.p k, 0, none⟩)] w fun e w' => ∃ (xs : Bool) (xt xv xf : Int) (xa : Option Addr) (xn xc : Nat) (ya : Option Addr) (yn yc : Nat), e = .returned (.agg #[.bool xs, .int .i64 xt, .int .i64 xv, .int .i64 xf, .slice xa xn xc, .slice ya yn yc]) ∧
      Hid (∀ W, Below w'.heap.size w' W → Calls Try.prog 28 #[.pointer (some ⟨b, 0, none⟩), .int .i64 k, .agg #[.bool xs, .int .i64 xt, .int .i64 xv, .int .i64 xf, .slice xa xn xc, .slice ya yn yc]] W fun e w2 => e = .returned (.bool true) ∧
        Hid (Calls Try.prog 29 #[.pointer (some ⟨b, 0, none⟩)] w2 fun e w3 => e = .returned (.bool true) ∧ Hid (∃ s' t' m', Fw w0 w3 b s' x2 x2 2000 t' m'))) := by
  refine (tick_k h.clu hn hk hx).mono (fun e w' hh => ?_)
  obtain ⟨xs, xt, xv, xf, xa, xn, xc, ya, yn, yc, e1, hq⟩ := hh
  refine ⟨xs, xt, xv, xf, xa, xn, xc, ya, yn, yc, e1, Lib.hid (fun W hW => (hq.out W hW).mono (fun e w2 hh => ⟨hh.1, Lib.hid ?_⟩))⟩
  obtain ⟨t', m', c, _, _⟩ := h.moved hh.2.out
  exact flow_c c hS1 (len_done hn.len hx) hf
/-- A proposal, what is done with it, the flow. -/
theorem propose_flow (h : Cz w0 w b x t m) (hn : Nice x) {k : Nat} (hk : k < 3) {d : List UInt8} (hd : d.length ≤ 9223372036854775807) {r' : R} {z : Int} {o : Out} (hp : proposeR (x.r k) d = (r', z, 0, o)) {x1 x2 : Cl} (hx : doneC x k r' o = some x1) (hS1 : Sim s' x1) (hf : flowC 2000 x1 = some x2) :
    Calls Try.prog 17 #[.pointer (some ⟨m.p k, 0, none⟩), .string ⟨d.toArray⟩] w fun e w' => ∃ (xs : Bool) (xt xv xf : Int) (xa : Option Addr) (xn xc : Nat) (ya : Option Addr) (yn yc : Nat), e = .returned (.tuple #[.int .i64 z, .int .i64 0, .agg #[.bool xs, .int .i64 xt, .int .i64 xv, .int .i64 xf, .slice xa xn xc, .slice ya yn yc]]) ∧
      Hid (∀ W, Below w'.heap.size w' W → Calls Try.prog 28 #[.pointer (some ⟨b, 0, none⟩), .int .i64 k, .agg #[.bool xs, .int .i64 xt, .int .i64 xv, .int .i64 xf, .slice xa xn xc, .slice ya yn yc]] W fun e w2 => e = .returned (.bool true) ∧
        Hid (Calls Try.prog 29 #[.pointer (some ⟨b, 0, none⟩)] w2 fun e w3 => e = .returned (.bool true) ∧ Hid (∃ s' t' m', Fw w0 w3 b s' x2 x2 2000 t' m'))) := by
  have hi : isId (k : Int) := by unfold isId; omega
  have hfit := hn.propose hi d
  rw [hp] at hfit
  refine (propose_c (h.clu.rep k hk) d hd).mono (fun e w' hh => ?_)
  obtain ⟨xs, xt, xv, xf, xa, xn, xc, ya, yn, yc, e1, hdd⟩ := hh
  rw [hp] at e1 hdd
  refine ⟨xs, xt, xv, xf, xa, xn, xc, ya, yn, yc, e1, Lib.hid (fun W hW => ?_)⟩
  obtain ⟨t', m', _, _, _, q4⟩ := h.clu.call hk hdd.out hfit hn.len hx
  refine (q4 W hW).mono (fun e w2 hh => ⟨hh.1, Lib.hid ?_⟩)
  obtain ⟨t2, m2, c, _, _⟩ := h.moved hh.2.out
  exact flow_c c hS1 (len_done hn.len hx) hf
/-- The log of a replica, where the cluster stays. -/
theorem log_k (h : CluIs w b t x m) {k : Nat} (hk : k < 3) : Calls Try.prog 24 #[.pointer (some ⟨m.p k, 0, none⟩)] w fun e w' => ∃ a c, e = .returned (.slice a (x.r k).l.length c) ∧ Hid (Below w.heap.size w w' ∧ Src (fun _ => True) w' a c (x.r k).l.length (recsV (x.r k).l)) := by
  refine (log_c (h.rep k hk)).mono (fun _ w' hh => ?_)
  obtain ⟨a, c, e1, hr, hb⟩ := hh
  exact ⟨a, c, e1, Lib.hid ⟨hb, hr.src (fun _ _ => trivial)⟩⟩
end
set_option maxHeartbeats 4000000 in
set_option linter.unusedSimpArgs false in
theorem goes_law (a0 : Option Addr) (c0 : Nat) (l : List Op8) (d : List UInt8) (W : World) (hlen : l.length ≤ 9223372036854775807) (hcell : ∀ i x, l[i]? = some x → ∃ b off, a0 = some ⟨b, off, none⟩ ∧ OpRow8 W b (off + i * 4) x) (hd : d.length ≤ 9223372036854775807) : Calls Try.prog 7 #[.slice a0 l.length c0, .string ⟨d.toArray⟩] W fun e w' => e = .returned (.bool true) ∧ Below W.heap.size W w' := by
  have HCELL := Lib.hid (fun (w1 : World) (hb : Below W.heap.size W w1) (i : Nat) (o : Op8) (hi : l[i]? = some o) => (show ∃ b' off, a0 = some ⟨b', off, none⟩ ∧ Hid (OpRow8 w1 b' (off + i * 4) o) from by
    obtain ⟨b', off, h1, h2⟩ := hcell i o hi
    exact ⟨b', off, h1, Lib.hid (h2.on hb)⟩))
  have HO := Lib.hid (show OpsIn8 W (.slice a0 l.length c0) l from ⟨hlen, a0, c0, rfl, hcell⟩)
  obtain ⟨L, hL⟩ : ∃ L, l.length = L := ⟨_, rfl⟩
  rw [hL] at HO hlen ⊢
  have HLn := Lib.hid hL
  clear hcell hL
  go_enter Try.func7, Try.ntmps7
  go_wp2_with fail
  refine (small_c W).mono ?_
  rintro e w1 ⟨rfl, hb1⟩
  have HB1 := Lib.hid hb1
  clear hb1
  go_wp2_with fail
  refine (begin_c w1).mono ?_
  rintro e w2 ⟨b, rfl, HC⟩
  go_wp2_with fail
  obtain ⟨t2, m2, hcz⟩ := HC.out
  have HZ := Lib.hid hcz
  clear HC hcz
  refine (few_c _ l 100 w2 ((HO.out.on HB1.out).on HZ.out.low)).mono ?_
  rintro e w3 ⟨rfl, hw⟩
  rw [hw]
  clear hw
  cases hfew : few8 l 100 with
  | false =>
    clear hfew
    go_wp2_with fail
    go_ret
    exact ⟨rfl, HB1.out.trans (HZ.out.low.mono HB1.out.size)⟩
  | true =>
    have hL100 : L ≤ 100 := by have h1 := (few8_len hfew).1; rw [HLn.out] at h1; exact h1
    clear hfew
    by_cases hd40 : 40 < d.length
    · have hd40' : (40 : Int) < (d.length : Int) := by omega
      go_wp2_with fail
      go_ret
      exact ⟨rfl, HB1.out.trans (HZ.out.low.mono HB1.out.size)⟩
    have hd40' : ¬ (40 : Int) < (d.length : Int) := by omega
    have HV0 := Lib.hid (show ∃ s x t m, Gz w1 w2 b s x t m 0 from ⟨s0, beginC, t2, m2, HZ.out, begin_sim, Nat.zero_le _, bd0⟩)
    clear HZ HO
    go_wp2_with fail
    go_loopw [7] (fun v7 wr => ∃ (i : Nat), i ≤ L ∧ v7 = .int .i64 (i : Int) ∧ Hid (∃ s x t m, Gz w1 wr b s x t m i)) (fun v7 _ => L - (intOf v7).toNat)
    case atStart => exact ⟨0, Nat.zero_le _, rfl, HV0⟩
    case round =>
      obtain ⟨i, hi, rfl, HV⟩ := hrel
      clear HV0
      obtain ⟨wa, hwa⟩ : ∃ wa, wa = wr := ⟨_, rfl⟩
      subst hwa
      obtain ⟨s, x, t, m, hv⟩ := HV.out
      clear HV
      by_cases hiL : i < L
      · have hiL' : (i : Int) < (L : Int) := by omega
        obtain ⟨o, ho⟩ : ∃ o, l[i]? = some o := ⟨l[i]'(by have := HLn.out; omega), List.getElem?_eq_getElem _⟩
        obtain ⟨ob, off, rfl, HOR⟩ := HCELL.out w1 HB1.out i o ho
        obtain ⟨o0, o1, o2, o3, hfit⟩ := HOR.out.on hv.cz.low
        obtain ⟨x', s', ex, hS', hE⟩ := step_next hv.sim (o.k % 16) o.n o.q o.s
        have QST := Lib.hid ((step_c hv.cz.clu (hv.sim.nice hv.len) o hfit ex).mono (R' := fun e w4 => e = .returned (.bool true) ∧ Hid (∃ s x t m, Gz w1 w4 b s x t m (i + 1))) (fun e w4 hh => ⟨hh.1, Lib.hid (by
          obtain ⟨t', m', c, _, _⟩ := hv.cz.moved hh.2.out
          exact ⟨s', x', t', m', c, hS', len_step hv.len ex, bd_step hv.sim hv.bd ex⟩)⟩))
        unfold opV8 at QST
        clear hv ho HOR hfit ex hS' hE
        go_wp2_with ((with_reducible refine QST.out.mono ?_); rintro e w4 ⟨rfl, HV4⟩)
        go_roundw
        case rel => exact ⟨i + 1, hiL, by go_num, HV4⟩
        case measure => simp [intOf]; omega
      · have hiL' : ¬ (i : Int) < (L : Int) := by omega
        have hbd : Bd x 100 100 := hv.bd.mono (by omega) (by omega)
        have hsim := hv.sim
        have HB := Lib.hid hbd
        have HS := Lib.hid hsim
        have hc := hv.cz.clu.c (k := 0) (by decide)
        have y2 := hc.x2
        have yf := hc.fx
        obtain ⟨W5, hW5⟩ : ∃ W5, W5 = wa.setCell ⟨b, 2, none⟩ (.slice none 0 0) := ⟨_, rfl⟩
        have HQ0 := Lib.hid (show ∃ t m, Gq w1 W5 b x x.st 0 t m by rw [hW5]; exact ⟨t, _, hv.cz.cleared, fun j hj => by omega⟩)
        clear hv hc hbd hsim
        go_upto_region 11 with fail
        rw [← hW5]
        clear hW5 y2 yf
        go_wp2_with fail
        go_loopw [8] (fun v8 wr => ∃ (k : Nat) (st : Int → Int), k ≤ 3 ∧ v8 = .int .i64 (k : Int) ∧ Hid (∃ t m, Gq w1 wr b x st k t m)) (fun v8 _ => 3 - (intOf v8).toNat)
        case atStart => exact ⟨0, x.st, by decide, rfl, HQ0⟩
        case round =>
          clear HQ0
          obtain ⟨k, st, hk, rfl, HQ⟩ := hrel
          obtain ⟨wb, hwb⟩ : ∃ wb, wb = wr := ⟨_, rfl⟩
          subst hwb
          obtain ⟨t, m, hq⟩ := HQ.out
          clear HQ
          by_cases hk3 : k < 3
          · have hk3' : (k : Int) < 3 := by omega
            have hc := hq.cz.clu.c hk3
            have y1 := hc.x1
            have ys := hc.s3
            have yf := hc.fs
            have HN := Lib.hid (show ∃ t' m', Gq w1 (wb.setCell ⟨m.sb, k * 4 + 3, none⟩ (Value.int .i64 0)) b x (upd st k 0) (k + 1) t' m' by
              obtain ⟨m', c⟩ := hq.cz.halt hk3 0
              refine ⟨t, m', c, fun j hj => ?_⟩
              by_cases e : j = k
              · subst e; exact upd_same _ _ _
              · rw [upd_ne _ _ (show (j : Int) ≠ (k : Int) by omega)]; exact hq.z j (by omega))
            clear hq hc
            go_wp2_with fail
            go_roundw
            case rel => exact ⟨k + 1, upd st k 0, hk3, by go_num, HN⟩
            case measure => simp [intOf]; omega
          · have hk3' : ¬ (k : Int) < 3 := by omega
            have hz : ∀ j, isId j → st j = 0 := fun j hj => by
              unfold isId at hj
              have := hq.z j.toNat (by omega)
              rwa [show ((j.toNat : Nat) : Int) = j by omega] at this
            obtain ⟨hQ, hB⟩ := quiet_of HS.out HB.out st hz
            obtain ⟨xf, sf, jf, hro, hjf, hQf, _, hled, hBf⟩ := won (k := 13) (i := 0) (T' := 103) hQ (by unfold isId; omega) hB (by omega) (by omega) (by omega)
            obtain ⟨kf, hkf, rfl⟩ : ∃ kf : Nat, kf < 3 ∧ jf = (kf : Int) := ⟨jf.toNat, by unfold isId at hjf; omega, by unfold isId at hjf; omega⟩
            have HGO := Lib.hid (goes hQf hjf hled hBf (by omega) (d := d) (by omega))
            have HR0 := Lib.hid (show ∃ s x t m, Rd w1 wb b s x t m xf kf 0 (-1) from ⟨s, _, t, m, hq.cz, hQ.sim, Nat.zero_le _, Or.inl ⟨rfl, hro⟩⟩)
            have hkf3 : (kf : Int) < 3 := by omega
            clear hq hz hQ hB hro hjf hQf hled hBf
            go_wp2_with fail
            go_loopw [9, 10] (fun v9 v10 wr => ∃ (n : Nat) (ld : Int), n ≤ 18 ∧ v9 = .int .i64 ld ∧ v10 = .int .i64 (n : Int) ∧ Hid (∃ s x t m, Rd w1 wr b s x t m xf kf n ld)) (fun _ v10 _ => 18 - (intOf v10).toNat)
            case atStart => exact ⟨0, -1, by decide, rfl, rfl, HR0⟩
            case round =>
              clear HR0
              obtain ⟨n, ld, hn, rfl, rfl, HR⟩ := hrel
              obtain ⟨wc, hwc⟩ : ∃ wc, wc = wr := ⟨_, rfl⟩
              subst hwc
              obtain ⟨s, x, t, m, hv⟩ := HR.out
              clear HR
              rcases hv.go with ⟨rfl, hro⟩ | ⟨rfl, hxf⟩
              · by_cases hn18 : n < 18
                · have hn18' : (n : Int) < 18 := by omega
                  obtain ⟨k, hk3, hkm⟩ : ∃ k : Nat, k < 3 ∧ (n : Int) % 3 = (k : Int) := ⟨((n : Int) % 3).toNat, by omega, by omega⟩
                  have hk3' : (k : Int) < 3 := by omega
                  rw [hkm, show 18 - n = (17 - n) + 1 by omega] at hro
                  obtain ⟨x1, s1, e1, hS1, _⟩ := tick_next hv.sim (id3 hk3)
                  obtain ⟨x2, e2, hrest⟩ := rounds_step hro e1
                  have QT := Lib.hid (tick_flow hv.cz (hv.sim.nice hv.len) hk3 e1 hS1 e2)
                  have hc := hv.cz.clu.c hk3
                  have x0 := hc.x0
                  have xr := hc.r
                  have htm : (n : Int).tmod 3 = (k : Int) := by rw [← hkm]; exact Int.tmod_eq_emod_of_nonneg (by omega)
                  have HRS := Lib.hid hrest
                  have HKM := Lib.hid hkm
                  clear hv hro e1 hS1 e2 hrest hc
                  go_upto_region 21 with (first | ((with_reducible refine QT.out.mono ?_); rintro e w8 ⟨xs, xt, xv, xf', xa, xn, xc, ya, yn, yc, rfl, QD⟩) | ((with_reducible refine (QD.out _ (Below.refl _ _)).mono ?_); rintro e w9 ⟨rfl, QF⟩) | ((with_reducible refine QF.out.mono ?_); rintro e w10 ⟨rfl, HF2⟩))
                  obtain ⟨s2, t2', m2', hf2⟩ := HF2.out
                  obtain ⟨role, hrole⟩ : ∃ z, (x2.r (k : Int)).role = z := ⟨_, rfl⟩
                  have QR := Lib.hid (show Calls Try.prog 21 #[.pointer (some ⟨m2'.p k, 0, none⟩)] w10 fun e w' => e = .returned (.int .i64 role) ∧ w' = w10 by rw [← hrole]; exact role_c (hf2.cz.clu.rep k hk3))
                  have z0 := (hf2.cz.clu.c hk3).x0
                  have zr := (hf2.cz.clu.c hk3).r
                  have HRL := Lib.hid hrole
                  clear x0 xr QT hrole
                  by_cases hr2 : role = 2
                  · have hr2' : (role == 2) = true := by simp [hr2]
                    have HN := Lib.hid (show ∃ s x t m, Rd w1 w10 b s x t m xf kf (n + 1) (k : Int) from ⟨s2, x2, t2', m2', hf2.cz, hf2.sim, hf2.len, Or.inr (by
                      have q := HRS.out
                      rw [if_pos (by rw [HRL.out]; exact hr2)] at q
                      injection q with q
                      injection q with q1 q2
                      injection q2 with q2
                      exact ⟨q2, q1⟩)⟩)
                    clear hf2 hr2
                    go_wp2_with ((with_reducible refine QR.out.mono ?_); rintro e w11 ⟨rfl, hw⟩; rw [hw]; clear hw)
                    go_roundw
                    case rel => exact ⟨n + 1, (k : Int), hn18, rfl, by go_num, HN⟩
                    case measure => simp [intOf]; omega
                  · have hr2' : (role == 2) = false := by simp [hr2]
                    have HN := Lib.hid (show ∃ s x t m, Rd w1 w10 b s x t m xf kf (n + 1) (-1) from ⟨s2, x2, t2', m2', hf2.cz, hf2.sim, hf2.len, Or.inl ⟨rfl, by
                      have q := HRS.out
                      rw [if_neg (by rw [HRL.out]; exact hr2)] at q
                      rw [show 18 - (n + 1) = 17 - n by omega, show (((n + 1 : Nat) : Int) % 3) = ((k : Int) + 1) % 3 by have := HKM.out; omega]
                      exact q⟩⟩)
                    clear hf2 hr2
                    go_wp2_with ((with_reducible refine QR.out.mono ?_); rintro e w11 ⟨rfl, hw⟩; rw [hw]; clear hw)
                    go_roundw
                    case rel => exact ⟨n + 1, -1, hn18, rfl, by go_num, HN⟩
                    case measure => simp [intOf]; omega
                · exfalso
                  rw [show 18 - n = 0 by omega] at hro
                  injection hro with hro
                  injection hro with _ q
                  cases q
              · have hld0 : ¬ (kf : Int) < 0 := by omega
                obtain rfl : xf = x := hxf.symm
                by_cases hn18 : n < 18
                · have hn18' : (n : Int) < 18 := by omega
                  obtain ⟨r', o, x1, x2, x3, x4, s4, hp, e1, e2, hc2, e3, e4, hQ4, hl4, hall⟩ := HGO.out
                  obtain ⟨x1', s1, e1', hS1, _⟩ := propose_next hv.sim (id3 hkf) d
                  rw [show proposeR (xf.r (kf : Int)) d = _ from hp] at e1'
                  obtain rfl : x1 = x1' := Option.some.inj (e1.symm.trans e1')
                  obtain ⟨LL, hLL⟩ : ∃ n, (xf.r (kf : Int)).l.length = n := ⟨_, rfl⟩
                  rw [hLL] at hp hc2 hall
                  have hLL5 : LL ≤ 4000 := by have := (hv.sim.okr kf (id3 hkf)).l; omega
                  have QP := Lib.hid (propose_flow hv.cz (hv.sim.nice hv.len) hkf (by omega) hp e1 hS1 e2)
                  have hc := hv.cz.clu.c hkf
                  have x0 := hc.x0
                  have xr := hc.r
                  have HC2 := Lib.hid hc2
                  have HE3 := Lib.hid e3
                  have HE4 := Lib.hid e4
                  have HL4 := Lib.hid hl4
                  have HALL := Lib.hid hall
                  have HLL := Lib.hid hLL
                  clear hv hc hp e1 e1' hS1 e2 hc2 e3 e4 hQ4 hl4 hall hLL
                  go_upto_region 26 with ((with_reducible refine QP.out.mono ?_); rintro e w8 ⟨xs, xt, xv, xf', xa, xn, xc, ya, yn, yc, rfl, QD⟩)
                  obtain ⟨U, hU⟩ : ∃ U, U = w8.alloc (.cells #[.bool xs, .int .i64 xt, .int .i64 xv, .int .i64 xf', .slice xa xn xc, .slice ya yn yc] 35) := ⟨_, rfl⟩
                  obtain ⟨k0, k1, k2, k3, k4, k5⟩ := ocell6 (show U.heap[w8.heap.size]? = some (.cells #[.bool xs, .int .i64 xt, .int .i64 xv, .int .i64 xf', .slice xa xn xc, .slice ya yn yc] 35 (0, 0)) by rw [hU]; exact box_new w8 _)
                  have QDU := Lib.hid (QD.out U (by rw [hU]; exact below_new w8 _))
                  rw [← hU]
                  clear hU QD QP x0 xr
                  go_upto_region 28 with (first | ((with_reducible refine QDU.out.mono ?_); rintro e w9 ⟨rfl, QF⟩) | ((with_reducible refine QF.out.mono ?_); rintro e w10 ⟨rfl, HF2⟩; obtain ⟨s2, t2, m2', hf2⟩ := HF2.out; have z0 := (hf2.cz.clu.c hkf).x0; have zr := (hf2.cz.clu.c hkf).r; have QCM := Lib.hid (show Calls Try.prog 22 #[.pointer (some ⟨m2'.p kf, 0, none⟩)] w10 fun e w' => e = .returned (.int .i64 ((LL : Int) + 1)) ∧ w' = w10 by rw [← HC2.out]; exact commit_c (hf2.cz.clu.rep kf hkf)); obtain ⟨x3', s3, e3', hS3, _⟩ := tick_next hf2.sim (id3 hkf); have hx3 : x3' = x3 := Option.some.inj (e3'.symm.trans HE3.out); have QT := Lib.hid (tick_flow hf2.cz (hf2.sim.nice hf2.len) hkf HE3.out (hx3 ▸ hS3) HE4.out); clear hx3 e3' hS3 hf2) | ((with_reducible refine QCM.out.mono ?_); rintro e w11 ⟨rfl, hw⟩; rw [hw]; clear hw))
                  go_wp2_with (first | ((with_reducible refine QT.out.mono ?_); rintro e w12 ⟨xs3, xt3, xv3, xf3, xa3, xn3, xc3, ya3, yn3, yc3, rfl, QD3⟩) | ((with_reducible refine (QD3.out _ (Below.refl _ _)).mono ?_); rintro e w13 ⟨rfl, QF3⟩) | ((with_reducible refine QF3.out.mono ?_); rintro e w14 ⟨rfl, HF4⟩))
                  obtain ⟨s4', t4', m4', hf4⟩ := HF4.out
                  have H4 := Lib.hid hf4.cz
                  clear hf4 HF4 QT QCM z0 zr k0 k1 k2 k3 k4 k5 QDU
                  go_loopw [14] (fun v14 wr => ∃ i : Nat, i ≤ 3 ∧ v14 = .int .i64 (i : Int) ∧ Hid (Below w14.heap.size w14 wr)) (fun v14 _ => 3 - (intOf v14).toNat)
                  case atStart => exact ⟨0, by decide, rfl, Lib.hid (Below.refl _ _)⟩
                  case round =>
                    obtain ⟨i, hi, rfl, HBZ⟩ := hrel
                    have H5 := Lib.hid (H4.out.on HBZ.out)
                    by_cases hi3 : i < 3
                    · have hi3' : (i : Int) < 3 := by omega
                      have hci := H5.out.clu.c hi3
                      have hck := H5.out.clu.c hkf
                      have z0 := hci.x0
                      have zi := hci.r
                      have zk := hck.r
                      obtain ⟨hcm, hli⟩ := HALL.out i (id3 hi3)
                      have QC := Lib.hid (show Calls Try.prog 22 #[.pointer (some ⟨m4'.p i, 0, none⟩)] wr.drew fun e w' => e = .returned (.int .i64 ((LL : Int) + 1)) ∧ w' = wr.drew by rw [← hcm]; exact commit_c ((H5.out.on (below_drew (Below.refl _ _))).clu.rep i hi3))
                      obtain ⟨LS, hLS⟩ : ∃ l, (x4.r (kf : Int)).l = l := ⟨_, rfl⟩
                      rw [hLS] at hli
                      obtain ⟨LM, hLM⟩ : ∃ n, LS.length = n := ⟨_, rfl⟩
                      have hs4 : LM ≤ 4001 := by
                        have q := congrArg List.length HL4.out
                        rw [hLS, hLM, List.length_append, HLL.out] at q
                        simp at q
                        omega
                      have QL1 := Lib.hid (show Calls Try.prog 24 #[.pointer (some ⟨m4'.p i, 0, none⟩)] wr.drew fun e w' => ∃ a c, e = .returned (.slice a LM c) ∧ (w'.cell? ⟨b, 0, none⟩ = some (.slice (some ⟨m4'.rb, 0, none⟩) 3 m4'.rc) ∧ w'.cell? ⟨m4'.rb, i, none⟩ = some (.pointer (some ⟨m4'.p i, 0, none⟩)) ∧ w'.cell? ⟨m4'.rb, kf, none⟩ = some (.pointer (some ⟨m4'.p kf, 0, none⟩))) ∧ Hid (Below w14.heap.size w14 w' ∧ Src (fun _ => True) w' a c LS.length (recsV LS)) from by
                        have hb := below_drew (Below.refl wr.heap.size wr)
                        have q := log_k (H5.out.on hb).clu hi3
                        rw [hli, hLM] at q
                        exact q.mono (fun e w' hh => by
                          obtain ⟨a, c, q1, q2⟩ := hh
                          have hc1 := (((H5.out.on hb).on q2.out.1).clu.c hi3)
                          have hc2 := (((H5.out.on hb).on q2.out.1).clu.c hkf)
                          exact ⟨a, c, q1, ⟨hc1.x0, hc1.r, hc2.r⟩, Lib.hid ⟨HBZ.out.trans ((hb.trans q2.out.1).mono HBZ.out.size), by rw [hLM]; exact q2.out.2⟩⟩))
                      have QL2 := Lib.hid (fun (Wz : World) (a : Option Addr) (c : Nat) (hb : Below w14.heap.size w14 Wz ∧ Src (fun _ => True) Wz a c LS.length (recsV LS)) => (show Calls Try.prog 24 #[.pointer (some ⟨m4'.p kf, 0, none⟩)] Wz fun e w' => ∃ a2 c2, e = .returned (.slice a2 LM c2) ∧ (w'.cell? ⟨b, 0, none⟩ = some (.slice (some ⟨m4'.rb, 0, none⟩) 3 m4'.rc) ∧ w'.cell? ⟨m4'.rb, i, none⟩ = some (.pointer (some ⟨m4'.p i, 0, none⟩)) ∧ w'.cell? ⟨m4'.rb, kf, none⟩ = some (.pointer (some ⟨m4'.p kf, 0, none⟩))) ∧ Hid (Calls Try.prog 23 #[.slice a LM c, .slice a2 LM c2] w' fun e w2 => e = .returned (.bool true) ∧ (w2.cell? ⟨b, 0, none⟩ = some (.slice (some ⟨m4'.rb, 0, none⟩) 3 m4'.rc) ∧ w2.cell? ⟨m4'.rb, i, none⟩ = some (.pointer (some ⟨m4'.p i, 0, none⟩)) ∧ w2.cell? ⟨m4'.rb, kf, none⟩ = some (.pointer (some ⟨m4'.p kf, 0, none⟩))) ∧ Hid (Below w14.heap.size w14 w2)) from by
                        have H6 := H4.out.on hb.1
                        have q := log_k H6.clu hkf
                        rw [hLS, hLM] at q
                        exact q.mono (fun e w' hh => by
                          obtain ⟨a2, c2, q1, q2⟩ := hh
                          have hw1 := hb.1.trans (q2.out.1.mono hb.1.size)
                          have hc1 := ((H4.out.on hw1).clu.c hi3)
                          have hc2 := ((H4.out.on hw1).clu.c hkf)
                          refine ⟨a2, c2, q1, ⟨hc1.x0, hc1.r, hc2.r⟩, Lib.hid ?_⟩
                          have q3 := same_c w' LS a c (hb.2.on q2.out.1) a2 c2 (by rw [hLM]; exact q2.out.2) (by omega)
                          rw [hLM] at q3
                          exact q3.mono (fun e w2 hh => by
                            obtain ⟨r1, n, r2⟩ := hh
                            have hw2 : Below w14.heap.size w14 w2 := by rw [r2]; exact hw1.trans ((show Below w'.heap.size w' (w'.drewN n) from ⟨rfl, rfl, rfl, Nat.le_refl _, fun _ _ => rfl⟩).mono hw1.size)
                            have hc3 := ((H4.out.on hw2).clu.c hi3)
                            have hc4 := ((H4.out.on hw2).clu.c hkf)
                            exact ⟨r1, ⟨hc3.x0, hc3.r, hc4.r⟩, Lib.hid hw2⟩))))
                      have HBD := Lib.hid (HBZ.out.trans ((below_drew (Below.refl wr.heap.size wr)).mono HBZ.out.size))
                      clear hci hck hcm hli hLS hLM
                      go_upto_region 33 with fail
                      go_region_held3 (fun w' => w'.cell? ⟨b, 0, none⟩ = some (.slice (some ⟨m4'.rb, 0, none⟩) 3 m4'.rc) ∧ w'.cell? ⟨m4'.rb, i, none⟩ = some (.pointer (some ⟨m4'.p i, 0, none⟩)) ∧ w'.cell? ⟨m4'.rb, kf, none⟩ = some (.pointer (some ⟨m4'.p kf, 0, none⟩)))
                        (first | exact ⟨z0, zi, zk⟩ | exact n1 | exact n2 | exact n3 | go_keep)
                        ((first | (go_at_call 23; (with_reducible refine QS.out.mono ?_); rintro e w18 ⟨rfl, n3, HB18⟩) | (go_at_call 24; (with_reducible refine (QL2.out _ _ _ HL16.out).mono ?_); rintro e w17 ⟨la2, lc2, rfl, n2, QS⟩) | (go_at_call 24; (with_reducible refine QL1.out.mono ?_); rintro e w16 ⟨la1, lc1, rfl, n1, HL16⟩) | (go_at_call 22; (with_reducible refine QC.out.mono ?_); rintro e w15 ⟨rfl, hw⟩; rw [hw]; clear hw)))
                      clear z0 zi zk n1 n2 n3 QC QL1 QL2 QS HL16
                      go_wp2_with fail
                      go_roundw
                      case rel => exact ⟨i + 1, hi3, by go_num, HB18⟩
                      case measure => simp [intOf]; omega
                    · have hi3' : ¬ (i : Int) < 3 := by omega
                      have hck := H5.out.clu.c hkf
                      have z0 := hck.x0
                      have zk := hck.r
                      obtain ⟨LS, hLS⟩ : ∃ l, (x4.r (kf : Int)).l = l := ⟨_, rfl⟩
                      have hlen : LS.length = LL + 1 := by
                        rw [← hLS, HL4.out, List.length_append, HLL.out]
                        rfl
                      have hlast : LS[LL]? = some ⟨(xf.r (kf : Int)).h.tm, d⟩ := by
                        rw [← hLS, HL4.out, List.getElem?_append_right (by rw [HLL.out]; exact Nat.le_refl _), HLL.out, Nat.sub_self]
                        rfl
                      have QLL := Lib.hid (show Calls Try.prog 24 #[.pointer (some ⟨m4'.p kf, 0, none⟩)] wr fun e w' => ∃ lb lo c, e = .returned (.slice (some ⟨lb, lo, none⟩) (LL + 1) c) ∧ w'.cell? ⟨lb, lo + LL * 2 + 1, none⟩ = some (.string ⟨d.toArray⟩) ∧ Hid (Below wr.heap.size wr w') from by
                        have q := log_k H5.out.clu hkf
                        rw [hLS, hlen] at q
                        exact q.mono (fun e w' hh => by
                          obtain ⟨a, c, q1, q2⟩ := hh
                          obtain ⟨lb, lo, r1, _, r3⟩ := rec_cells (show Src (fun _ => True) w' a c LS.length (recsV LS) by rw [hlen]; exact q2.out.2) rfl hlast
                          rw [r1] at q1
                          exact ⟨lb, lo, c, q1, r3, Lib.hid q2.out.1⟩))
                      have HBE := Lib.hid (H5.out.low)
                      have hsub : IntKind.i64.wrap ((LL : Int) + 1 - 1) = (LL : Int) := by rw [show (LL : Int) + 1 - 1 = (LL : Int) by omega]; exact IntWalk.i64_in _ (by omega)
                      clear hck hLS hlen hlast
                      go_wp2_with ((with_reducible refine QLL.out.mono ?_); rintro e w15 ⟨lb, lo, lc, rfl, u1, HB15⟩)
                      go_ret
                      exact ⟨rfl, HB1.out.trans ((HBE.out.trans (HB15.out.mono HBE.out.size)).mono HB1.out.size)⟩
                · have hn18' : ¬ (n : Int) < 18 := by omega
                  obtain ⟨r', o, x1, x2, x3, x4, s4, hp, e1, e2, hc2, e3, e4, hQ4, hl4, hall⟩ := HGO.out
                  obtain ⟨x1', s1, e1', hS1, _⟩ := propose_next hv.sim (id3 hkf) d
                  rw [show proposeR (xf.r (kf : Int)) d = _ from hp] at e1'
                  obtain rfl : x1 = x1' := Option.some.inj (e1.symm.trans e1')
                  obtain ⟨LL, hLL⟩ : ∃ n, (xf.r (kf : Int)).l.length = n := ⟨_, rfl⟩
                  rw [hLL] at hp hc2 hall
                  have hLL5 : LL ≤ 4000 := by have := (hv.sim.okr kf (id3 hkf)).l; omega
                  have QP := Lib.hid (propose_flow hv.cz (hv.sim.nice hv.len) hkf (by omega) hp e1 hS1 e2)
                  have hc := hv.cz.clu.c hkf
                  have x0 := hc.x0
                  have xr := hc.r
                  have HC2 := Lib.hid hc2
                  have HE3 := Lib.hid e3
                  have HE4 := Lib.hid e4
                  have HL4 := Lib.hid hl4
                  have HALL := Lib.hid hall
                  have HLL := Lib.hid hLL
                  clear hv hc hp e1 e1' hS1 e2 hc2 e3 e4 hQ4 hl4 hall hLL
                  go_upto_region 26 with ((with_reducible refine QP.out.mono ?_); rintro e w8 ⟨xs, xt, xv, xf', xa, xn, xc, ya, yn, yc, rfl, QD⟩)
                  obtain ⟨U, hU⟩ : ∃ U, U = w8.alloc (.cells #[.bool xs, .int .i64 xt, .int .i64 xv, .int .i64 xf', .slice xa xn xc, .slice ya yn yc] 35) := ⟨_, rfl⟩
                  obtain ⟨k0, k1, k2, k3, k4, k5⟩ := ocell6 (show U.heap[w8.heap.size]? = some (.cells #[.bool xs, .int .i64 xt, .int .i64 xv, .int .i64 xf', .slice xa xn xc, .slice ya yn yc] 35 (0, 0)) by rw [hU]; exact box_new w8 _)
                  have QDU := Lib.hid (QD.out U (by rw [hU]; exact below_new w8 _))
                  rw [← hU]
                  clear hU QD QP x0 xr
                  go_upto_region 28 with (first | ((with_reducible refine QDU.out.mono ?_); rintro e w9 ⟨rfl, QF⟩) | ((with_reducible refine QF.out.mono ?_); rintro e w10 ⟨rfl, HF2⟩; obtain ⟨s2, t2, m2', hf2⟩ := HF2.out; have z0 := (hf2.cz.clu.c hkf).x0; have zr := (hf2.cz.clu.c hkf).r; have QCM := Lib.hid (show Calls Try.prog 22 #[.pointer (some ⟨m2'.p kf, 0, none⟩)] w10 fun e w' => e = .returned (.int .i64 ((LL : Int) + 1)) ∧ w' = w10 by rw [← HC2.out]; exact commit_c (hf2.cz.clu.rep kf hkf)); obtain ⟨x3', s3, e3', hS3, _⟩ := tick_next hf2.sim (id3 hkf); have hx3 : x3' = x3 := Option.some.inj (e3'.symm.trans HE3.out); have QT := Lib.hid (tick_flow hf2.cz (hf2.sim.nice hf2.len) hkf HE3.out (hx3 ▸ hS3) HE4.out); clear hx3 e3' hS3 hf2) | ((with_reducible refine QCM.out.mono ?_); rintro e w11 ⟨rfl, hw⟩; rw [hw]; clear hw))
                  go_wp2_with (first | ((with_reducible refine QT.out.mono ?_); rintro e w12 ⟨xs3, xt3, xv3, xf3, xa3, xn3, xc3, ya3, yn3, yc3, rfl, QD3⟩) | ((with_reducible refine (QD3.out _ (Below.refl _ _)).mono ?_); rintro e w13 ⟨rfl, QF3⟩) | ((with_reducible refine QF3.out.mono ?_); rintro e w14 ⟨rfl, HF4⟩))
                  obtain ⟨s4', t4', m4', hf4⟩ := HF4.out
                  have H4 := Lib.hid hf4.cz
                  clear hf4 HF4 QT QCM z0 zr k0 k1 k2 k3 k4 k5 QDU
                  go_loopw [14] (fun v14 wr => ∃ i : Nat, i ≤ 3 ∧ v14 = .int .i64 (i : Int) ∧ Hid (Below w14.heap.size w14 wr)) (fun v14 _ => 3 - (intOf v14).toNat)
                  case atStart => exact ⟨0, by decide, rfl, Lib.hid (Below.refl _ _)⟩
                  case round =>
                    obtain ⟨i, hi, rfl, HBZ⟩ := hrel
                    have H5 := Lib.hid (H4.out.on HBZ.out)
                    by_cases hi3 : i < 3
                    · have hi3' : (i : Int) < 3 := by omega
                      have hci := H5.out.clu.c hi3
                      have hck := H5.out.clu.c hkf
                      have z0 := hci.x0
                      have zi := hci.r
                      have zk := hck.r
                      obtain ⟨hcm, hli⟩ := HALL.out i (id3 hi3)
                      have QC := Lib.hid (show Calls Try.prog 22 #[.pointer (some ⟨m4'.p i, 0, none⟩)] wr.drew fun e w' => e = .returned (.int .i64 ((LL : Int) + 1)) ∧ w' = wr.drew by rw [← hcm]; exact commit_c ((H5.out.on (below_drew (Below.refl _ _))).clu.rep i hi3))
                      obtain ⟨LS, hLS⟩ : ∃ l, (x4.r (kf : Int)).l = l := ⟨_, rfl⟩
                      rw [hLS] at hli
                      obtain ⟨LM, hLM⟩ : ∃ n, LS.length = n := ⟨_, rfl⟩
                      have hs4 : LM ≤ 4001 := by
                        have q := congrArg List.length HL4.out
                        rw [hLS, hLM, List.length_append, HLL.out] at q
                        simp at q
                        omega
                      have QL1 := Lib.hid (show Calls Try.prog 24 #[.pointer (some ⟨m4'.p i, 0, none⟩)] wr.drew fun e w' => ∃ a c, e = .returned (.slice a LM c) ∧ (w'.cell? ⟨b, 0, none⟩ = some (.slice (some ⟨m4'.rb, 0, none⟩) 3 m4'.rc) ∧ w'.cell? ⟨m4'.rb, i, none⟩ = some (.pointer (some ⟨m4'.p i, 0, none⟩)) ∧ w'.cell? ⟨m4'.rb, kf, none⟩ = some (.pointer (some ⟨m4'.p kf, 0, none⟩))) ∧ Hid (Below w14.heap.size w14 w' ∧ Src (fun _ => True) w' a c LS.length (recsV LS)) from by
                        have hb := below_drew (Below.refl wr.heap.size wr)
                        have q := log_k (H5.out.on hb).clu hi3
                        rw [hli, hLM] at q
                        exact q.mono (fun e w' hh => by
                          obtain ⟨a, c, q1, q2⟩ := hh
                          have hc1 := (((H5.out.on hb).on q2.out.1).clu.c hi3)
                          have hc2 := (((H5.out.on hb).on q2.out.1).clu.c hkf)
                          exact ⟨a, c, q1, ⟨hc1.x0, hc1.r, hc2.r⟩, Lib.hid ⟨HBZ.out.trans ((hb.trans q2.out.1).mono HBZ.out.size), by rw [hLM]; exact q2.out.2⟩⟩))
                      have QL2 := Lib.hid (fun (Wz : World) (a : Option Addr) (c : Nat) (hb : Below w14.heap.size w14 Wz ∧ Src (fun _ => True) Wz a c LS.length (recsV LS)) => (show Calls Try.prog 24 #[.pointer (some ⟨m4'.p kf, 0, none⟩)] Wz fun e w' => ∃ a2 c2, e = .returned (.slice a2 LM c2) ∧ (w'.cell? ⟨b, 0, none⟩ = some (.slice (some ⟨m4'.rb, 0, none⟩) 3 m4'.rc) ∧ w'.cell? ⟨m4'.rb, i, none⟩ = some (.pointer (some ⟨m4'.p i, 0, none⟩)) ∧ w'.cell? ⟨m4'.rb, kf, none⟩ = some (.pointer (some ⟨m4'.p kf, 0, none⟩))) ∧ Hid (Calls Try.prog 23 #[.slice a LM c, .slice a2 LM c2] w' fun e w2 => e = .returned (.bool true) ∧ (w2.cell? ⟨b, 0, none⟩ = some (.slice (some ⟨m4'.rb, 0, none⟩) 3 m4'.rc) ∧ w2.cell? ⟨m4'.rb, i, none⟩ = some (.pointer (some ⟨m4'.p i, 0, none⟩)) ∧ w2.cell? ⟨m4'.rb, kf, none⟩ = some (.pointer (some ⟨m4'.p kf, 0, none⟩))) ∧ Hid (Below w14.heap.size w14 w2)) from by
                        have H6 := H4.out.on hb.1
                        have q := log_k H6.clu hkf
                        rw [hLS, hLM] at q
                        exact q.mono (fun e w' hh => by
                          obtain ⟨a2, c2, q1, q2⟩ := hh
                          have hw1 := hb.1.trans (q2.out.1.mono hb.1.size)
                          have hc1 := ((H4.out.on hw1).clu.c hi3)
                          have hc2 := ((H4.out.on hw1).clu.c hkf)
                          refine ⟨a2, c2, q1, ⟨hc1.x0, hc1.r, hc2.r⟩, Lib.hid ?_⟩
                          have q3 := same_c w' LS a c (hb.2.on q2.out.1) a2 c2 (by rw [hLM]; exact q2.out.2) (by omega)
                          rw [hLM] at q3
                          exact q3.mono (fun e w2 hh => by
                            obtain ⟨r1, n, r2⟩ := hh
                            have hw2 : Below w14.heap.size w14 w2 := by rw [r2]; exact hw1.trans ((show Below w'.heap.size w' (w'.drewN n) from ⟨rfl, rfl, rfl, Nat.le_refl _, fun _ _ => rfl⟩).mono hw1.size)
                            have hc3 := ((H4.out.on hw2).clu.c hi3)
                            have hc4 := ((H4.out.on hw2).clu.c hkf)
                            exact ⟨r1, ⟨hc3.x0, hc3.r, hc4.r⟩, Lib.hid hw2⟩))))
                      have HBD := Lib.hid (HBZ.out.trans ((below_drew (Below.refl wr.heap.size wr)).mono HBZ.out.size))
                      clear hci hck hcm hli hLS hLM
                      go_upto_region 33 with fail
                      go_region_held3 (fun w' => w'.cell? ⟨b, 0, none⟩ = some (.slice (some ⟨m4'.rb, 0, none⟩) 3 m4'.rc) ∧ w'.cell? ⟨m4'.rb, i, none⟩ = some (.pointer (some ⟨m4'.p i, 0, none⟩)) ∧ w'.cell? ⟨m4'.rb, kf, none⟩ = some (.pointer (some ⟨m4'.p kf, 0, none⟩)))
                        (first | exact ⟨z0, zi, zk⟩ | exact n1 | exact n2 | exact n3 | go_keep)
                        ((first | (go_at_call 23; (with_reducible refine QS.out.mono ?_); rintro e w18 ⟨rfl, n3, HB18⟩) | (go_at_call 24; (with_reducible refine (QL2.out _ _ _ HL16.out).mono ?_); rintro e w17 ⟨la2, lc2, rfl, n2, QS⟩) | (go_at_call 24; (with_reducible refine QL1.out.mono ?_); rintro e w16 ⟨la1, lc1, rfl, n1, HL16⟩) | (go_at_call 22; (with_reducible refine QC.out.mono ?_); rintro e w15 ⟨rfl, hw⟩; rw [hw]; clear hw)))
                      clear z0 zi zk n1 n2 n3 QC QL1 QL2 QS HL16
                      go_wp2_with fail
                      go_roundw
                      case rel => exact ⟨i + 1, hi3, by go_num, HB18⟩
                      case measure => simp [intOf]; omega
                    · have hi3' : ¬ (i : Int) < 3 := by omega
                      have hck := H5.out.clu.c hkf
                      have z0 := hck.x0
                      have zk := hck.r
                      obtain ⟨LS, hLS⟩ : ∃ l, (x4.r (kf : Int)).l = l := ⟨_, rfl⟩
                      have hlen : LS.length = LL + 1 := by
                        rw [← hLS, HL4.out, List.length_append, HLL.out]
                        rfl
                      have hlast : LS[LL]? = some ⟨(xf.r (kf : Int)).h.tm, d⟩ := by
                        rw [← hLS, HL4.out, List.getElem?_append_right (by rw [HLL.out]; exact Nat.le_refl _), HLL.out, Nat.sub_self]
                        rfl
                      have QLL := Lib.hid (show Calls Try.prog 24 #[.pointer (some ⟨m4'.p kf, 0, none⟩)] wr fun e w' => ∃ lb lo c, e = .returned (.slice (some ⟨lb, lo, none⟩) (LL + 1) c) ∧ w'.cell? ⟨lb, lo + LL * 2 + 1, none⟩ = some (.string ⟨d.toArray⟩) ∧ Hid (Below wr.heap.size wr w') from by
                        have q := log_k H5.out.clu hkf
                        rw [hLS, hlen] at q
                        exact q.mono (fun e w' hh => by
                          obtain ⟨a, c, q1, q2⟩ := hh
                          obtain ⟨lb, lo, r1, _, r3⟩ := rec_cells (show Src (fun _ => True) w' a c LS.length (recsV LS) by rw [hlen]; exact q2.out.2) rfl hlast
                          rw [r1] at q1
                          exact ⟨lb, lo, c, q1, r3, Lib.hid q2.out.1⟩))
                      have HBE := Lib.hid (H5.out.low)
                      have hsub : IntKind.i64.wrap ((LL : Int) + 1 - 1) = (LL : Int) := by rw [show (LL : Int) + 1 - 1 = (LL : Int) by omega]; exact IntWalk.i64_in _ (by omega)
                      clear hck hLS hlen hlast
                      go_wp2_with ((with_reducible refine QLL.out.mono ?_); rintro e w15 ⟨lb, lo, lc, rfl, u1, HB15⟩)
                      go_ret
                      exact ⟨rfl, HB1.out.trans ((HBE.out.trans (HB15.out.mono HBE.out.size)).mono HB1.out.size)⟩
theorem goes_in (v : Value) (l : List Op8) (d : List UInt8) (W : World) (h : OpsIn8 W v l) (hd : d.length ≤ 9223372036854775807) : Calls Try.prog 7 #[v, .string ⟨d.toArray⟩] W fun e w' => e = .returned (.bool true) ∧ Below W.heap.size W w' := by
  obtain ⟨h1, a, c, rfl, h2⟩ := h
  exact goes_law a c l d W h1 h2 hd
end Go.Proofs.Ytoghaogcekappaa
