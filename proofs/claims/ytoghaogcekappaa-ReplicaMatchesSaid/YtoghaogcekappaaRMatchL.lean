/-
  ReplicaMatches: the walk.
-/
import Derived.Test.YtoghaogcekappaaRLaw
import Derived.BigRegion
import Derived.Deep.RegionHeld3
import Derived.IntWalk
namespace Go.Proofs.Ytoghaogcekappaa
set_option maxRecDepth 100000
open Go Go.RowKit Rp

/-- The state of the law's loop. -/
structure Mt (w0 w : World) (b : Nat) (s : St) (x : Cl) (t : Nat → Nat) (m : CM) (tb : Nat) (ta : Array Value) (T : Nat → Int) : Prop where
  cz : Cz w0 w b x t m
  sim : Sim s x
  len : x.sent.length ≤ 300
  tbx : w.heap[tb]? = some (.cells ta 3 (0, 0))
  tce : ∀ k : Nat, k < 3 → ta[k]? = some (.int .i64 (T k))
  t9 : t tb = 9
  tb0 : w0.heap.size ≤ tb
  le : ∀ k : Nat, k < 3 → T k ≤ (x.r k).h.tm
section
variable {w0 w w' : World} {b : Nat} {s s' : St} {x x' : Cl} {t : Nat → Nat} {m : CM} {tb : Nat} {ta : Array Value} {T : Nat → Int}
theorem id3 {k : Nat} (h : k < 3) : isId (k : Int) := by unfold isId; omega
theorem Mt.on (h : Mt w0 w b s x t m tb ta T) (hb : Below w.heap.size w w') : Mt w0 w' b s x t m tb ta T := ⟨h.cz.on hb, h.sim, h.len, box_on h.tbx hb, h.tce, h.t9, h.tb0, h.le⟩
theorem Mt.moved (h : Mt w0 w b s x t m tb ta T) {k who n : Int} {d : List UInt8} (ex : stepC x k who n d = some x') (hS : Sim s' x') (hE : Ext s s') (hm : Moved w w' b t x') : ∃ t' m', Mt w0 w' b s' x' t' m' tb ta T := by
  obtain ⟨t', m', c, h1, h2⟩ := h.cz.moved hm
  have hl := box_lt h.tbx
  exact ⟨t', m', c, hS, len_step h.len ex, h2.heap h.tbx (fun e => by have := h.t9; omega), h.tce, (h1 tb hl).trans h.t9, h.tb0, fun k hk => Int.le_trans (h.le k hk) (h.sim.terms hS hE (id3 hk))⟩
theorem Mt.set (h : Mt w0 w b s x t m tb ta T) {k : Nat} (hk : k < 3) : ∃ ta' T', Mt w0 (w.setCell ⟨tb, k, none⟩ (.int .i64 (x.r k).h.tm)) b s x t m tb ta' T' := by
  have hk9 : Kept (fun j => j = tb) w (w.setCell ⟨tb, k, none⟩ (.int .i64 (x.r k).h.tm)) := Kept.set tb k w _
  refine ⟨ta.setIfInBounds k (.int .i64 (x.r k).h.tm), updN T k (x.r k).h.tm, ⟨h.cz.low.trans (hk9.toBelow h.cz.low.size (fun j e => by rw [e]; exact h.tb0)), h.cz.t0, h.cz.clu.far8 (hk9.mono (fun j _ e => by rw [e, h.t9]; decide))⟩, h.sim, h.len, box_set h.tbx _ _, fun j hj => ?_, h.t9, h.tb0, fun j hj => ?_⟩
  · by_cases q : j = k
    · subst q
      rw [updN_same]
      exact get_put (h.tce j hj)
    · rw [updN_ne _ _ q]
      exact get_set (h.tce j hj) q
  · by_cases q : j = k
    · subst q
      rw [updN_same]
      exact Int.le_refl _
    · rw [updN_ne _ _ q]
      exact h.le j hj
/-- What is read when a replica is compared with what is stored of it. -/
def SC (w : World) (b : Nat) (R : Rp.R) (m : CM) (k : Nat) (L : Nat) (tb : Nat) (T : Nat → Int) : Prop := w.cell? ⟨b, 0, none⟩ = some (.slice (some ⟨m.rb, 0, none⟩) 3 m.rc) ∧ w.cell? ⟨b, 1, none⟩ = some (.slice (some ⟨m.sb, 0, none⟩) 3 m.sc) ∧ w.cell? ⟨m.rb, k, none⟩ = some (.pointer (some ⟨m.p k, 0, none⟩)) ∧ w.cell? ⟨m.sb, k * 4, none⟩ = some (.int .i64 R.h.tm) ∧ w.cell? ⟨m.sb, k * 4 + 1, none⟩ = some (.int .i64 R.h.vt) ∧ w.cell? ⟨m.sb, k * 4 + 2, none⟩ = some (.slice (m.la k) L (m.lc k)) ∧ w.cell? ⟨tb, k, none⟩ = some (.int .i64 (T k))
theorem Mt.sc (h : Mt w0 w b s x t m tb ta T) {k : Nat} (hk : k < 3) : SC w b (x.r k) m k (x.r k).l.length tb T := by
  have c := h.cz.clu.c hk
  have e1 := h.sim.hd k (id3 hk)
  have e2 := h.sim.lg k (id3 hk)
  refine ⟨c.x0, c.x1, c.r, by rw [← e1]; exact c.s0, by rw [← e1]; exact c.s1, by rw [← e2]; exact c.s2, ?_⟩
  rw [Lib.cell_of_heap h.tbx]
  exact h.tce k hk
/-- Hard, beside a cluster. -/
theorem Mt.hard (h : Mt w0 w b s x t m tb ta T) {k : Nat} (hk : k < 3) : Calls Try.prog 20 #[.pointer (some ⟨m.p k, 0, none⟩)] w fun e w' => e = .returned (.agg #[.int .i64 (x.r k).h.tm, .int .i64 (x.r k).h.vt]) ∧ SC w' b (x.r k) m k (x.r k).l.length tb T ∧ Hid (Below w.heap.size w w') :=
  (hard_c (h.cz.clu.rep k hk)).mono (fun _ _ hh => ⟨hh.1, (h.on hh.2).sc hk, Lib.hid hh.2⟩)
/-- Log, beside a cluster; its comparison with what is stored. -/
theorem Mt.log (h : Mt w0 w b s x t m tb ta T) {k : Nat} (hk : k < 3) : Calls Try.prog 24 #[.pointer (some ⟨m.p k, 0, none⟩)] w fun e w' => ∃ a c, e = .returned (.slice a (x.r k).l.length c) ∧ SC w' b (x.r k) m k (x.r k).l.length tb T ∧ Hid (Below w.heap.size w w' ∧ Src (fun _ => True) w' a c (x.r k).l.length (recsV (x.r k).l)) ∧
      Hid (Calls Try.prog 23 #[.slice a (x.r k).l.length c, .slice (m.la k) (x.r k).l.length (m.lc k)] w' fun e w2 => e = .returned (.bool true) ∧ SC w2 b (x.r k) m k (x.r k).l.length tb T ∧ Hid (Below w'.heap.size w' w2)) := by
  refine (log_c (h.cz.clu.rep k hk)).mono (fun _ w' hh => ?_)
  obtain ⟨a, c, e1, hr, hb⟩ := hh
  have h' := h.on hb
  have hs := hr.src (G := fun _ => True) (fun _ _ => trivial)
  have e2 := h.sim.lg k (id3 hk)
  have hs2 := h'.cz.clu.lgs k hk
  rw [e2] at hs2
  have ho := (h.sim.okr k (id3 hk)).l
  exact ⟨a, c, e1, h'.sc hk, Lib.hid ⟨hb, hs⟩, Lib.hid ((same_c w' (x.r k).l a c hs (m.la k) (m.lc k) hs2 (by omega)).mono (fun e w2 hh => by
    obtain ⟨q1, n, q2⟩ := hh
    have hb2 : Below w'.heap.size w' w2 := by rw [q2]; exact ⟨rfl, rfl, rfl, Nat.le_refl _, fun _ _ => rfl⟩
    exact ⟨q1, (h'.on hb2).sc hk, Lib.hid hb2⟩))⟩
end
set_option maxHeartbeats 4000000 in
set_option linter.unusedSimpArgs false in
theorem match_law (a0 : Option Addr) (c0 : Nat) (l : List Op8) (W : World) (hlen : l.length ≤ 9223372036854775807) (hcell : ∀ i x, l[i]? = some x → ∃ b off, a0 = some ⟨b, off, none⟩ ∧ OpRow8 W b (off + i * 4) x) : Calls Try.prog 5 #[.slice a0 l.length c0] W fun e w' => e = .returned (.bool true) ∧ Below W.heap.size W w' := by
  have HCELL := Lib.hid (fun (w1 : World) (hb : Below W.heap.size W w1) (i : Nat) (o : Op8) (hi : l[i]? = some o) => (show ∃ b' off, a0 = some ⟨b', off, none⟩ ∧ Hid (OpRow8 w1 b' (off + i * 4) o) from by
    obtain ⟨b', off, h1, h2⟩ := hcell i o hi
    exact ⟨b', off, h1, Lib.hid (h2.on hb)⟩))
  have HO := Lib.hid (show OpsIn8 W (.slice a0 l.length c0) l from ⟨hlen, a0, c0, rfl, hcell⟩)
  obtain ⟨L, hL⟩ : ∃ L, l.length = L := ⟨_, rfl⟩
  rw [hL] at HO hlen ⊢
  have HLn := Lib.hid hL
  clear hcell hL
  go_enter Try.func5, Try.ntmps5
  go_wp2_with fail
  refine (small_c W).mono ?_
  rintro e w1 ⟨rfl, hb1⟩
  have HB1 := Lib.hid hb1
  clear hb1
  go_wp2_with fail
  refine (begin_c w1).mono ?_
  rintro e w2 ⟨b, rfl, HC⟩
  go_wp2_with fail
  obtain ⟨t2, m2, hcz⟩ := HC.out
  have HZ := Lib.hid hcz
  clear HC hcz
  refine (few_c _ l 150 w2 ((HO.out.on HB1.out).on HZ.out.low)).mono ?_
  rintro e w3 ⟨rfl, hw⟩
  rw [hw]
  clear hw
  cases hfew : few8 l 150 with
  | false =>
    clear hfew
    go_wp2_with fail
    go_ret
    exact ⟨rfl, HB1.out.trans (HZ.out.low.mono HB1.out.size)⟩
  | true =>
    have hL150 : L ≤ 150 := by have h1 := (few8_len hfew).1; rw [HLn.out] at h1; exact h1
    clear hfew
    obtain ⟨W3, hW3⟩ : ∃ W3, W3 = w2.alloc (.cells #[.int .i64 0, .int .i64 0, .int .i64 0] 3) := ⟨_, rfl⟩
    have hb3 : Below w2.heap.size w2 W3 := by rw [hW3]; exact below_new w2 _
    have hx3 : W3.heap[w2.heap.size]? = some (.cells #[.int .i64 0, .int .i64 0, .int .i64 0] 3 (0, 0)) := by rw [hW3]; exact box_new w2 _
    have HV0 := Lib.hid (show ∃ s x t m ta T, Mt w1 W3 b s x t m w2.heap.size ta T from ⟨s0, beginC, newT w2 t2 9, m2, _, fun _ => 0, ⟨(HZ.out.on hb3).low, fun j hj => (newT_old (Nat.lt_of_lt_of_le hj HZ.out.low.size)).trans (HZ.out.t0 j hj), ((HZ.out.clu.mark (fun j hj => newT_old hj)).on hb3)⟩, begin_sim, Nat.zero_le _, hx3, (fun k hk => by rcases k with _ | _ | _ | k <;> first | rfl | omega), newT_new (Nat.le_refl _), HZ.out.low.size, (fun k hk => by have := (begin_sim).inv.t0 k; exact Int.le_refl _)⟩)
    clear hx3 hb3
    go_upto_region 6 with fail
    rw [← hW3]
    clear hW3 HZ HO
    go_wp2_with fail
    go_loopw [6] (fun v6 wr => ∃ (i : Nat), i ≤ L ∧ v6 = .int .i64 (i : Int) ∧ Hid (∃ s x t m ta T, Mt w1 wr b s x t m w2.heap.size ta T)) (fun v6 _ => L - (intOf v6).toNat)
    case atStart => exact ⟨0, Nat.zero_le _, rfl, HV0⟩
    case round =>
      obtain ⟨i, hi, rfl, HV⟩ := hrel
      clear HV0
      obtain ⟨wa, hwa⟩ : ∃ wa, wa = wr := ⟨_, rfl⟩
      subst hwa
      by_cases hiL : i < L
      · have hiL' : (i : Int) < (L : Int) := by omega
        obtain ⟨s, x, t, m, ta, T, hv⟩ := HV.out
        clear HV
        obtain ⟨o, ho⟩ : ∃ o, l[i]? = some o := ⟨l[i]'(by have := HLn.out; omega), List.getElem?_eq_getElem _⟩
        obtain ⟨ob, off, rfl, HOR⟩ := HCELL.out w1 HB1.out i o ho
        obtain ⟨o0, o1, o2, o3, hfit⟩ := HOR.out.on hv.cz.low
        obtain ⟨x', s', ex, hS', hE⟩ := step_next hv.sim (o.k % 16) o.n o.q o.s
        have QST := Lib.hid ((step_c hv.cz.clu (hv.sim.nice hv.len) o hfit ex).mono (R' := fun e w4 => e = .returned (.bool true) ∧ Hid (∃ t m, Mt w1 w4 b s' x' t m w2.heap.size ta T)) (fun e w4 hh => ⟨hh.1, Lib.hid (hv.moved ex hS' hE hh.2.out)⟩))
        unfold opV8 at QST
        clear hv ho HOR hfit ex hS' hE
        go_wp2_with ((with_reducible refine QST.out.mono ?_); rintro e w4 ⟨rfl, HV4⟩)
        obtain ⟨t4, m4, hv4⟩ := HV4.out
        have HV5 := Lib.hid (show ∃ ta T, Mt w1 w4 b s' x' t4 m4 w2.heap.size ta T from ⟨ta, T, hv4⟩)
        clear HV4 QST o0 o1 o2 o3 hv4
        go_loopw [7] (fun v7 wr => ∃ (k : Nat), k ≤ 3 ∧ v7 = .int .i64 (k : Int) ∧ Hid (∃ ta T, Mt w1 wr b s' x' t4 m4 w2.heap.size ta T)) (fun v7 _ => 3 - (intOf v7).toNat)
        case atStart => exact ⟨0, by decide, rfl, HV5⟩
        case round =>
          clear HV5
          obtain ⟨k, hk, rfl, HV⟩ := hrel
          obtain ⟨wb, hwb⟩ : ∃ wb, wb = wr := ⟨_, rfl⟩
          subst hwb
          obtain ⟨ta, T, hv⟩ := HV.out
          clear HV
          by_cases hk3 : k < 3
          · have hk3' : (k : Int) < 3 := by omega
            have hbd : Below wb.heap.size wb wb.drew := below_drew (Below.refl _ _)
            obtain ⟨z1, z2, z3, z4, z5, z6, z7⟩ := hv.sc hk3
            have HV := Lib.hid hv
            have QH := Lib.hid (fun (Wz : World) (hb : Below wb.heap.size wb Wz) => (hv.on hb).hard hk3)
            have QL := Lib.hid (fun (Wz : World) (hb : Below wb.heap.size wb Wz) => (hv.on hb).log hk3)
            have hle : ¬ (x'.r k).h.tm < T k := by have := hv.le k hk3; omega
            have HBD := Lib.hid hbd
            obtain ⟨R, hR⟩ : ∃ R, x'.r (k : Int) = R := ⟨_, rfl⟩
            rw [hR] at z4 z5 z6 QH QL hle
            have HR := Lib.hid hR
            have EF : ∀ (p q : Value) (Wz : World), (Instr.field 23 (.agg #[p, q]) 0).run Try.prog Wz = .ok p Wz := fun p q Wz => by kernel_rfl
            have E : ∀ Wz : World, (binOp .neq 23 (.agg #[.int .i64 R.h.tm, .int .i64 R.h.vt]) (.agg #[.int .i64 R.h.tm, .int .i64 R.h.vt])).run Try.prog Wz = .ok (.bool false) Wz := fun Wz => by rw [neq_hard]; simp
            clear hv hbd hR
            go_upto_region 15 with fail
            go_region_held3 (fun w' => w'.cell? ⟨b, 0, none⟩ = some (.slice (some ⟨m4.rb, 0, none⟩) 3 m4.rc) ∧ w'.cell? ⟨b, 1, none⟩ = some (.slice (some ⟨m4.sb, 0, none⟩) 3 m4.sc) ∧ w'.cell? ⟨m4.rb, k, none⟩ = some (.pointer (some ⟨m4.p k, 0, none⟩)) ∧ w'.cell? ⟨m4.sb, k * 4, none⟩ = some (.int .i64 R.h.tm) ∧ w'.cell? ⟨m4.sb, k * 4 + 1, none⟩ = some (.int .i64 R.h.vt) ∧ w'.cell? ⟨m4.sb, k * 4 + 2, none⟩ = some (.slice (m4.la k) R.l.length (m4.lc k)) ∧ w'.cell? ⟨w2.heap.size, k, none⟩ = some (.int .i64 (T k)))
              (first | exact ⟨z1, z2, z3, z4, z5, z6, z7⟩ | exact n0 | exact n1 | exact n2 | exact n3 | go_keep)
              ((first | (go_at_call 20; (with_reducible refine (QH.out _ HB7.out).mono ?_); rintro e w8 ⟨rfl, n3, HB8'⟩; have HB8 := Lib.hid (HB7.out.trans (HB8'.out.mono HB7.out.size))) | (go_at_call 23; (with_reducible refine QS6.out.mono ?_); rintro e w7 ⟨rfl, n2, HB7'⟩; have HB7 := Lib.hid (HB6.out.trans (HB7'.out.mono HB6.out.size))) | (go_at_call 24; (with_reducible refine (QL.out _ HB5.out).mono ?_); rintro e w6 ⟨ua, uc, rfl, n1, HL6, QS6⟩; have HB6 := Lib.hid (HB5.out.trans (HL6.out.1.mono HB5.out.size))) | (go_at_call 20; (with_reducible refine (QH.out _ HBD.out).mono ?_); rintro e w5 ⟨rfl, n0, HB5'⟩; have HB5 := Lib.hid (HBD.out.trans (HB5'.out.mono HBD.out.size)))))
            clear z1 z2 z3 z4 z5 z6 z7 n0 n1 n2 n3 QS6 HL6 HB5' HB7' HB8' HB5 HB6 HB7
            go_wp2_with ((with_reducible refine (QH.out _ HB8.out).mono ?_); rintro e w9 ⟨rfl, n9, HB9⟩; obtain ⟨y1, y2, y3, y4, y5, y6, y7⟩ := n9; have yf := Lib.frozen_of_heap (HV.out.on (HB8.out.trans (HB9.out.mono HB8.out.size))).tbx)
            obtain ⟨W10, hW10⟩ : ∃ W10, W10 = w9.setCell ⟨w2.heap.size, k, none⟩ (.int .i64 R.h.tm) := ⟨_, rfl⟩
            have HM := Lib.hid (show ∃ ta T, Mt w1 W10 b s' x' t4 m4 w2.heap.size ta T by rw [hW10, ← HR.out]; exact (HV.out.on (HB8.out.trans (HB9.out.mono HB8.out.size))).set hk3)
            rw [← hW10]
            clear hW10 y1 y2 y3 y4 y5 y6 y7 yf HV HB8 HB9 QH QL hle HBD E
            obtain ⟨ta', T', hm⟩ := HM.out
            have HM' := Lib.hid hm
            clear hm HM
            go_loopw [9] (fun v9 wr => ∃ n : Nat, n ≤ k ∧ v9 = .int .i64 (n : Int) ∧ Hid (Below W10.heap.size W10 wr)) (fun v9 _ => k - (intOf v9).toNat)
            case atStart => exact ⟨0, Nat.zero_le _, rfl, Lib.hid (Below.refl _ _)⟩
            case round =>
              obtain ⟨n, hn, rfl, HBN⟩ := hrel
              obtain ⟨wn, hwn⟩ : ∃ wn, wn = wr := ⟨_, rfl⟩
              subst hwn
              by_cases hnk : n < k
              · have hnk' : (n : Int) < (k : Int) := by omega
                have hn3 : (n : Int) < 3 := by omega
                have QA := Lib.hid (show Calls Try.prog 24 #[.pointer (some ⟨m4.p k, 0, none⟩)] wn fun e w' => ∃ a c, e = .returned (.slice a R.l.length c) ∧ SC w' b (x'.r n) m4 n (x'.r n).l.length w2.heap.size T' ∧ Hid (Below wn.heap.size wn w' ∧ Src (fun _ => True) w' a c R.l.length (recsV R.l)) from by
                  have q := (HM'.out.on HBN.out).log hk3
                  rw [HR.out] at q
                  exact q.mono (fun e w' hh => by
                    obtain ⟨a, c, e1, _, e3, _⟩ := hh
                    exact ⟨a, c, e1, ((HM'.out.on HBN.out).on e3.out.1).sc (by omega), e3⟩))
                obtain ⟨Q, hQ⟩ : ∃ Q, x'.r (n : Int) = Q := ⟨_, rfl⟩
                have QB := Lib.hid (fun (Wz : World) (hb : Below wn.heap.size wn Wz) => (show Calls Try.prog 24 #[.pointer (some ⟨m4.p n, 0, none⟩)] Wz fun e w' => ∃ a c, e = .returned (.slice a Q.l.length c) ∧ Hid (Below Wz.heap.size Wz w' ∧ Src (fun _ => True) w' a c Q.l.length (recsV Q.l)) from by
                  have q := ((HM'.out.on HBN.out).on hb).log (k := n) (by omega)
                  rw [hQ] at q
                  exact q.mono (fun e w' hh => by
                    obtain ⟨a, c, e1, _, e3, _⟩ := hh
                    exact ⟨a, c, e1, e3⟩)))
                have HEQ0 := Lib.hid (fun (M : Nat) (h1 : M ≤ R.l.length) (h2 : M ≤ Q.l.length) (h3 : tAt R.l M = tAt Q.l M) => (show R.l.take M = Q.l.take M from by
                  rw [← HR.out] at h1 h3 ⊢
                  rw [← hQ] at h2 h3 ⊢
                  exact HM'.out.sim.matches (id3 hk3) (id3 (by omega)) h1 h2 h3))
                have HA4 := Lib.hid (show R.l.length ≤ 4000 ∧ Q.l.length ≤ 4000 from by
                  rw [← HR.out, ← hQ]
                  exact ⟨(HM'.out.sim.okr k (id3 hk3)).l, (HM'.out.sim.okr n (id3 (by omega))).l⟩)
                rw [hQ] at QA
                clear hQ
                obtain ⟨A, hA⟩ : ∃ A, R.l.length = A := ⟨_, rfl⟩
                obtain ⟨B, hB⟩ : ∃ B, Q.l.length = B := ⟨_, rfl⟩
                have hA5 : A ≤ 4000 ∧ B ≤ 4000 := by have := HA4.out; omega
                obtain ⟨M0, hM0⟩ : ∃ M0, min A B = M0 := ⟨_, rfl⟩
                have hmin : min (A : Int) (B : Int) = (M0 : Int) := by omega
                have hM1 : M0 ≤ A ∧ M0 ≤ B := by omega
                rw [hA, hB] at QA
                rw [hB] at QB
                have HLA := Lib.hid (show M0 ≤ R.l.length ∧ R.l.length = A by omega)
                have HLB := Lib.hid (show M0 ≤ Q.l.length ∧ Q.l.length = B by omega)
                have HAL := Lib.hid hA
                have HBL := Lib.hid hB
                clear hM0 hA hB
                go_wp2_with (first | ((with_reducible refine QA.out.mono ?_); rintro e w11 ⟨ra, rc, rfl, n1, HS1⟩; obtain ⟨y1, y2, y3, y4, y5, y6, y7⟩ := n1) | ((with_reducible refine (QB.out _ HS1.out.1).mono ?_); rintro e w12 ⟨qa, qc, rfl, HS2⟩))
                clear y1 y2 y3 y4 y5 y6 y7
                have HSR := Lib.hid (HS1.out.2.on HS2.out.1)
                have HSQ := Lib.hid HS2.out.2
                have HBN := Lib.hid (HBN.out.trans ((HS1.out.1.trans (HS2.out.1.mono HS1.out.1.size)).mono HBN.out.size))
                have HRC := Lib.hid (show A ≤ rc by have := HS1.out.2.1; have := HAL.out; omega)
                have HQC := Lib.hid (show B ≤ qc by have := HS2.out.2.1; have := HBL.out; omega)
                have HSRL := Lib.hid (show Src (fun _ => True) w12 ra rc R.l.length (recsV R.l) by rw [HAL.out]; exact HSR.out)
                have HSQL := Lib.hid (show Src (fun _ => True) w12 qa qc Q.l.length (recsV Q.l) by rw [HBL.out]; exact HSQ.out)
                clear QA QB HS1 HS2
                go_loopw [12] (fun v12 wz => ∃ Mn : Nat, Mn ≤ M0 ∧ v12 = .int .i64 (Mn : Int) ∧ Hid (Below w12.heap.size w12 wz)) (fun v12 _ => (intOf v12).toNat)
                case atStart => exact ⟨M0, Nat.le_refl _, rfl, Lib.hid (Below.refl _ _)⟩
                case round =>
                  obtain ⟨Mn, hMn, rfl, HBZ⟩ := hrel
                  by_cases hM : 0 < Mn
                  · obtain ⟨j, hj⟩ : ∃ j, Mn = j + 1 := ⟨Mn - 1, by omega⟩
                    have hM' : (0 : Int) < (Mn : Int) := by omega
                    obtain ⟨xa, hxa⟩ : ∃ y, R.l[j]? = some y := ⟨R.l[j]'(by have := HLA.out; omega), List.getElem?_eq_getElem _⟩
                    obtain ⟨xb, hxb⟩ : ∃ y, Q.l[j]? = some y := ⟨Q.l[j]'(by have := HLB.out; omega), List.getElem?_eq_getElem _⟩
                    obtain ⟨b1, o1, hra, u1, _⟩ := rec_cells (HSRL.out.on HBZ.out) rfl hxa
                    obtain ⟨b2, o2, hqa, u2, _⟩ := rec_cells (HSQL.out.on HBZ.out) rfl hxb
                    have hta : tAt R.l Mn = xa.t := by rw [hj, tAt_getElem (List.getElem?_eq_some_iff.1 hxa).1]; rw [(List.getElem?_eq_some_iff.1 hxa).2]
                    have htb : tAt Q.l Mn = xb.t := by rw [hj, tAt_getElem (List.getElem?_eq_some_iff.1 hxb).1]; rw [(List.getElem?_eq_some_iff.1 hxb).2]
                    have hjA : (j : Int) < (A : Int) := by omega
                    have hjB : (j : Int) < (B : Int) := by omega
                    have hmx : max (j : Int) 0 = (j : Int) := by omega
                    have hwr : IntKind.i64.wrap ((Mn : Int) - 1) = (j : Int) := by rw [show (Mn : Int) - 1 = (j : Int) by omega]; exact IntWalk.i64_in _ (by omega)
                    by_cases ht : xa.t = xb.t
                    · have htt : (xa.t != xb.t) = false := by simp [ht]
                      have HEQ := Lib.hid (HEQ0.out Mn (by have := HLA.out; omega) (by have := HLB.out; omega) (by rw [hta, htb]; exact ht))
                      have HJ := Lib.hid hj
                      subst hra hqa
                      clear ht hta htb hxa hxb hj
                      go_wp2_with fail
                      go_quiet (fail)
                      obtain ⟨wq, hwq⟩ : ∃ wq, wq = wr.drewN nq := ⟨_, rfl⟩
                      rw [← hwq]
                      have HBQ := Lib.hid (show Below w12.heap.size w12 wq by rw [hwq]; exact HBZ.out.trans ((show Below wr.heap.size wr (wr.drewN nq) from ⟨rfl, rfl, rfl, Nat.le_refl _, fun _ _ => rfl⟩).mono HBZ.out.size))
                      clear hwq
                      have QS := Lib.hid (fun (nn : Nat) => (show Calls Try.prog 23 #[.slice (some ⟨b1, o1, none⟩) Mn rc, .slice (some ⟨b2, o2, none⟩) Mn qc] (wq.drewN nn) fun e w' => e = .returned (.bool true) ∧ ∃ m, w' = wq.drewN m from by
                        have hb : Below wq.heap.size wq (wq.drewN nn) := ⟨rfl, rfl, rfl, Nat.le_refl _, fun _ _ => rfl⟩
                        have hbz := HBQ.out.trans (hb.mono HBQ.out.size)
                        have s1 := (HSRL.out.on hbz).first (n := Mn) (by have := HLA.out; omega)
                        have s2 := (HSQL.out.on hbz).first (n := Mn) (by have := HLB.out; omega)
                        have e1 : (R.l.take Mn).length = Mn := by rw [List.length_take]; have := HLA.out; omega
                        rw [← HEQ.out] at s2
                        have q := same_c (wq.drewN nn) (R.l.take Mn) (some ⟨b1, o1, none⟩) rc (by rw [e1]; exact s1) (some ⟨b2, o2, none⟩) qc (by rw [e1]; exact s2) (by have := HA4.out; omega)
                        rw [e1] at q
                        exact q.mono (fun e w' hh => ⟨hh.1, by obtain ⟨m, hm⟩ := hh.2; exact ⟨nn + m, by rw [hm, World.drewN_drewN]⟩⟩)))
                      have hs1 := fun wx => rec_to (some ⟨b1, o1, none⟩) A rc Mn (by have := HRC.out; omega) wx
                      have hs2 := fun wx => rec_to (some ⟨b2, o2, none⟩) B qc Mn (by have := HQC.out; omega) wx
                      go_wp2_with fail
                      go_quiet (exact QS.out _)
                      go_wp2_with fail
                      go_roundw
                      case rel => exact ⟨n + 1, hnk, by go_num, Lib.hid (HBN.out.trans ((HBQ.out.trans ((show Below wq.heap.size wq (wq.drewN _) from ⟨rfl, rfl, rfl, Nat.le_refl _, fun _ _ => rfl⟩).mono HBQ.out.size)).mono HBN.out.size))⟩
                      case measure => simp [intOf]; omega
                    · have htt : (xa.t != xb.t) = true := by simp [ht]
                      have HJ := Lib.hid hj
                      subst hra hqa
                      clear ht hta htb hxa hxb hj
                      go_wp2_with fail
                      go_quiet (fail)
                      go_wp2_with fail
                      go_roundw
                      case rel => exact ⟨j, by have := HJ.out; omega, by first | rfl | (congr 1; have := HJ.out; omega), Lib.hid (HBZ.out.trans ((show Below wr.heap.size wr (wr.drewN nq) from ⟨rfl, rfl, rfl, Nat.le_refl _, fun _ _ => rfl⟩).mono HBZ.out.size))⟩
                      case measure => have := HJ.out; simp [intOf]; omega
                  · obtain rfl : Mn = 0 := by omega
                    have HEQ := Lib.hid (show R.l.take 0 = Q.l.take 0 from rfl)
                    go_wp2_with fail
                    go_quiet (fail)
                    obtain ⟨wq, hwq⟩ : ∃ wq, wq = wr.drewN nq := ⟨_, rfl⟩
                    rw [← hwq]
                    have HBQ := Lib.hid (show Below w12.heap.size w12 wq by rw [hwq]; exact HBZ.out.trans ((show Below wr.heap.size wr (wr.drewN nq) from ⟨rfl, rfl, rfl, Nat.le_refl _, fun _ _ => rfl⟩).mono HBZ.out.size))
                    clear hwq
                    have QS := Lib.hid (fun (nn : Nat) => (show Calls Try.prog 23 #[.slice ra 0 rc, .slice qa 0 qc] (wq.drewN nn) fun e w' => e = .returned (.bool true) ∧ ∃ m, w' = wq.drewN m from by
                      have hb : Below wq.heap.size wq (wq.drewN nn) := ⟨rfl, rfl, rfl, Nat.le_refl _, fun _ _ => rfl⟩
                      have hbz := HBQ.out.trans (hb.mono HBQ.out.size)
                      have s1 := (HSRL.out.on hbz).first (n := 0) (by have := HLA.out; omega)
                      have s2 := (HSQL.out.on hbz).first (n := 0) (by have := HLB.out; omega)
                      have e1 : (R.l.take 0).length = 0 := by rw [List.length_take]; have := HLA.out; omega
                      rw [← HEQ.out] at s2
                      have q := same_c (wq.drewN nn) (R.l.take 0) ra rc (by rw [e1]; exact s1) qa qc (by rw [e1]; exact s2) (by have := HA4.out; omega)
                      rw [e1] at q
                      exact q.mono (fun e w' hh => ⟨hh.1, by obtain ⟨m, hm⟩ := hh.2; exact ⟨nn + m, by rw [hm, World.drewN_drewN]⟩⟩)))
                    have hs1 := fun wx => rec_to ra A rc 0 (by have := HRC.out; omega) wx
                    have hs2 := fun wx => rec_to qa B qc 0 (by have := HQC.out; omega) wx
                    go_wp2_with fail
                    go_quiet (exact QS.out _)
                    go_wp2_with fail
                    go_roundw
                    case rel => exact ⟨n + 1, hnk, by go_num, Lib.hid (HBN.out.trans ((HBQ.out.trans ((show Below wq.heap.size wq (wq.drewN _) from ⟨rfl, rfl, rfl, Nat.le_refl _, fun _ _ => rfl⟩).mono HBQ.out.size)).mono HBN.out.size))⟩
                    case measure => simp [intOf]; omega
              · have hnk' : ¬ (n : Int) < (k : Int) := by omega
                have HEND := Lib.hid (show ∃ ta T, Mt w1 wn b s' x' t4 m4 w2.heap.size ta T from ⟨_, _, HM'.out.on HBN.out⟩)
                go_wp2_with fail
                go_roundw
                case rel => exact ⟨k + 1, hk3, by go_num, HEND⟩
                case measure => simp [intOf]; omega
          · have hk3' : ¬ (k : Int) < 3 := by omega
            have HEND := Lib.hid (show ∃ s x t m ta T, Mt w1 wb b s x t m w2.heap.size ta T from ⟨s', x', t4, m4, ta, T, hv⟩)
            clear hv
            go_wp2_with fail
            go_roundw
            case rel => exact ⟨i + 1, hiL, by go_num, HEND⟩
            case measure => simp [intOf]; omega
      · have hiL' : ¬ (i : Int) < (L : Int) := by omega
        go_wp2_with fail
        go_ret
        obtain ⟨s, x, t, m, ta, T, hv⟩ := HV.out
        exact ⟨rfl, HB1.out.trans (hv.cz.low.mono HB1.out.size)⟩
theorem match_in (v : Value) (l : List Op8) (W : World) (h : OpsIn8 W v l) : Calls Try.prog 5 #[v] W fun e w' => e = .returned (.bool true) ∧ Below W.heap.size W w' := by
  obtain ⟨h1, a, c, rfl, h2⟩ := h
  exact match_law a c l W h1 h2
end Go.Proofs.Ytoghaogcekappaa
