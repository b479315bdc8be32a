/-
  When messages arrive: what a leader sends is right, and what becomes of it.
  Entries flow between a leader and the others until nothing is left to arrive.
  The flow of entries between one that led and the others: it ends, and then the others have its log, if it still leads.
  How great terms and logs can become: each operation makes them greater by one at most.
  An election: votes that arrive; a tick and what comes of it.
  A tick and all that arrives after it.
  Replicas that tick in turn: one of them leads; what it is given is committed by all.
  What is proposed to a leader is committed by all; operations on the cluster.
  How large the results of a right replica's calls are.
  A cluster whose calls have results that the law can keep; how many messages are in flight.
-/
import Derived.Test.YtoghaogcekappaaRCluP
namespace Go.Proofs.Ytoghaogcekappaa
namespace Rp
variable {s s' : St}

theorem right_mk {id : Int} {m : Msg} (h : 0 ≤ m.k ∧ m.k ≤ 3 ∧ m.dst = id ∧ m.fr ≠ id ∧ 0 ≤ m.fr ∧ m.fr ≤ 2 ∧ 1 ≤ m.tm ∧ m.tm ≤ 1099511627776 ∧ 0 ≤ m.ix ∧ m.ix ≤ 4000 ∧ 0 ≤ m.pv ∧ m.pv ≤ m.tm ∧ 0 ≤ m.cm ∧ m.cm ≤ 4000 ∧ m.rs.length ≤ 8 ∧ (0 < m.ix ∨ m.pv = 0) ∧ m.ix + m.rs.length ≤ 4000) (hs : sound m.rs (max 1 m.pv) m.tm = true) : right id m = true := by
  unfold right
  rw [Bool.and_eq_true, decide_eq_true_eq]
  exact ⟨h, hs⟩
theorem tAt_dropTake (l : List Rec) (i n k : Nat) (h1 : 1 ≤ k) (h2 : k ≤ ((l.drop i).take n).length) : tAt ((l.drop i).take n) k = tAt l (i + k) := by
  rw [List.length_take, List.length_drop] at h2
  unfold tAt
  rw [if_neg (by omega), if_neg (by omega), List.getElem?_take_of_lt (by omega), List.getElem?_drop, show i + (k - 1) = i + k - 1 by omega]
theorem lead_pos {i : Int} {r : R} (h : Inv s) (hi : isId i) (hr : Rel s i r) (hrole : r.role = 2) : 1 ≤ r.h.tm := by
  have a := (h.r2 i hi (by rw [hr.role]; exact hrole)).1
  have hl : s.ldr (s.term i) ≠ -1 := by rw [a]; exact isId_ne hi
  have := h.vPos i (s.term i) (by have := (h.lQ _ hl).1; rw [a] at this; rw [this]; exact isId_ne hi)
  rw [hr.tm] at this
  exact this
theorem ents_right {i : Int} {r : R} (h : Inv s) (hi : isId i) (hr : Rel s i r) (ho : Okr r) (hrole : r.role = 2) {v : Int} (hv : isId v) (hne : v ≠ i) : right v (ents r v) = true := by
  obtain ⟨a, b, c⟩ := h.r2 i hi (by rw [hr.role]; exact hrole)
  obtain ⟨m1, m2, m3⟩ := c v hv hne
  obtain ⟨n1, n2⟩ := hr.nxt hrole v hv hne
  rw [hr.l] at m3
  have hix : r.nxt v - 1 = ((s.nxt i v - 1 : Nat) : Int) := by omega
  obtain ⟨p, hp⟩ : ∃ p, s.nxt i v - 1 = p := ⟨_, rfl⟩
  rw [hp] at hix
  have hpl : p ≤ r.l.length := by omega
  have ok := h.okLog i hi
  rw [hr.l] at ok
  have ht1 := lead_pos h hi hr hrole
  have hrs : ((r.l.drop p).take 8).length ≤ 8 ∧ ((r.l.drop p).take 8).length ≤ r.l.length - p := by
    rw [List.length_take, List.length_drop]; omega
  have hlt : ∀ k, 1 ≤ k → k ≤ r.l.length → tAt r.l k ≤ r.h.tm := fun k k1 k2 => by
    have := h.logT i k hi k1 (by rw [hr.l]; exact k2)
    rw [hr.l, hr.tm] at this
    exact this
  have hpv : 0 ≤ tAt r.l p ∧ tAt r.l p ≤ r.h.tm ∧ (0 < p ∨ tAt r.l p = 0) := by
    rcases Nat.eq_zero_or_pos p with e | e
    · subst e; exact ⟨Int.le_refl _, by rw [tAt_zero]; omega, Or.inr rfl⟩
    · have := (ok p e hpl).1
      exact ⟨by omega, hlt p e hpl, Or.inl e⟩
  obtain ⟨cc, c1, c2, _⟩ : ∃ c : Nat, r.cm = (c : Int) ∧ c ≤ r.l.length ∧ True := ⟨s.comm i, hr.cm, by
    rcases h.cm i hi with q | ⟨T, n, _, _, _, q⟩
    · omega
    · rw [← hr.l]; exact q.1, trivial⟩
  have hid : r.id = i := hr.id
  have := ho.l
  have := ho.tm
  unfold isId at hi hv
  have e0 : ents r v = ⟨2, i, v, r.h.tm, (p : Int), tAt r.l p, r.cm, false, (r.l.drop p).take 8⟩ := by
    unfold ents msg
    rw [hix, hid, tI_at, Int.toNat_natCast]
  rw [e0]
  refine right_mk ⟨by show (0 : Int) ≤ 2; omega, by show (2 : Int) ≤ 3; omega, rfl, fun e => hne e.symm, hi.1, hi.2, ht1, ho.tm, by show (0 : Int) ≤ (p : Int); omega, by show (p : Int) ≤ 4000; omega, hpv.1, hpv.2.1, by show 0 ≤ r.cm; omega, by show r.cm ≤ 4000; omega, hrs.1, ?_, ?_⟩ ?_
  · show 0 < (p : Int) ∨ tAt r.l p = 0
    rcases hpv.2.2 with q | q
    · exact Or.inl (by omega)
    · exact Or.inr q
  · show (p : Int) + (((r.l.drop p).take 8).length : Int) ≤ 4000
    omega
  · refine sound_of _ _ _ (fun k k1 k2 => ?_) (fun j k j1 j2 j3 => ?_) (fun x hx => ho.d x (List.mem_of_mem_drop (List.mem_of_mem_take hx)))
    · show max 1 (tAt r.l p) ≤ tAt ((r.l.drop p).take 8) k ∧ tAt ((r.l.drop p).take 8) k ≤ r.h.tm
      rw [tAt_dropTake _ _ _ _ k1 k2]
      have k2 : k ≤ ((r.l.drop p).take 8).length := k2
      have hk : p + k ≤ r.l.length := by omega
      obtain ⟨q1, _, _, q4⟩ := ok (p + k) (by omega) hk
      refine ⟨?_, hlt _ (by omega) hk⟩
      rcases Nat.eq_zero_or_pos p with e | e
      · subst e; rw [tAt_zero]; omega
      · have := q4 p e (by omega)
        omega
    · show tAt ((r.l.drop p).take 8) j ≤ tAt ((r.l.drop p).take 8) k
      have j3 : k ≤ ((r.l.drop p).take 8).length := j3
      rw [tAt_dropTake _ _ _ _ j1 (by omega), tAt_dropTake _ _ _ _ (by omega) j3]
      exact (ok (p + k) (by omega) (by omega)).2.2.2 (p + j) (by omega) (by omega)
/-- An answer. -/
def rep (r : R) (d : Int) (y : Bool) (n : Int) : Msg := { msg r 3 d with yes := y, ix := n }
theorem rep_right {r : R} {d : Int} {y : Bool} {n : Int} (hi : isId r.id) (hne : d ≠ r.id) (h1 : 1 ≤ r.h.tm) (h2 : r.h.tm ≤ 1099511627776) (hn : 0 ≤ n ∧ n ≤ 4000) : right d (rep r d y n) = true := by
  unfold isId at hi
  have e0 : rep r d y n = ⟨3, r.id, d, r.h.tm, n, 0, 0, y, []⟩ := rfl
  rw [e0]
  exact right_mk ⟨by show (0 : Int) ≤ 3; omega, by show (3 : Int) ≤ 3; omega, rfl, fun e => hne e.symm, hi.1, hi.2, h1, h2, hn.1, hn.2, by show (0 : Int) ≤ 0; omega, by show 0 ≤ r.h.tm; omega, by show (0 : Int) ≤ 0; omega, by show (0 : Int) ≤ 4000; omega, by show 0 ≤ 8; omega, Or.inr rfl, by show n + ((0 : Nat) : Int) ≤ 4000; omega⟩ rfl

/-! ### Entries that arrive -/
theorem append_shape {r : R} {m : Msg} {M : List Rec} {i0 : Nat} (htm : m.tm = r.h.tm) (hrole : r.role ≠ 2) (okl : OkL s r.l) (okM : OkL s M) (g2 : m.ix = (i0 : Int)) (g4 : i0 + m.rs.length ≤ M.length) (g5 : m.pv = tAt M i0) (g6 : m.rs = (M.drop i0).take m.rs.length)
    (hcm : ∃ c : Nat, r.cm = (c : Int) ∧ Pre r.l M c) : ∃ y n, (appendR r m).2.send = [rep r m.fr y n] ∧ (appendR r m).1.h = r.h ∧ (appendR r m).1.id = r.id ∧
      (y = true → n = m.ix + (m.rs.length : Int) ∧ min m.cm n ≤ (appendR r m).1.cm) ∧ (y = false → 0 < m.ix ∧ 0 ≤ n ∧ n < m.ix ∧ ¬ Pre r.l M i0) := by
  unfold appendR
  rw [if_neg (by omega), if_neg hrole]
  by_cases h3 : (r.l.length : Int) < m.ix ∨ tI r.l m.ix ≠ m.pv
  · rw [if_pos h3]
    have hno : ¬ Pre r.l M i0 := fun hp => by
      rcases h3 with h3 | h3
      · have := hp.1; omega
      · apply h3
        rw [g2, tI_at, g5]
        exact hp.tAt (Nat.le_refl _)
    have h0 : 0 < i0 := by
      rcases Nat.eq_zero_or_pos i0 with e | e
      · subst e; exact absurd (Pre.zero _ _) hno
      · exact e
    exact ⟨false, min (r.l.length : Int) (m.ix - 1), rfl, rfl, rfl, (fun e => by cases e), fun _ => ⟨by omega, by omega, by omega, hno⟩⟩
  rw [if_neg h3]
  have hil : i0 ≤ r.l.length := by
    have : ¬ (r.l.length : Int) < m.ix := fun q => h3 (Or.inl q)
    rw [g2] at this; omega
  have hpt : tAt r.l i0 = tAt M i0 := by
    have : tI r.l m.ix = m.pv := Decidable.not_not.1 (fun q => h3 (Or.inr q))
    rw [g2, tI_at, g5] at this
    exact this
  have hp0 := eqT okl okM hil (by omega) hpt
  have hto : m.ix.toNat = i0 := by rw [g2]; rfl
  rw [hto]
  obtain ⟨k, hkk⟩ : ∃ k, agree r.l i0 m.rs = k := ⟨_, rfl⟩
  have hag := agree_spec okl okM m.rs i0 g4 g6 hp0
  rw [hkk] at hag ⊢
  obtain ⟨a1, a2, a3⟩ := hag
  refine ⟨true, m.ix + (m.rs.length : Int), ?_⟩
  show (if k < m.rs.length then _ else _ : R × Out).2.send = _ ∧ (if k < m.rs.length then _ else _ : R × Out).1.h = _ ∧ (if k < m.rs.length then _ else _ : R × Out).1.id = _ ∧ (_ → _ ∧ _ ≤ (if k < m.rs.length then _ else _ : R × Out).1.cm) ∧ _
  by_cases h4 : k < m.rs.length
  · rw [if_pos h4]
    have h5 : ¬ m.ix + (k : Int) + 1 ≤ r.cm := fun h5 => by
      obtain ⟨c, hc, hp⟩ := hcm
      have hp' := hp.mono (show i0 + k + 1 ≤ c by omega)
      rcases a3 h4 with q | q
      · have := hp'.1; omega
      · exact q (hp'.tAt (Nat.le_refl _))
    rw [if_neg h5]
    exact ⟨rfl, rfl, rfl, fun _ => ⟨rfl, Int.le_max_right _ _⟩, fun e => by cases e⟩
  · rw [if_neg h4]
    exact ⟨rfl, rfl, rfl, fun _ => ⟨rfl, Int.le_max_right _ _⟩, fun e => by cases e⟩
/-- What a replica has committed is in the log of a leader whose term is not less. -/
theorem comm_pre {i : Int} (h : Inv s) (hi : isId i) {t : Int} (ht : s.term i ≤ t) (hl : s.ldr t ≠ -1) : Pre (s.log i) (s.ldl t) (s.comm i) := by
  rcases h.cm i hi with q | ⟨T, n, a, b, c, q⟩
  · rw [q]; exact Pre.zero _ _
  · by_cases e : T = t
    · rw [← e]; exact q
    · obtain ⟨a1, a2, a3, a4, _⟩ := id a
      rcases h.lc T t n (by omega) a1 hl a2 a3 a4 with w | w
      · exact q.trans (((w.symm.grow (h.lGrow _ hl)).symm).mono b).symm
      · exact absurd w (comtd_dead h a)
theorem app_recv {j : Int} {r : R} {m : Msg} (h : Inv s) (hj : isId j) (hr : Rel s j r) (hg : Good s m) (hk : m.k = 2) (hm : right j m = true) : ∃ y n, (hearR r m).2.send = [rep (hearR r m).1 m.fr y n] ∧ 0 ≤ n ∧ n ≤ 4000 ∧ (hearR r m).1.id = r.id ∧ (hearR r m).1.h.tm = max r.h.tm m.tm ∧
      (y = true → r.h.tm ≤ m.tm ∧ n = m.ix + (m.rs.length : Int) ∧ min m.cm n ≤ (hearR r m).1.cm) ∧ (y = false → r.h.tm ≤ m.tm → 0 < m.ix ∧ n < m.ix ∧ ¬ Pre r.l (s.ldl m.tm) m.ix.toNat) := by
  obtain ⟨b1, b2, b3, b4, b5, b6, b7, b8, b9, _⟩ := right_of hm
  have hid : (later r m).id = r.id := by unfold later; split <;> rfl
  have hl := later_l r m
  obtain ⟨g1, i0, _, g2, _, g4, g5, g6, _⟩ := hg.2.2.2.2.1 hk
  have hld : s.ldr m.tm ≠ -1 := by rw [g1]; exact isId_ne hg.1
  unfold hearR
  rw [hr.id, hm]
  rw [if_neg (by decide)]
  have hsend : ∀ (p : R × Out), (p.1, if p.1.h = r.h then p.2 else { p.2 with save := true, h := p.1.h }).2.send = p.2.send := fun p => by
    show (if p.1.h = r.h then p.2 else { p.2 with save := true, h := p.1.h }).send = p.2.send
    split <;> rfl
  have hkind : kindR (later r m) m = appendR (later r m) m := by
    unfold kindR
    rw [if_neg (by omega), if_neg (by omega), if_pos hk]
  show ∃ y n, ((kindR (later r m) m).1, if (kindR (later r m) m).1.h = r.h then (kindR (later r m) m).2 else { (kindR (later r m) m).2 with save := true, h := (kindR (later r m) m).1.h }).2.send = [rep (kindR (later r m) m).1 m.fr y n] ∧ 0 ≤ n ∧ n ≤ 4000 ∧ (kindR (later r m) m).1.id = j ∧ (kindR (later r m) m).1.h.tm = max r.h.tm m.tm ∧
      (y = true → r.h.tm ≤ m.tm ∧ n = m.ix + (m.rs.length : Int) ∧ min m.cm n ≤ (kindR (later r m) m).1.cm) ∧ (y = false → r.h.tm ≤ m.tm → 0 < m.ix ∧ n < m.ix ∧ ¬ Pre r.l (s.ldl m.tm) m.ix.toNat)
  rw [hsend, hkind]
  have hrep : ∀ (p : R) y n, p.id = (later r m).id → p.h = (later r m).h → rep p m.fr y n = rep (later r m) m.fr y n := fun p y n e1 e2 => by
    unfold rep msg
    rw [e1, e2]
  by_cases hlow : m.tm < r.h.tm
  · have e1 : later r m = r := by unfold later; rw [if_neg (by omega)]
    have e2 : appendR r m = (r, Out.just [msg r 3 m.fr]) := by unfold appendR; rw [if_pos hlow]
    rw [e1, e2]
    exact ⟨false, 0, rfl, Int.le_refl _, by omega, hr.id, by show r.h.tm = _; omega, (fun e => by cases e), fun _ e => by omega⟩
  · have htm : (later r m).h.tm = m.tm := by
      unfold later
      split
      · rfl
      · omega
    have hrole : (later r m).role ≠ 2 := by
      unfold later
      split
      · show (0 : Int) ≠ 2; omega
      · intro q
        have := (h.r2 j hj (by rw [hr.role]; exact q)).1
        rw [hr.tm, show r.h.tm = m.tm by omega, g1] at this
        exact b4 this
    have hcm : (later r m).cm = r.cm := by unfold later; split <;> rfl
    have okl : OkL s (later r m).l := by rw [hl, ← hr.l]; exact h.okLog j hj
    obtain ⟨y, n, k1, k2, k3, k4, k5⟩ := append_shape (s := s) (r := later r m) (m := m) (M := s.ldl m.tm) (i0 := i0) htm.symm hrole okl (h.okLd _ hld) g2 g4 g5 g6 ⟨s.comm j, by rw [hcm]; exact hr.cm, by
      rw [hl, ← hr.l]
      exact comm_pre h hj (by rw [hr.tm]; omega) hld⟩
    have hto : m.ix.toNat = i0 := by rw [g2]; rfl
    rw [hl] at k5
    refine ⟨y, n, by rw [k1, hrep _ y n k3 k2], ?_, ?_, by rw [k3, hid, hr.id], by rw [k2, htm]; omega, fun e => ⟨by omega, k4 e⟩, fun e _ => ?_⟩
    · cases y
      · exact (k5 rfl).2.1
      · rw [(k4 rfl).1]; omega
    · cases y
      · have := (k5 rfl).2.2.1; omega
      · rw [(k4 rfl).1]; exact b8
    · obtain ⟨q1, q2, q3, q4⟩ := k5 e
      rw [hto]
      exact ⟨q1, q3, q4⟩
end Rp
end Go.Proofs.Ytoghaogcekappaa

namespace Go.Proofs.Ytoghaogcekappaa
namespace Rp
variable {s s' : St}

/-! ### One message arrives -/
theorem deliver {x : Cl} {m : Msg} {Q : List Msg} (h : Sim s x) (hq : x.sent = m :: Q) (hst : x.st m.dst = 0) (hlen : Q.length + (hearR (x.r m.dst) m).2.send.length ≤ 300) :
    ∃ x' s', arriveC x 0 false = some x' ∧ Sim s' x' ∧ Ext s s' ∧ x'.r = upd x.r m.dst (hearR (x.r m.dst) m).1 ∧ x'.st = x.st ∧ x'.sent = Q ++ (hearR (x.r m.dst) m).2.send := by
  obtain ⟨x', s', e1, e2, e3⟩ := arrive_next h 0 false
  have hg := h.good m (by rw [hq]; exact List.mem_cons_self ..)
  have hd : m.dst % 3 = m.dst := by have := hg.2.1; unfold isId at this; omega
  have hx : arriveC x 0 false = doneC { x with sent := Q } m.dst (hearR (x.r m.dst) m).1 (hearR (x.r m.dst) m).2 := by
    unfold arriveC
    rw [hq]
    show doneC { x with sent := (m :: Q).eraseIdx 0 } (m.dst % 3) (hearR (x.r (m.dst % 3)) m).1 (hearR (x.r (m.dst % 3)) m).2 = _
    rw [hd]
    rfl
  have hx2 : arriveC x 0 false = some ⟨upd x.r m.dst (hearR (x.r m.dst) m).1, (if (hearR (x.r m.dst) m).2.save = true then upd x.hd m.dst (hearR (x.r m.dst) m).2.h else x.hd), upd x.lg m.dst (put (x.lg m.dst) (hearR (x.r m.dst) m).2), x.st, Q ++ (hearR (x.r m.dst) m).2.send⟩ := by
    rw [hx]
    unfold doneC
    show (if x.st m.dst = 1 then _ else if x.st m.dst = 2 then _ else _) = _
    rw [if_neg (by omega), if_neg (by omega)]
    show some (Cl.mk _ _ _ _ (Q ++ (hearR (x.r m.dst) m).2.send.take (300 - Q.length))) = _
    rw [List.take_of_length_le (by omega)]
  have : x' = ⟨upd x.r m.dst (hearR (x.r m.dst) m).1, (if (hearR (x.r m.dst) m).2.save = true then upd x.hd m.dst (hearR (x.r m.dst) m).2.h else x.hd), upd x.lg m.dst (put (x.lg m.dst) (hearR (x.r m.dst) m).2), x.st, Q ++ (hearR (x.r m.dst) m).2.send⟩ := by
    rw [hx2] at e1; exact (Option.some.inj e1).symm
  exact ⟨x', s', e1, e2, e3, by rw [this], by rw [this], by rw [this]⟩
def flowC : Nat → Cl → Option Cl
  | 0, x => some x
  | n + 1, x => match x.sent with
    | [] => some x
    | _ :: _ => (arriveC x 0 false).bind (flowC n)

/-! ### An answer arrives -/
/-- What is left to do for a replica. -/
def left (r : R) (v : Int) : Nat := if r.role = 2 then (((r.l.length : Int) - r.mat v) + (r.nxt v - r.mat v)).toNat else 0
theorem hear_kind {r : R} {m : Msg} (hm : right r.id m = true) : (hearR r m).1 = (kindR (later r m) m).1 ∧ (hearR r m).2.send = (kindR (later r m) m).2.send := by
  unfold hearR
  rw [hm, if_neg (by decide)]
  refine ⟨rfl, ?_⟩
  show (if (kindR (later r m) m).1.h = r.h then (kindR (later r m) m).2 else { (kindR (later r m) m).2 with save := true, h := (kindR (later r m) m).1.h }).send = _
  split <;> rfl
theorem kind3 {r : R} {m : Msg} (hk : m.k = 3) : kindR r m = appendedR r m := by
  unfold kindR
  rw [if_neg (by omega), if_neg (by omega), if_neg (by omega)]
theorem rep_none {r : R} {m : Msg} (hm : right r.id m = true) (hk : m.k = 3) (h : r.role ≠ 2 ∨ r.h.tm < m.tm) : (hearR r m).1 = later r m ∧ (hearR r m).2.send = [] := by
  obtain ⟨e1, e2⟩ := hear_kind hm
  rw [e1, e2, kind3 hk]
  have hr : (later r m).role ≠ 2 := by
    unfold later
    split
    · show (0 : Int) ≠ 2; omega
    · rcases h with h | h
      · exact h
      · omega
  unfold appendedR
  rw [if_neg (fun c => hr c.1)]
  exact ⟨rfl, rfl⟩
theorem best_ge (l : List Rec) (t mm c : Int) : ∀ N : Nat, c ≤ best l t mm c N
  | 0 => Int.le_refl _
  | n + 1 => by
    unfold best
    split
    · next k => omega
    · exact best_ge l t mm c n
theorem best_all {l : List Rec} {t mm c : Int} {N : Nat} (h1 : 1 ≤ N) (h2 : tAt l N = t) (h3 : (N : Int) ≤ mm) : (N : Int) ≤ best l t mm c N := by
  obtain ⟨n, rfl⟩ : ∃ n, N = n + 1 := ⟨N - 1, by omega⟩
  unfold best
  split
  · push_cast; exact Int.le_refl _
  · next k =>
    have := best_ge l t mm c n
    have : ¬ c < (n : Int) + 1 := fun q => k ⟨q, h2, by push_cast at h3; exact h3⟩
    push_cast
    omega
/-- What a leader knows of a replica after an answer. -/
structure Took (r r' : R) (m : Msg) (send : List Msg) : Prop where
  role : r'.role = 2
  h : r'.h = r.h
  l : r'.l = r.l
  id : r'.id = r.id
  cm : r.cm ≤ r'.cm
  rest : ∀ v, v ≠ m.fr → r'.mat v = r.mat v ∧ r'.nxt v = r.nxt v
  mono : r.mat m.fr ≤ r'.mat m.fr
  cmt : r'.mat m.fr = (r.l.length : Int) → r.mat m.fr = (r.l.length : Int) ∨ (1 ≤ r.l.length → tAt r.l r.l.length = r.h.tm → (r.l.length : Int) ≤ r'.cm)
  out : (send = [ents r' m.fr] ∧ left r' m.fr < left r m.fr) ∨ (send = [] ∧ m.yes = true ∧ r'.mat m.fr = (r.l.length : Int) ∧ m.ix = (r.l.length : Int))
theorem rep_lead {r : R} {m : Msg} (hm : right r.id m = true) (hk : m.k = 3) (hrole : r.role = 2) (htm : m.tm = r.h.tm) (hid : isId r.id) (hfr : isId m.fr) (hne : m.fr ≠ r.id) (hmn : r.mat m.fr < r.nxt m.fr) (hm0 : 0 ≤ r.mat m.fr) (hnx : r.nxt m.fr ≤ (r.l.length : Int) + 1)
    (hy : m.yes = true → m.ix = min (r.nxt m.fr - 1 + 8) (r.l.length : Int)) (hn : m.yes = false → r.mat m.fr < r.nxt m.fr - 1) : Took r (hearR r m).1 m (hearR r m).2.send := by
  obtain ⟨e1, e2⟩ := hear_kind hm
  have e3 : later r m = r := by unfold later; rw [if_neg (by omega)]
  rw [e1, e2, e3, kind3 hk]
  unfold appendedR
  rw [if_pos ⟨hrole, htm⟩]
  cases hyy : m.yes
  · rw [if_neg (by decide)]
    have hn := hn hyy
    refine ⟨hrole, rfl, rfl, rfl, Int.le_refl _, fun v hv => ⟨rfl, upd_ne _ _ hv⟩, Int.le_refl _, fun q => Or.inl q, Or.inl ⟨rfl, ?_⟩⟩
    unfold left
    show (if r.role = 2 then _ else _) < _
    rw [if_pos hrole, if_pos hrole]
    show (((r.l.length : Int) - r.mat m.fr) + (upd r.nxt m.fr (max (r.mat m.fr + 1) (min (r.nxt m.fr - 1) (m.ix + 1))) m.fr - r.mat m.fr)).toNat < _
    rw [upd_same]
    omega
  · rw [if_pos rfl]
    have hy := hy hyy
    rw [if_neg (by omega)]
    obtain ⟨mt, hmt⟩ : ∃ mt : Int → Int, mt = upd r.mat m.fr (max (r.mat m.fr) m.ix) := ⟨_, rfl⟩
    have hmf : mt m.fr = max (r.mat m.fr) m.ix := by rw [hmt, upd_same]
    have hmo : ∀ v, v ≠ m.fr → mt v = r.mat v := fun v hv => by rw [hmt, upd_ne _ _ hv]
    obtain ⟨b, hb⟩ : ∃ b, b = best r.l r.h.tm (max (mt ((r.id + 1) % 3)) (mt ((r.id + 2) % 3))) r.cm r.l.length := ⟨_, rfl⟩
    obtain ⟨r', hr'⟩ : ∃ r' : R, r' = { r with mat := mt, nxt := upd r.nxt m.fr (mt m.fr + 1), cm := b } := ⟨_, rfl⟩
    have hbe : { r with mat := upd r.mat m.fr (max (r.mat m.fr) m.ix), nxt := upd r.nxt m.fr (upd r.mat m.fr (max (r.mat m.fr) m.ix) m.fr + 1), cm := best r.l r.h.tm (max (upd r.mat m.fr (max (r.mat m.fr) m.ix) ((r.id + 1) % 3)) (upd r.mat m.fr (max (r.mat m.fr) m.ix) ((r.id + 2) % 3))) r.cm r.l.length } = r' := by
      rw [hr', hb, hmt]
    show Took r (if ({ r with mat := upd r.mat m.fr (max (r.mat m.fr) m.ix), nxt := upd r.nxt m.fr (upd r.mat m.fr (max (r.mat m.fr) m.ix) m.fr + 1), cm := best r.l r.h.tm (max (upd r.mat m.fr (max (r.mat m.fr) m.ix) ((r.id + 1) % 3)) (upd r.mat m.fr (max (r.mat m.fr) m.ix) ((r.id + 2) % 3))) r.cm r.l.length } : R).nxt m.fr ≤ (r.l.length : Int) then _ else _ : R × Out).1 m (if ({ r with mat := upd r.mat m.fr (max (r.mat m.fr) m.ix), nxt := upd r.nxt m.fr (upd r.mat m.fr (max (r.mat m.fr) m.ix) m.fr + 1), cm := best r.l r.h.tm (max (upd r.mat m.fr (max (r.mat m.fr) m.ix) ((r.id + 1) % 3)) (upd r.mat m.fr (max (r.mat m.fr) m.ix) ((r.id + 2) % 3))) r.cm r.l.length } : R).nxt m.fr ≤ (r.l.length : Int) then _ else _ : R × Out).2.send
    rw [hbe]
    have r1 : r'.role = 2 := by rw [hr']; exact hrole
    have r2 : r'.mat = mt := by rw [hr']
    have r3 : r'.nxt m.fr = mt m.fr + 1 := by rw [hr']; exact upd_same _ _ _
    have r4 : r'.l = r.l := by rw [hr']
    have r5 : r'.cm = b := by rw [hr']
    have hcmt : r'.mat m.fr = (r.l.length : Int) → r.mat m.fr = (r.l.length : Int) ∨ (1 ≤ r.l.length → tAt r.l r.l.length = r.h.tm → (r.l.length : Int) ≤ r'.cm) := fun q => Or.inr fun q1 q2 => by
      rw [r2] at q
      rw [r5, hb]
      refine best_all q1 q2 ?_
      have : m.fr = (r.id + 1) % 3 ∨ m.fr = (r.id + 2) % 3 := by unfold isId at *; omega
      rcases this with w | w
      · rw [← w]; omega
      · rw [← w]; omega
    have hcm : r.cm ≤ r'.cm := by rw [r5, hb]; exact best_ge _ _ _ _ _
    have hrest : ∀ v, v ≠ m.fr → r'.mat v = r.mat v ∧ r'.nxt v = r.nxt v := fun v hv => ⟨by rw [r2]; exact hmo v hv, by rw [hr']; exact upd_ne _ _ hv⟩
    have hmono : r.mat m.fr ≤ r'.mat m.fr := by rw [r2, hmf]; omega
    split
    · next c =>
      refine ⟨r1, by rw [hr'], r4, by rw [hr'], hcm, hrest, hmono, hcmt, Or.inl ⟨rfl, ?_⟩⟩
      unfold left
      rw [if_pos r1, if_pos hrole, r4, r2, r3]
      rw [r3] at c
      omega
    · next c =>
      refine ⟨r1, by rw [hr'], r4, by rw [hr'], hcm, hrest, hmono, hcmt, Or.inr ⟨rfl, hyy, ?_, ?_⟩⟩
      · rw [r2]; rw [r3] at c; omega
      · rw [r3] at c; omega
end Rp
end Go.Proofs.Ytoghaogcekappaa

namespace Go.Proofs.Ytoghaogcekappaa
namespace Rp
variable {s s' : St}

/-- Whom a message to or from i concerns. -/
def par (i : Int) (m : Msg) : Int := if m.fr = i then m.dst else m.fr
def leads (x : Cl) (i t : Int) : Prop := (x.r i).role = 2 ∧ (x.r i).h.tm = t
def App (x : Cl) (i t c : Int) (m : Msg) : Prop := m.k = 2 ∧ m.fr = i ∧ isId m.dst ∧ m.dst ≠ i ∧ m.tm = t ∧ right m.dst m = true ∧ c ≤ m.cm ∧
  (leads x i t → m.ix = (x.r i).nxt m.dst - 1 ∧ m.ix + (m.rs.length : Int) = min ((x.r i).nxt m.dst - 1 + 8) ((x.r i).l.length : Int))
def Rep (x : Cl) (i t c : Int) (m : Msg) : Prop := m.k = 3 ∧ m.dst = i ∧ isId m.fr ∧ m.fr ≠ i ∧ right i m = true ∧ m.tm = (x.r m.fr).h.tm ∧ t ≤ m.tm ∧
  (leads x i t → m.tm = t → (m.yes = true → m.ix = min ((x.r i).nxt m.fr - 1 + 8) ((x.r i).l.length : Int) ∧ min c m.ix ≤ (x.r m.fr).cm) ∧ (m.yes = false → (x.r i).mat m.fr < (x.r i).nxt m.fr - 1))
structure FI (s : St) (x : Cl) (i t : Int) (L : List Rec) (c : Int) (B C : Prop) : Prop where
  sim : Sim s x
  st : ∀ j, isId j → x.st j = 0
  id : isId i
  ldr : s.ldr t = i
  log : (x.r i).l = L
  cml : c ≤ (L.length : Int)
  cm : leads x i t → c ≤ (x.r i).cm
  me : leads x i t ∨ ((x.r i).role ≠ 2 ∧ t ≤ (x.r i).h.tm)
  stay : leads x i t ∨ ∃ j, isId j ∧ j ≠ i ∧ t < (x.r j).h.tm
  low : B → ∀ j, isId j → j ≠ i → (x.r j).h.tm ≤ t
  cmt : C → leads x i t → 1 ≤ L.length → tAt L L.length = t → ∀ v, isId v → v ≠ i → (x.r i).mat v = (L.length : Int) → (L.length : Int) ≤ (x.r i).cm
  ok : ∀ m ∈ x.sent, App x i t c m ∨ Rep x i t c m
  nod : (x.sent.map (par i)).Nodup
  idle : ∀ j, isId j → j ≠ i → j ∉ x.sent.map (par i) → (x.r j).h.tm ≤ (x.r i).h.tm ∧ (leads x i t → (x.r j).h.tm = t ∧ (x.r i).mat j = (L.length : Int) ∧ c ≤ (x.r j).cm)
def cost (r : R) (i : Int) (m : Msg) : Nat := 2 * left r (par i m) + (if m.k = 2 then 2 else 1)
def todo (x : Cl) (i : Int) : Nat := (x.sent.map (cost (x.r i) i)).sum
theorem sum_le {f g : Msg → Nat} : ∀ (Q : List Msg), (∀ m ∈ Q, f m ≤ g m) → (Q.map f).sum ≤ (Q.map g).sum
  | [], _ => Nat.le_refl _
  | m :: Q, h => by
    rw [List.map_cons, List.map_cons, List.sum_cons, List.sum_cons]
    have := h m (List.mem_cons_self ..)
    have := sum_le Q (fun y hy => h y (List.mem_cons_of_mem _ hy))
    omega
theorem todo_snoc {Q : List Msg} {m m' : Msg} {f g : Msg → Nat} (h : ∀ y ∈ Q, f y ≤ g y) (hm : f m' < g m) : ((Q ++ [m']).map f).sum < ((m :: Q).map g).sum := by
  rw [List.map_append, List.sum_append, List.map_cons, List.sum_cons]
  have := sum_le Q h
  simp
  omega
theorem nod_snoc {i : Int} {Q : List Msg} {m m' : Msg} (h : ((m :: Q).map (par i)).Nodup) (hp : par i m' = par i m) : ((Q ++ [m']).map (par i)).Nodup := by
  rw [List.map_append, List.map_cons, List.map_nil, hp]
  exact (List.perm_append_singleton (par i m) (Q.map (par i))).nodup_iff.2 h
theorem three_len {i : Int} {Q : List Msg} (hi : isId i) (h : (Q.map (par i)).Nodup) (hq : ∀ m ∈ Q, isId (par i m) ∧ par i m ≠ i) : Q.length ≤ 2 := by
  match Q, h, hq with
  | [], _, _ => exact Nat.zero_le _
  | [_], _, _ => exact Nat.le_succ _
  | [_, _], _, _ => exact Nat.le_refl _
  | a :: b :: c :: Q, h, hq =>
    exfalso
    have ha := hq a (by simp)
    have hb := hq b (by simp)
    have hc := hq c (by simp)
    simp only [List.map_cons, List.nodup_cons, List.mem_cons, not_or] at h
    unfold isId at *
    omega
theorem par_app {x : Cl} {i t c : Int} {m : Msg} (h : App x i t c m) : par i m = m.dst := by unfold par; rw [if_pos h.2.1]
theorem par_rep {x : Cl} {i t c : Int} {m : Msg} (h : Rep x i t c m) : par i m = m.fr := by unfold par; rw [if_neg h.2.2.2.1]
theorem FI.par {x : Cl} {i t c : Int} {L : List Rec} {B C : Prop} (h : FI s x i t L c B C) : ∀ m ∈ x.sent, isId (par i m) ∧ par i m ≠ i := fun m hm => by
  rcases h.ok m hm with q | q
  · rw [par_app q]; exact ⟨q.2.2.1, q.2.2.2.1⟩
  · rw [par_rep q]; exact ⟨q.2.2.1, q.2.2.2.1⟩
theorem FI.len {x : Cl} {i t c : Int} {L : List Rec} {B C : Prop} (h : FI s x i t L c B C) : x.sent.length ≤ 2 := three_len h.id h.nod h.par
theorem FI.step {x : Cl} {i t c : Int} {L : List Rec} {B C : Prop} (h : FI s x i t L c B C) {m : Msg} {Q : List Msg} (hq : x.sent = m :: Q) :
    ∃ x' s', arriveC x 0 false = some x' ∧ FI s' x' i t L c B C ∧ Ext s s' ∧ todo x' i < todo x i := by
  have hm : m ∈ x.sent := by rw [hq]; exact List.mem_cons_self ..
  have hQ : ∀ y ∈ Q, y ∈ x.sent := fun y hy => by rw [hq]; exact List.mem_cons_of_mem _ hy
  have hlen := h.len
  rw [hq, List.length_cons] at hlen
  have hg := h.sim.good m hm
  have hnod := h.nod
  rw [hq] at hnod
  have hnm : ∀ y ∈ Q, Rp.par i y ≠ Rp.par i m := fun y hy e => by
    rw [List.map_cons, List.nodup_cons] at hnod
    exact hnod.1 (by rw [← e]; exact List.mem_map_of_mem hy)
  have hldi : s.ldr t ≠ -1 := by rw [h.ldr]; exact isId_ne h.id
  rcases h.ok m hm with a | a
  · -- entries arrive
    have hpm := par_app a
    obtain ⟨a1, a2, a3, a4, a5, a6, a7, a8⟩ := a
    obtain ⟨y, n, b1, b2, b3, b4, b5, b6, b7⟩ := app_recv h.sim.inv a3 (h.sim.rel _ a3) hg a1 a6
    rw [a2] at b1
    obtain ⟨x', s', e1, e2, e3, e4, e5, e6⟩ := deliver h.sim hq (h.st _ a3) (by rw [b1]; simp; omega)
    rw [b1] at e6
    obtain ⟨r', hr'⟩ : ∃ r', (hearR (x.r m.dst) m).1 = r' := ⟨_, rfl⟩
    rw [hr'] at b4 b5 b6 e4 e6
    have ei : x'.r i = x.r i := by rw [e4]; exact upd_ne _ _ (fun e => a4 e.symm)
    have ej : x'.r m.dst = r' := by rw [e4]; exact upd_same _ _ _
    have eo : ∀ j, j ≠ m.dst → x'.r j = x.r j := fun j hj => by rw [e4]; exact upd_ne _ _ hj
    have hl : ∀ {P : Prop}, (leads x i t → P) → leads x' i t → P := fun hp k => hp (by unfold leads at k ⊢; rw [ei] at k; exact k)
    have hl' : leads x i t → leads x' i t := fun k => by unfold leads at k ⊢; rw [ei]; exact k
    have hrid : r'.id = m.dst := by rw [b4]; exact (h.sim.rel _ a3).id
    have htr : r'.h.tm = max (x.r m.dst).h.tm t := by rw [b5, a5]
    have hok' := e2.okr m.dst a3
    rw [ej] at hok'
    have ht1 : 1 ≤ t := h.sim.inv.vPos i t (by
      have := (h.sim.inv.lQ t hldi).1
      rw [h.ldr] at this
      rw [this]; exact isId_ne h.id)
    have hpr : Rp.par i (rep r' i y n) = Rp.par i m := by
      rw [hpm]
      unfold Rp.par
      have e0 : (rep r' i y n).fr = r'.id := rfl
      rw [e0, hrid, if_neg a4]
    have hle : ∀ j, (x.r j).h.tm ≤ (x'.r j).h.tm := fun j => by
      by_cases q : j = m.dst
      · subst q; rw [ej, htr]; omega
      · rw [eo j q]; exact Int.le_refl _
    refine ⟨x', s', e1, ⟨e2, fun j hj => by rw [e5]; exact h.st j hj, h.id, by rw [e3.ldr t hldi]; exact h.ldr, by rw [ei]; exact h.log, h.cml, ?_, ?_, ?_, fun hb j hj hji => ?_, ?_, fun y' hy' => ?_, ?_, fun j hj hji hjn => ?_⟩, e3, ?_⟩
    · rw [ei]; exact hl h.cm
    · rw [ei]; exact h.me.imp hl' (fun w => w)
    · refine h.stay.imp hl' (fun ⟨j, j1, j2, j3⟩ => ⟨j, j1, j2, Int.lt_of_lt_of_le j3 (hle j)⟩)
    · by_cases q : j = m.dst
      · subst q
        have := h.low hb _ hj hji
        rw [ej, htr]; omega
      · rw [eo j q]; exact h.low hb j hj hji
    · rw [ei]; exact fun hC => hl (h.cmt hC)
    · rw [e6] at hy'
      rcases List.mem_append.1 hy' with q | q
      · have hne := hnm y' q
        rw [hpm] at hne
        rcases h.ok y' (hQ y' q) with w | w
        · refine Or.inl ?_
          obtain ⟨w1, w2, w3, w4, w5, w6, w7, w8⟩ := w
          exact ⟨w1, w2, w3, w4, w5, w6, w7, by rw [ei]; exact hl w8⟩
        · refine Or.inr ?_
          rw [par_rep w] at hne
          obtain ⟨w1, w2, w3, w4, w5, w6, w7, w8⟩ := w
          exact ⟨w1, w2, w3, w4, w5, by rw [eo _ hne]; exact w6, w7, by rw [ei, eo _ hne]; exact hl w8⟩
      · obtain rfl := List.mem_singleton.1 q
        refine Or.inr ⟨rfl, rfl, by show isId r'.id; rw [hrid]; exact a3, by show r'.id ≠ i; rw [hrid]; exact a4, rep_right (by rw [hrid]; exact a3) (by rw [hrid]; exact fun e => a4 e.symm) (by rw [htr]; omega) hok'.tm ⟨b2, b3⟩, ?_, ?_, fun hll htt => ⟨fun hy => ?_, fun hy => ?_⟩⟩
        · show r'.h.tm = (x'.r r'.id).h.tm
          rw [hrid, ej]
        · show t ≤ r'.h.tm
          rw [htr]; omega
        · have hy : y = true := hy
          obtain ⟨c1, c2, c3⟩ := b6 hy
          obtain ⟨c4, c5⟩ := hl a8 hll
          show n = min ((x'.r i).nxt r'.id - 1 + 8) ((x'.r i).l.length : Int) ∧ min c n ≤ (x'.r r'.id).cm
          rw [hrid, ei, ej, ← c5, c2]
          refine ⟨rfl, ?_⟩
          rw [c2] at c3
          omega
        · have hy : y = false := hy
          have htt : r'.h.tm = t := htt
          have hlow : (x.r m.dst).h.tm ≤ t := by rw [htr] at htt; omega
          obtain ⟨c1, c2, c3⟩ := b7 hy (by rw [a5]; exact hlow)
          obtain ⟨c4, c5⟩ := hl a8 hll
          show (x'.r i).mat r'.id < (x'.r i).nxt r'.id - 1
          rw [hrid, ei]
          have hll : leads x i t := by unfold leads at hll ⊢; rw [ei] at hll; exact hll
          have hmn := (h.sim.okr i h.id).mn hll.1 m.dst
          rcases Int.lt_or_le ((x.r i).mat m.dst) ((x.r i).nxt m.dst - 1) with w | w
          · exact w
          · exfalso
            have he : (x.r i).mat m.dst = m.ix := by omega
            have hR := h.sim.rel i h.id
            have hJ := h.sim.rel m.dst a3
            obtain ⟨n1, n2⟩ := hR.nxt hll.1 m.dst a3 a4
            have hto : m.ix.toNat = s.mat i m.dst := by rw [← he, n2]; rfl
            rw [hto, a5] at c3
            have hacc := (h.sim.inv.r2 i h.id (by rw [hR.role]; exact hll.1)).2.2 m.dst a3 a4
            rw [hR.tm, hll.2] at hacc
            apply c3
            by_cases w2 : (x.r m.dst).h.tm = t
            · have := h.sim.inv.an m.dst a3
              rw [hJ.tm, w2, hJ.l] at this
              exact this.mono hacc.1
            · have h0 : s.acc m.dst t = 0 := by
                by_cases w3 : s.acc m.dst t = 0
                · exact w3
                · have := (h.sim.inv.accL m.dst t w3).2.1
                  rw [hJ.tm] at this
                  omega
              have : s.mat i m.dst = 0 := by omega
              rw [this]; exact Pre.zero _ _
    · rw [e6]; exact nod_snoc hnod hpr
    · have hjd : j ≠ m.dst := fun e => hjn (by rw [e6, List.map_append, List.mem_append]; refine Or.inr ?_; rw [List.map_cons, List.map_nil, hpr, hpm, e]; exact List.mem_singleton.2 rfl)
      have := h.idle j hj hji (fun e => by
        rw [hq, List.map_cons] at e
        rcases List.mem_cons.1 e with w | w
        · exact hjd (w.trans hpm)
        · exact hjn (by rw [e6, List.map_append, List.mem_append]; exact Or.inl w))
      rw [ei, eo j hjd]
      exact ⟨this.1, hl this.2⟩
    · unfold todo
      rw [e6, hq, ei]
      refine todo_snoc (fun y _ => Nat.le_refl _) ?_
      unfold cost
      rw [hpr, a1]
      show 2 * _ + (if (3 : Int) = 2 then 2 else 1) < 2 * _ + (if (2 : Int) = 2 then 2 else 1)
      rw [if_neg (by decide), if_pos rfl]
      omega
  · -- an answer arrives
    have hpm := par_rep a
    obtain ⟨a1, a2, a3, a4, a5, a6, a7, a8⟩ := a
    have hR := h.sim.rel i h.id
    have hri : right (x.r i).id m = true := by rw [hR.id]; exact a5
    by_cases hA : (x.r i).role ≠ 2 ∨ (x.r i).h.tm < m.tm
    · obtain ⟨k1, k2⟩ := rep_none hri a1 hA
      obtain ⟨x', s', e1, e2, e3, e4, e5, e6⟩ := deliver h.sim hq (by rw [a2]; exact h.st i h.id) (by rw [a2, k2]; simp; omega)
      rw [a2, k2, List.append_nil] at e6
      rw [a2, k1] at e4
      have ei : x'.r i = later (x.r i) m := by rw [e4]; exact upd_same _ _ _
      have eo : ∀ j, j ≠ i → x'.r j = x.r j := fun j hj => by rw [e4]; exact upd_ne _ _ hj
      have htm : (later (x.r i) m).h.tm = max (x.r i).h.tm m.tm := by
        unfold later
        split
        · show m.tm = _; omega
        · omega
      have hro : (later (x.r i) m).role ≠ 2 := by
        unfold later
        split
        · show (0 : Int) ≠ 2; omega
        · rcases hA with w | w
          · exact w
          · omega
      have hnl : ¬ leads x' i t := fun w => by unfold leads at w; rw [ei] at w; exact hro w.1
      refine ⟨x', s', e1, ⟨e2, fun j hj => by rw [e5]; exact h.st j hj, h.id, by rw [e3.ldr t hldi]; exact h.ldr, by rw [ei, later_l]; exact h.log, h.cml, fun w => absurd w hnl, Or.inr ⟨by rw [ei]; exact hro, by rw [ei, htm]; omega⟩, ?_, fun hb j hj hji => by rw [eo j hji]; exact h.low hb j hj hji, fun _ w => absurd w hnl, fun y' hy' => ?_, ?_, fun j hj hji hjn => ⟨?_, fun w => absurd w hnl⟩⟩, e3, ?_⟩
      · refine Or.inr ?_
        rcases h.stay with w | ⟨j, j1, j2, j3⟩
        · rcases hA with v | v
          · exact absurd w.1 v
          · rw [w.2] at v
            exact ⟨m.fr, a3, a4, by rw [eo _ a4, ← a6]; exact v⟩
        · exact ⟨j, j1, j2, by rw [eo j j2]; exact j3⟩
      · rw [e6] at hy'
        rcases h.ok y' (hQ y' hy') with w | w
        · obtain ⟨w1, w2, w3, w4, w5, w6, w7, w8⟩ := w
          exact Or.inl ⟨w1, w2, w3, w4, w5, w6, w7, fun v => absurd v hnl⟩
        · obtain ⟨w1, w2, w3, w4, w5, w6, w7, w8⟩ := w
          exact Or.inr ⟨w1, w2, w3, w4, w5, by rw [eo _ w4]; exact w6, w7, fun v => absurd v hnl⟩
      · rw [e6]
        rw [List.map_cons, List.nodup_cons] at hnod
        exact hnod.2
      · rw [ei, eo j hji, htm]
        by_cases q : j = m.fr
        · subst q; rw [← a6]; omega
        · have := (h.idle j hj hji (fun e => by
            rw [hq, List.map_cons] at e
            rcases List.mem_cons.1 e with w | w
            · exact q (w.trans hpm)
            · exact hjn (by rw [e6]; exact w))).1
          omega
      · unfold todo
        rw [e6, hq, ei, List.map_cons, List.sum_cons]
        have := sum_le (f := cost (later (x.r i) m) i) (g := cost (x.r i) i) Q (fun y' _ => by
          unfold cost left
          rw [if_neg hro]
          omega)
        have : 1 ≤ cost (x.r i) i m := by unfold cost; split <;> omega
        omega
    · -- the leader goes on
      have hrole : (x.r i).role = 2 := Decidable.not_not.1 (fun q => hA (Or.inl q))
      have hlead : leads x i t := by
        rcases h.me with w | w
        · exact w
        · exact absurd hrole w.1
      have htm : m.tm = t := by
        have : ¬ (x.r i).h.tm < m.tm := fun q => hA (Or.inr q)
        rw [hlead.2] at this
        omega
      obtain ⟨y1, y2⟩ := a8 hlead htm
      obtain ⟨n1, n2⟩ := hR.nxt hrole m.fr a3 a4
      obtain ⟨m1, m2, m3⟩ := (h.sim.inv.r2 i h.id (by rw [hR.role]; exact hrole)).2.2 m.fr a3 a4
      rw [hR.l] at m3
      obtain ⟨q1, q2, q3, q4, q5, q6, q7, q8, q9⟩ := rep_lead hri a1 hrole (by rw [htm, hlead.2]) (by rw [hR.id]; exact h.id) a3 (by rw [hR.id]; exact a4) ((h.sim.okr i h.id).mn hrole _) (by omega) (by omega) (fun w => (y1 w).1) y2
      obtain ⟨r', hr'⟩ : ∃ r', (hearR (x.r i) m).1 = r' := ⟨_, rfl⟩
      obtain ⟨o', ho'⟩ : ∃ o', (hearR (x.r i) m).2.send = o' := ⟨_, rfl⟩
      rw [hr'] at q1 q2 q3 q4 q5 q6 q7 q8 q9
      rw [ho'] at q9
      have hol : o'.length ≤ 1 := by rcases q9 with ⟨w, _⟩ | ⟨w, _⟩ <;> rw [w] <;> simp
      obtain ⟨x', s', e1, e2, e3, e4, e5, e6⟩ := deliver h.sim hq (by rw [a2]; exact h.st i h.id) (by rw [a2, ho']; omega)
      rw [a2, ho'] at e6
      rw [a2, hr'] at e4
      have ei : x'.r i = r' := by rw [e4]; exact upd_same _ _ _
      have eo : ∀ j, j ≠ i → x'.r j = x.r j := fun j hj => by rw [e4]; exact upd_ne _ _ hj
      have hl' : leads x' i t := by unfold leads; rw [ei, q2]; exact ⟨q1, hlead.2⟩
      have hR' := e2.rel i h.id
      rw [ei] at hR'
      have hLl : r'.l = L := by rw [q3]; exact h.log
      have hent : o' = [ents r' m.fr] → App x' i t c (ents r' m.fr) := fun _ => by
        obtain ⟨u1, u2⟩ := hR'.nxt q1 m.fr a3 a4
        have u3 := (e2.inv.r2 i h.id (by rw [hR'.role]; exact q1)).2.2 m.fr a3 a4
        rw [hR'.l] at u3
        refine ⟨rfl, ?_, a3, a4, ?_, ents_right e2.inv h.id hR' (by rw [← ei]; exact e2.okr i h.id) q1 a3 a4, ?_, fun _ => ⟨?_, ?_⟩⟩
        · show r'.id = i
          rw [q4]; exact hR.id
        · show r'.h.tm = t
          rw [q2]; exact hlead.2
        · show c ≤ r'.cm
          have := h.cm hlead
          omega
        · show r'.nxt m.fr - 1 = (x'.r i).nxt m.fr - 1
          rw [ei]
        · show r'.nxt m.fr - 1 + (((r'.l.drop (r'.nxt m.fr - 1).toNat).take 8).length : Int) = min ((x'.r i).nxt m.fr - 1 + 8) ((x'.r i).l.length : Int)
          rw [ei, List.length_take, List.length_drop]
          omega
      have hpe : ∀ v, Rp.par i (ents r' v) = v := fun v => by
        unfold Rp.par
        have e0 : (ents r' v).fr = r'.id := rfl
        rw [e0, q4, hR.id, if_pos rfl]
        rfl
      have hoj : ∀ j, isId j → j ≠ i → j ∉ x'.sent.map (Rp.par i) → j ≠ m.fr → j ∉ x.sent.map (Rp.par i) := fun j _ _ hjn hjf e => by
        rw [hq, List.map_cons] at e
        rcases List.mem_cons.1 e with w | w
        · exact hjf (w.trans hpm)
        · exact hjn (by rw [e6, List.map_append, List.mem_append]; exact Or.inl w)
      refine ⟨x', s', e1, ⟨e2, fun j hj => by rw [e5]; exact h.st j hj, h.id, by rw [e3.ldr t hldi]; exact h.ldr, by rw [ei]; exact hLl, h.cml, fun _ => by rw [ei]; have := h.cm hlead; omega, Or.inl hl', Or.inl hl', fun hb j hj hji => by rw [eo j hji]; exact h.low hb j hj hji, fun hC _ w1 w2 v hv hvi w3 => ?_, fun y' hy' => ?_, ?_, fun j hj hji hjn => ?_⟩, e3, ?_⟩
      · rw [ei] at w3 ⊢
        have hcm := h.cmt hC hlead w1 w2
        by_cases q : v = m.fr
        · subst q
          rw [h.log, hlead.2] at q8
          rcases q8 w3 with w | w
          · have := hcm m.fr hv hvi w; omega
          · exact w w1 w2
        · rw [(q6 v q).1] at w3
          have := hcm v hv hvi w3
          omega
      · rw [e6] at hy'
        rcases List.mem_append.1 hy' with w | w
        · have hne := hnm y' w
          rw [hpm] at hne
          rcases h.ok y' (hQ y' w) with v | v
          · refine Or.inl ?_
            rw [par_app v] at hne
            obtain ⟨w1, w2, w3, w4, w5, w6, w7, w8⟩ := v
            exact ⟨w1, w2, w3, w4, w5, w6, w7, fun _ => by rw [ei, q3, (q6 _ hne).2]; exact w8 hlead⟩
          · refine Or.inr ?_
            rw [par_rep v] at hne
            obtain ⟨w1, w2, w3, w4, w5, w6, w7, w8⟩ := v
            exact ⟨w1, w2, w3, w4, w5, by rw [eo _ w4]; exact w6, w7, fun _ => by rw [ei, q3, (q6 _ hne).2, (q6 _ hne).1, eo _ w4]; exact w8 hlead⟩
        · rcases q9 with ⟨z, _⟩ | ⟨z, _⟩
          · rw [z] at w
            obtain rfl := List.mem_singleton.1 w
            exact Or.inl (hent z)
          · rw [z] at w; cases w
      · rw [e6]
        rcases q9 with ⟨z, _⟩ | ⟨z, _⟩
        · rw [z]; exact nod_snoc hnod (by rw [hpe, hpm])
        · rw [z, List.append_nil]
          rw [List.map_cons, List.nodup_cons] at hnod
          exact hnod.2
      · rw [eo j hji, ei, q2]
        by_cases q : j = m.fr
        · subst q
          rcases q9 with ⟨z, _⟩ | ⟨_, z1, z2, z3⟩
          · exact absurd (by rw [e6, z, List.map_append, List.mem_append]; refine Or.inr ?_; rw [List.map_cons, List.map_nil, hpe]; exact List.mem_singleton.2 rfl) hjn
          · rw [h.log] at z2 z3
            refine ⟨by rw [← a6, htm, hlead.2]; exact Int.le_refl _, fun _ => ⟨by rw [← a6]; exact htm, z2, ?_⟩⟩
            have := (y1 z1).2
            have := h.cml
            omega
        · have := h.idle j hj hji (hoj j hj hji hjn q)
          rw [(q6 j q).1]
          exact ⟨this.1, fun _ => this.2 hlead⟩
      · unfold todo
        rw [e6, hq, ei]
        have hco : ∀ y' ∈ Q, cost r' i y' ≤ cost (x.r i) i y' := fun y' hy' => by
          have hne := hnm y' hy'
          rw [hpm] at hne
          unfold cost left
          rw [if_pos q1, if_pos hrole, q3, (q6 _ hne).1, (q6 _ hne).2]
          exact Nat.le_refl _
        rcases q9 with ⟨z, z2⟩ | ⟨z, _⟩
        · rw [z]
          refine todo_snoc hco ?_
          unfold cost
          rw [hpe, hpm, a1]
          show 2 * _ + (if (2 : Int) = 2 then 2 else 1) < 2 * _ + (if (3 : Int) = 2 then 2 else 1)
          rw [if_pos rfl, if_neg (by decide)]
          omega
        · rw [z, List.append_nil, List.map_cons, List.sum_cons]
          have := sum_le Q hco
          have : 1 ≤ cost (x.r i) i m := by unfold cost; split <;> omega
          omega
/-- The flow ends. -/
theorem FI.flow {i t c : Int} {L : List Rec} {B C : Prop} : ∀ (n : Nat) {s : St} {x : Cl}, FI s x i t L c B C → todo x i ≤ n → ∃ x' s', flowC n x = some x' ∧ FI s' x' i t L c B C ∧ Ext s s' ∧ x'.sent = []
  | 0, s, x, h, hn => by
    have : x.sent = [] := by
      match hq : x.sent with
      | [] => rfl
      | m :: Q =>
        obtain ⟨_, _, _, _, _, k⟩ := h.step hq
        omega
    exact ⟨x, s, rfl, h, Ext.refl s, this⟩
  | n + 1, s, x, h, hn => by
    unfold flowC
    match hq : x.sent with
    | [] => exact ⟨x, s, rfl, h, Ext.refl s, hq⟩
    | m :: Q =>
      obtain ⟨x1, s1, e1, f1, e2, k⟩ := h.step hq
      obtain ⟨x2, s2, e3, f2, e4, e5⟩ := FI.flow n f1 (by omega)
      exact ⟨x2, s2, by show (arriveC x 0 false).bind (flowC n) = _; rw [e1]; exact e3, f2, e2.trans e4, e5⟩
end Rp
end Go.Proofs.Ytoghaogcekappaa

namespace Go.Proofs.Ytoghaogcekappaa
namespace Rp
variable {s s' : St}

def Outs (r' : R) (l : List Msg) : Prop := ∀ m ∈ l, m.tm = r'.h.tm ∧ (m.k = 2 → r'.role = 2 ∧ ∃ v, (isId r'.id → isId v ∧ v ≠ r'.id) ∧ m = ents r' v)
theorem outs_nil (r' : R) : Outs r' [] := fun _ h => by cases h
theorem outs_one {r' : R} {m : Msg} (h : m.tm = r'.h.tm) (hk : m.k ≠ 2) : Outs r' [m] := fun m' hm => by
  obtain rfl := List.mem_singleton.1 hm
  exact ⟨h, fun k => absurd k hk⟩
theorem outs_ents {r' : R} {v : Int} (hr : r'.role = 2) (hv : isId v ∧ v ≠ r'.id) : Outs r' [ents r' v] := fun m' hm => by
  obtain rfl := List.mem_singleton.1 hm
  exact ⟨rfl, fun _ => ⟨hr, v, fun _ => hv, rfl⟩⟩
theorem outs_all {r' : R} (hr : r'.role = 2) : Outs r' (all r') := fun m' hm => by
  obtain ⟨v, hv, rfl⟩ := List.mem_map.1 hm
  exact ⟨rfl, fun _ => ⟨hr, v, fun h => others_ne h hv, rfl⟩⟩
theorem tick_outs (r : R) : Outs (tickR r).1 (tickR r).2.send := by
  unfold tickR
  split
  · next h => exact outs_all h
  split
  · exact outs_nil _
  · intro m hm
    obtain ⟨v, hv, rfl⟩ := List.mem_map.1 hm
    exact ⟨rfl, fun k => by cases k⟩
theorem propose_outs (r : R) (d : List UInt8) : Outs (proposeR r d).1 (proposeR r d).2.2.2.send := by
  unfold proposeR
  split
  · exact outs_nil _
  split
  · exact outs_nil _
  split
  · exact outs_nil _
  · next h _ _ => exact outs_all (Decidable.not_not.1 h)
theorem kind_outs {r : R} {m : Msg} (hm : isId m.fr ∧ m.fr ≠ r.id) : Outs (kindR r m).1 (kindR r m).2.send := by
  unfold kindR
  split
  · unfold voteR
    split
    · exact outs_one rfl (by show (1 : Int) ≠ 2; omega)
    · exact outs_one rfl (by show (1 : Int) ≠ 2; omega)
  split
  · unfold votedR
    split
    · show Outs (if cnt _ < 2 then _ else _ : R × Out).1 (if cnt _ < 2 then _ else _ : R × Out).2.send
      split
      · exact outs_nil _
      · exact outs_all rfl
    · exact outs_nil _
  split
  · unfold appendR
    split
    · exact outs_one rfl (by show (3 : Int) ≠ 2; omega)
    split
    · exact outs_nil _
    split
    · exact outs_one rfl (by show (3 : Int) ≠ 2; omega)
    obtain ⟨k, hk⟩ : ∃ k, agree r.l m.ix.toNat m.rs = k := ⟨_, rfl⟩
    rw [hk]
    show Outs (if k < m.rs.length then _ else _ : R × Out).1 (if k < m.rs.length then _ else _ : R × Out).2.send
    split
    · split
      · exact outs_nil _
      · exact outs_one rfl (by show (3 : Int) ≠ 2; omega)
    · exact outs_one rfl (by show (3 : Int) ≠ 2; omega)
  · unfold appendedR
    split
    · next c =>
      split
      · split
        · exact outs_nil _
        · show Outs (if _ ≤ (r.l.length : Int) then _ else _ : R × Out).1 (if _ ≤ (r.l.length : Int) then _ else _ : R × Out).2.send
          split
          · exact outs_ents c.1 hm
          · exact outs_nil _
      · exact outs_ents c.1 hm
    · exact outs_nil _
theorem hear_outs (r : R) (m : Msg) : Outs (hearR r m).1 (hearR r m).2.send := by
  by_cases h0 : right r.id m = true
  · obtain ⟨e1, e2⟩ := hear_kind h0
    rw [e1, e2]
    have hid : (later r m).id = r.id := by unfold later; split <;> rfl
    unfold right at h0
    rw [Bool.and_eq_true, decide_eq_true_eq] at h0
    exact kind_outs ⟨⟨h0.1.2.2.2.2.1, h0.1.2.2.2.2.2.1⟩, by rw [hid]; exact h0.1.2.2.2.1⟩
  · unfold hearR
    rw [if_pos (by simpa using h0)]
    exact outs_nil _
theorem ents_len {i : Int} {r : R} (h : Inv s) (hi : isId i) (hr : Rel s i r) (hrole : r.role = 2) {v : Int} (hv : isId v ∧ v ≠ i) : (ents r v).ix + ((ents r v).rs.length : Int) ≤ (r.l.length : Int) := by
  obtain ⟨m1, m2, m3⟩ := (h.r2 i hi (by rw [hr.role]; exact hrole)).2.2 v hv.1 hv.2
  obtain ⟨n1, n2⟩ := hr.nxt hrole v hv.1 hv.2
  rw [hr.l] at m3
  show r.nxt v - 1 + (((r.l.drop (r.nxt v - 1).toNat).take 8).length : Int) ≤ _
  rw [List.length_take, List.length_drop]
  omega
/-- Terms, and numbers of entries. -/
structure Bd (x : Cl) (T : Int) (N : Nat) : Prop where
  tm : ∀ j, isId j → (x.r j).h.tm ≤ T
  l : ∀ j, isId j → (x.r j).l.length ≤ N
  ms : ∀ m ∈ x.sent, m.tm ≤ T ∧ (m.k = 2 → m.ix + (m.rs.length : Int) ≤ (N : Int))
theorem Bd.mono {x : Cl} {T T' : Int} {N N' : Nat} (h : Bd x T N) (h1 : T ≤ T') (h2 : N ≤ N') : Bd x T' N' := by
  refine ⟨fun j hj => Int.le_trans (h.tm j hj) h1, fun j hj => Nat.le_trans (h.l j hj) h2, fun m hm => ?_⟩
  obtain ⟨a, b⟩ := h.ms m hm
  exact ⟨by omega, fun k => by have := b k; omega⟩
theorem newR_eq {i : Int} {h : Hard} {l : List Rec} {r : R} (e : newR i h l = some r) : r.h = h ∧ r.l = l := by
  unfold newR at e
  split at e
  · cases e
  · have e := (Option.some.inj e).symm
    subst e; exact ⟨rfl, rfl⟩
theorem bd_start {x x' : Cl} {i : Int} {T : Int} {N : Nat} (h : Bd x T N) (h1 : (x.hd i).tm ≤ T) (h2 : (x.lg i).length ≤ N) (r1 : Int → R) (hr : ∀ j, j ≠ i → r1 j = x.r j) (e : startC { x with r := r1 } i = some x') : Bd x' T N := by
  unfold startC at e
  obtain ⟨r, e1, e2⟩ := Option.map_eq_some_iff.1 e
  obtain ⟨k1, k2⟩ := newR_eq e1
  subst e2
  refine ⟨fun j hj => ?_, fun j hj => ?_, h.ms⟩
  · show (upd r1 i r j).h.tm ≤ T
    by_cases q : j = i
    · subst q; rw [upd_same, k1]; exact h1
    · rw [upd_ne _ _ q, hr j q]; exact h.tm j hj
  · show (upd r1 i r j).l.length ≤ N
    by_cases q : j = i
    · subst q; rw [upd_same, k2]; exact h2
    · rw [upd_ne _ _ q, hr j q]; exact h.l j hj
theorem bd_done {x x' : Cl} {i : Int} {r' : R} {o : Out} {T : Int} {N : Nat} (hS : Sim s x) (hi : isId i) (hB : Bd x T N) (hd : Does s i r' o.send) (hk : Keeps (x.r i) r' o) (ho : Outs r' o.send) (h1 : r'.h.tm ≤ T) (h2 : r'.l.length ≤ N) (e : doneC x i r' o = some x') : Bd x' T N := by
  unfold doneC at e
  by_cases c1 : x.st i = 1
  · rw [if_pos c1] at e
    exact bd_start hB (by rw [hS.hd i hi]; exact hB.tm i hi) (by rw [hS.lg i hi]; exact hB.l i hi) _ (fun j hj => upd_ne _ _ hj) e
  rw [if_neg c1] at e
  have hms : ∀ m ∈ o.send, m.tm ≤ T ∧ (m.k = 2 → m.ix + (m.rs.length : Int) ≤ (N : Int)) := fun m hm => by
    obtain ⟨a, b⟩ := ho m hm
    refine ⟨by rw [a]; exact h1, fun k => ?_⟩
    obtain ⟨c, v, d, rfl⟩ := b k
    obtain ⟨s1, f1, f2, f3, _, _⟩ := hd
    have := ents_len f1 hi f3 c (by have := d (by rw [f3.id]; exact hi); rw [f3.id] at this; exact this)
    omega
  have hx : ∀ sent', (∀ m ∈ sent', m.tm ≤ T ∧ (m.k = 2 → m.ix + (m.rs.length : Int) ≤ (N : Int))) → Bd ⟨upd x.r i r', (if o.save = true then upd x.hd i o.h else x.hd), upd x.lg i (put (x.lg i) o), x.st, sent'⟩ T N := fun sent' hs => by
    refine ⟨fun j hj => ?_, fun j hj => ?_, hs⟩
    · show (upd x.r i r' j).h.tm ≤ T
      by_cases q : j = i
      · subst q; rw [upd_same]; exact h1
      · rw [upd_ne _ _ q]; exact hB.tm j hj
    · show (upd x.r i r' j).l.length ≤ N
      by_cases q : j = i
      · subst q; rw [upd_same]; exact h2
      · rw [upd_ne _ _ q]; exact hB.l j hj
  have hh : (if o.save = true then upd x.hd i o.h else x.hd) i = r'.h := by
    rw [← hk.h]
    split
    · exact upd_same _ _ _
    · exact hS.hd i hi
  have hl : upd x.lg i (put (x.lg i) o) i = r'.l := by rw [upd_same, hS.lg i hi]; exact hk.l
  by_cases c2 : x.st i = 2
  · have e : startC ⟨upd x.r i r', (if o.save = true then upd x.hd i o.h else x.hd), upd x.lg i (put (x.lg i) o), x.st, x.sent⟩ i = some x' := by
      have e : (if x.st i = 2 then _ else _) = some x' := e
      rw [if_pos c2] at e; exact e
    exact bd_start (hx x.sent hB.ms) (by show ((if o.save = true then upd x.hd i o.h else x.hd) i).tm ≤ T; rw [hh]; exact h1) (by show (upd x.lg i (put (x.lg i) o) i).length ≤ N; rw [hl]; exact h2) _ (fun _ _ => rfl) e
  · have e : some (Cl.mk (upd x.r i r') (if o.save = true then upd x.hd i o.h else x.hd) (upd x.lg i (put (x.lg i) o)) x.st (x.sent ++ o.send.take (300 - x.sent.length))) = some x' := by
      have e : (if x.st i = 2 then _ else _) = some x' := e
      rw [if_neg c2] at e; exact e
    rw [← Option.some.inj e]
    refine hx _ (fun m hm => ?_)
    rcases List.mem_append.1 hm with q | q
    · exact hB.ms m q
    · exact hms m (List.mem_of_mem_take q)
theorem hear_grow {r : R} {m : Msg} {T : Int} {N : Nat} (h1 : r.h.tm ≤ T) (h2 : r.l.length ≤ N) (h3 : m.tm ≤ T) (h4 : m.k = 2 → m.ix + (m.rs.length : Int) ≤ (N : Int)) : (hearR r m).1.h.tm ≤ T ∧ (hearR r m).1.l.length ≤ N := by
  by_cases h0 : right r.id m = true
  · obtain ⟨e1, _⟩ := hear_kind h0
    rw [e1]
    obtain ⟨_, _, _, _, _, _, a7, _⟩ := right_of h0
    have hl := later_l r m
    have ht : (later r m).h.tm ≤ T := by
      unfold later
      split
      · exact h3
      · exact h1
    unfold kindR
    split
    · unfold voteR
      split
      · exact ⟨ht, by rw [← hl] at h2; exact h2⟩
      · exact ⟨ht, by rw [← hl] at h2; exact h2⟩
    split
    · unfold votedR
      split
      · show (if cnt _ < 2 then _ else _ : R × Out).1.h.tm ≤ T ∧ (if cnt _ < 2 then _ else _ : R × Out).1.l.length ≤ N
        split
        · exact ⟨ht, by rw [← hl] at h2; exact h2⟩
        · exact ⟨ht, by rw [← hl] at h2; exact h2⟩
      · exact ⟨ht, by rw [← hl] at h2; exact h2⟩
    split
    · next k2 =>
      refine ⟨by rw [append_h]; exact ht, ?_⟩
      rcases append_l (r := later r m) (m := m) with q | ⟨k, k1, q⟩
      · rw [q, hl]; exact h2
      · have := h4 k2
        rw [q, List.length_append, List.length_take, List.length_drop]
        omega
    · unfold appendedR
      split
      · split
        · split
          · exact ⟨ht, by rw [← hl] at h2; exact h2⟩
          · show (if _ ≤ ((later r m).l.length : Int) then _ else _ : R × Out).1.h.tm ≤ T ∧ (if _ ≤ ((later r m).l.length : Int) then _ else _ : R × Out).1.l.length ≤ N
            split
            · exact ⟨ht, by rw [← hl] at h2; exact h2⟩
            · exact ⟨ht, by rw [← hl] at h2; exact h2⟩
        · exact ⟨ht, by rw [← hl] at h2; exact h2⟩
      · exact ⟨ht, by rw [← hl] at h2; exact h2⟩
  · unfold hearR
    rw [if_pos (by simpa using h0)]
    exact ⟨h1, h2⟩
theorem tick_grow {r : R} {T : Int} {N : Nat} (h1 : r.h.tm ≤ T) (h2 : r.l.length ≤ N) : (tickR r).1.h.tm ≤ T + 1 ∧ (tickR r).1.l.length ≤ N := by
  unfold tickR
  split
  · exact ⟨by show r.h.tm ≤ T + 1; omega, h2⟩
  split
  · exact ⟨by show r.h.tm ≤ T + 1; omega, h2⟩
  · exact ⟨by show r.h.tm + 1 ≤ T + 1; omega, h2⟩
theorem propose_grow {r : R} {T : Int} {N : Nat} (h1 : r.h.tm ≤ T) (h2 : r.l.length ≤ N) (d : List UInt8) : (proposeR r d).1.h.tm ≤ T ∧ (proposeR r d).1.l.length ≤ N + 1 := by
  unfold proposeR
  split
  · exact ⟨h1, Nat.le_succ_of_le h2⟩
  split
  · exact ⟨h1, Nat.le_succ_of_le h2⟩
  split
  · exact ⟨h1, Nat.le_succ_of_le h2⟩
  · refine ⟨h1, ?_⟩
    show (r.l ++ [(⟨r.h.tm, d⟩ : Rec)]).length ≤ N + 1
    rw [List.length_append, List.length_singleton]
    omega
theorem bd_tick {x x' : Cl} {i : Int} {T : Int} {N : Nat} (h : Sim s x) (hi : isId i) (hB : Bd x T N) (e : doneC x i (tickR (x.r i)).1 (tickR (x.r i)).2 = some x') : Bd x' (T + 1) N :=
  bd_done h hi (hB.mono (by omega) (Nat.le_refl _)) (tick_sim h.inv hi (h.rel i hi)) (tick_keeps _) (tick_outs _) (tick_grow (hB.tm i hi) (hB.l i hi)).1 (tick_grow (hB.tm i hi) (hB.l i hi)).2 e
theorem bd_propose {x x' : Cl} {i : Int} {T : Int} {N : Nat} (h : Sim s x) (hi : isId i) (hB : Bd x T N) (d : List UInt8) (e : doneC x i (proposeR (x.r i) d).1 (proposeR (x.r i) d).2.2.2 = some x') : Bd x' T (N + 1) :=
  bd_done h hi (hB.mono (Int.le_refl _) (Nat.le_succ _)) (propose_sim h.inv hi (h.rel i hi) d) (propose_keeps _ d) (propose_outs _ d) (propose_grow (hB.tm i hi) (hB.l i hi) d).1 (propose_grow (hB.tm i hi) (hB.l i hi) d).2 e
theorem bd_restart {x x' : Cl} {i : Int} {T : Int} {N : Nat} (h : Sim s x) (hi : isId i) (hB : Bd x T N) (e : startC x i = some x') : Bd x' T N :=
  bd_start hB (by rw [h.hd i hi]; exact hB.tm i hi) (by rw [h.lg i hi]; exact hB.l i hi) x.r (fun _ _ => rfl) e
theorem bd_arrive {x x' : Cl} {T : Int} {N : Nat} (h : Sim s x) (hB : Bd x T N) (n : Nat) (keep : Bool) (e : arriveC x n keep = some x') : Bd x' T N := by
  unfold arriveC at e
  split at e
  · rw [← Option.some.inj e]; exact hB
  · next m hm =>
    have hmem := List.mem_of_getElem? hm
    have hg := h.good m hmem
    have hd : m.dst % 3 = m.dst := by have := hg.2.1; unfold isId at this; omega
    rw [hd] at e
    have h1 : Sim s (if keep = true then x else { x with sent := x.sent.eraseIdx n }) := by
      split
      · exact h
      · exact h.fewer (fun y hy => List.mem_of_mem_eraseIdx hy)
    have hB1 : Bd (if keep = true then x else { x with sent := x.sent.eraseIdx n }) T N := by
      split
      · exact hB
      · exact ⟨hB.tm, hB.l, fun y hy => hB.ms y (List.mem_of_mem_eraseIdx hy)⟩
    have k := hB.ms m hmem
    have g := hear_grow (hB1.tm _ hg.2.1) (hB1.l _ hg.2.1) k.1 k.2
    exact bd_done h1 hg.2.1 hB1 (hear_sim h1.inv hg.2.1 (h1.rel _ hg.2.1) hg) (hear_keeps _ _) (hear_outs _ _) g.1 g.2 e
theorem bd0 : Bd beginC 0 0 := ⟨fun _ _ => Int.le_refl _, fun _ _ => Nat.le_refl _, fun m hm => by cases hm⟩
end Rp
end Go.Proofs.Ytoghaogcekappaa

namespace Go.Proofs.Ytoghaogcekappaa
namespace Rp
variable {s s' : St}

/-! ### Votes that arrive -/
def vm (r : R) (v : Int) : Msg := { msg r 0 v with ix := (r.l.length : Int), pv := lastT r.l }
def vrep (r : R) (d : Int) (y : Bool) : Msg := { msg r 1 d with yes := y }
/-- The log l is not up to date with the log l'. -/
def Less (l l' : List Rec) : Prop := ¬ (lastT l' < lastT l ∨ (lastT l = lastT l' ∧ (l'.length : Int) ≤ (l.length : Int)))
theorem Less.asymm {l l' : List Rec} (h : Less l l') (k : Less l' l) : False := by
  unfold Less at *
  omega
theorem vm_right {i : Int} {r : R} (h : Inv s) (hi : isId i) (hr : Rel s i r) (ho : Okr r) (h1 : 1 ≤ r.h.tm) {v : Int} (hne : v ≠ i) : right v (vm r v) = true := by
  have ok := h.okLog i hi
  rw [hr.l] at ok
  have hp : 0 ≤ lastT r.l ∧ lastT r.l ≤ r.h.tm ∧ (0 < r.l.length ∨ lastT r.l = 0) := by
    rcases Nat.eq_zero_or_pos r.l.length with e | e
    · have : lastT r.l = 0 := by unfold lastT; rw [e]; rfl
      rw [this]
      exact ⟨Int.le_refl _, by omega, Or.inr rfl⟩
    · have a := (ok r.l.length e (Nat.le_refl _)).1
      have b := h.logT i r.l.length hi e (by rw [hr.l]; exact Nat.le_refl _)
      rw [hr.l, hr.tm] at b
      unfold lastT
      exact ⟨by omega, b, Or.inl e⟩
  have := ho.l
  have e0 : vm r v = ⟨0, i, v, r.h.tm, (r.l.length : Int), lastT r.l, 0, false, []⟩ := by unfold vm msg; rw [hr.id]
  rw [e0]
  unfold isId at hi
  exact right_mk ⟨by show (0 : Int) ≤ 0; omega, by show (0 : Int) ≤ 3; omega, rfl, fun e => hne e.symm, hi.1, hi.2, h1, ho.tm, by show 0 ≤ (r.l.length : Int); omega, by show (r.l.length : Int) ≤ 4000; omega, hp.1, hp.2.1, by show (0 : Int) ≤ 0; omega, by show (0 : Int) ≤ 4000; omega, by show 0 ≤ 8; omega, by
    show 0 < (r.l.length : Int) ∨ lastT r.l = 0
    rcases hp.2.2 with q | q
    · exact Or.inl (by omega)
    · exact Or.inr q, by show (r.l.length : Int) + ((0 : Nat) : Int) ≤ 4000; omega⟩ rfl
theorem vrep_right {r : R} {d : Int} {y : Bool} (hi : isId r.id) (hne : d ≠ r.id) (h1 : 1 ≤ r.h.tm) (h2 : r.h.tm ≤ 1099511627776) : right d (vrep r d y) = true := by
  unfold isId at hi
  have e0 : vrep r d y = ⟨1, r.id, d, r.h.tm, 0, 0, 0, y, []⟩ := rfl
  rw [e0]
  exact right_mk ⟨by show (0 : Int) ≤ 1; omega, by show (1 : Int) ≤ 3; omega, rfl, fun e => hne e.symm, hi.1, hi.2, h1, h2, by show (0 : Int) ≤ 0; omega, by show (0 : Int) ≤ 4000; omega, by show (0 : Int) ≤ 0; omega, by show 0 ≤ r.h.tm; omega, by show (0 : Int) ≤ 0; omega, by show (0 : Int) ≤ 4000; omega, by show 0 ≤ 8; omega, Or.inr rfl, by show (0 : Int) + ((0 : Nat) : Int) ≤ 4000; omega⟩ rfl
theorem later_tm (r : R) (m : Msg) : (later r m).h.tm = max r.h.tm m.tm := by
  unfold later
  split
  · show m.tm = _; omega
  · omega
theorem later_id (r : R) (m : Msg) : (later r m).id = r.id := by unfold later; split <;> rfl
theorem vote_recv {r : R} {m : Msg} (hm : right r.id m = true) (hk : m.k = 0) : ∃ y, (hearR r m).2.send = [vrep (hearR r m).1 m.fr y] ∧ (hearR r m).1.id = r.id ∧ (hearR r m).1.h.tm = max r.h.tm m.tm ∧ (hearR r m).1.l = r.l ∧ (y = true → r.h.tm ≤ m.tm) ∧
    (r.h.tm < m.tm → y = false → ¬ (lastT r.l < m.pv ∨ (m.pv = lastT r.l ∧ (r.l.length : Int) ≤ m.ix))) := by
  obtain ⟨e1, e2⟩ := hear_kind hm
  have e3 : kindR (later r m) m = voteR (later r m) m := by unfold kindR; rw [if_pos hk]
  rw [e1, e2, e3]
  have ht := later_tm r m
  have hl := later_l r m
  unfold voteR
  split
  · next c =>
    refine ⟨true, rfl, later_id r m, ht, hl, fun _ => ?_, fun _ k => by cases k⟩
    have := c.1
    omega
  · next c =>
    refine ⟨false, rfl, later_id r m, ht, hl, (fun k => by cases k), fun q _ w => c ⟨by omega, ?_, by rw [hl]; exact w⟩⟩
    unfold later
    rw [if_pos q]
    exact Or.inl rfl
theorem kind1 {r : R} {m : Msg} (hk : m.k = 1) : kindR r m = votedR r m := by
  unfold kindR
  rw [if_neg (by omega), if_pos hk]
theorem voted_none {r : R} {m : Msg} (hm : right r.id m = true) (hk : m.k = 1) (h : r.role ≠ 1 ∨ r.h.tm < m.tm ∨ m.yes = false) : (hearR r m).1 = later r m ∧ (hearR r m).2.send = [] := by
  obtain ⟨e1, e2⟩ := hear_kind hm
  rw [e1, e2, kind1 hk]
  unfold votedR
  rw [if_neg]
  · exact ⟨rfl, rfl⟩
  · rintro ⟨c1, c2, c3⟩
    rcases h with h | h | h
    · unfold later at c1
      split at c1
      · have c1 : (0 : Int) = 1 := c1
        omega
      · exact h c1
    · unfold later at c1
      rw [if_pos h] at c1
      have c1 : (0 : Int) = 1 := c1
      omega
    · rw [h] at c3; cases c3
theorem cnt_ge {f : Int → Bool} {a b : Int} (ha : isId a) (hb : isId b) (hab : a ≠ b) (h1 : f a = true) (h2 : f b = true) : ¬ cnt f < 2 := by
  unfold isId at ha hb
  unfold cnt
  have ca : a = 0 ∨ a = 1 ∨ a = 2 := by omega
  have cb : b = 0 ∨ b = 1 ∨ b = 2 := by omega
  rcases ca with rfl | rfl | rfl <;> rcases cb with rfl | rfl | rfl
  · exact absurd rfl hab
  · rw [h1, h2]; simp
  · rw [h1, h2]; simp
  · rw [h1, h2]; simp
  · exact absurd rfl hab
  · rw [h1, h2]; simp
  · rw [h1, h2]; simp
  · rw [h1, h2]; simp
  · exact absurd rfl hab
theorem voted_win {r : R} {m : Msg} (hm : right r.id m = true) (hk : m.k = 1) (hr : r.role = 1) (ht : m.tm = r.h.tm) (hy : m.yes = true) (hid : isId r.id) (hv : r.votes r.id = true) : ∃ vs, (hearR r m).1 = { r with votes := vs, role := 2, nxt := fun _ => (r.l.length : Int) + 1, mat := fun _ => 0 } ∧ (hearR r m).2.send = all { r with votes := vs, role := 2, nxt := fun _ => (r.l.length : Int) + 1, mat := fun _ => 0 } := by
  obtain ⟨e1, e2⟩ := hear_kind hm
  have e3 : later r m = r := by unfold later; rw [if_neg (by omega)]
  rw [e1, e2, kind1 hk, e3]
  unfold right at hm
  rw [Bool.and_eq_true, decide_eq_true_eq] at hm
  have hc : ¬ cnt (fun v => r.votes v || decide (v = m.fr)) < 2 := cnt_ge (f := fun v => r.votes v || decide (v = m.fr)) hid ⟨hm.1.2.2.2.2.1, hm.1.2.2.2.2.2.1⟩ (fun e => hm.1.2.2.2.1 e.symm) (by show (r.votes r.id || _) = true; rw [hv]; rfl) (by simp)
  refine ⟨fun v => r.votes v || decide (v = m.fr), ?_⟩
  unfold votedR
  rw [if_pos ⟨hr, ht, hy⟩]
  show (if cnt (fun v => r.votes v || decide (v = m.fr)) < 2 then _ else _ : R × Out).1 = _ ∧ (if cnt (fun v => r.votes v || decide (v = m.fr)) < 2 then _ else _ : R × Out).2.send = _
  rw [if_neg hc]
  exact ⟨rfl, rfl⟩

/-! ### Calls that are not interrupted -/
theorem call_plain {x : Cl} {i : Int} {r' : R} {o : Out} (h : Next s (doneC x i r' o)) (hst : x.st i = 0) (hlen : x.sent.length + o.send.length ≤ 300) : ∃ x1 s1, doneC x i r' o = some x1 ∧ Sim s1 x1 ∧ Ext s s1 ∧ x1.r = upd x.r i r' ∧ x1.st = x.st ∧ x1.sent = x.sent ++ o.send := by
  obtain ⟨x1, s1, e1, e2, e3⟩ := h
  have hx : doneC x i r' o = some ⟨upd x.r i r', (if o.save = true then upd x.hd i o.h else x.hd), upd x.lg i (put (x.lg i) o), x.st, x.sent ++ o.send⟩ := by
    unfold doneC
    rw [if_neg (by omega)]
    show (if x.st i = 2 then _ else _) = _
    rw [if_neg (by omega)]
    show some (Cl.mk _ _ _ _ (x.sent ++ o.send.take (300 - x.sent.length))) = _
    rw [List.take_of_length_le (by omega)]
  have : x1 = ⟨upd x.r i r', (if o.save = true then upd x.hd i o.h else x.hd), upd x.lg i (put (x.lg i) o), x.st, x.sent ++ o.send⟩ := by
    rw [hx] at e1; exact (Option.some.inj e1).symm
  exact ⟨x1, s1, e1, e2, e3, by rw [this], by rw [this], by rw [this]⟩
structure Quiet (s : St) (x : Cl) : Prop where
  sim : Sim s x
  st : ∀ j, isId j → x.st j = 0
  sent : x.sent = []
theorem flow_one {x x1 : Cl} {m : Msg} {Q : List Msg} (n : Nat) (hq : x.sent = m :: Q) (e : arriveC x 0 false = some x1) : flowC (n + 1) x = flowC n x1 := by
  have e0 : flowC (n + 1) x = (match x.sent with | [] => some x | _ :: _ => (arriveC x 0 false).bind (flowC n)) := rfl
  rw [e0, hq]
  show (arriveC x 0 false).bind (flowC n) = _
  rw [e]
  rfl
theorem flow_nil {x : Cl} (n : Nat) (hq : x.sent = []) : flowC n x = some x := by
  cases n with
  | zero => rfl
  | succ n => unfold flowC; rw [hq]
theorem others_two {i : Int} (h : isId i) : ∃ a b, others i = [a, b] ∧ isId a ∧ isId b ∧ a ≠ b ∧ a ≠ i ∧ b ≠ i ∧ ∀ j, isId j → j ≠ i → j = a ∨ j = b := by
  unfold isId at *
  have : i = 0 ∨ i = 1 ∨ i = 2 := by omega
  rcases this with rfl | rfl | rfl
  · exact ⟨1, 2, rfl, by omega, by omega, by omega, by omega, by omega, fun j _ _ => by omega⟩
  · exact ⟨0, 2, rfl, by omega, by omega, by omega, by omega, by omega, fun j _ _ => by omega⟩
  · exact ⟨0, 1, rfl, by omega, by omega, by omega, by omega, by omega, fun j _ _ => by omega⟩
/-- The flow begins: one that leads has sent entries to both others. -/
theorem mkFI {x : Cl} {i t c : Int} {L : List Rec} {B C : Prop} {rL : R} (hS : Sim s x) (hst : ∀ j, isId j → x.st j = 0) (hi : isId i) (hl : s.ldr t = i) (hlog : (x.r i).l = L) (h1 : rL.id = i) (h2 : rL.h.tm = t) (hrt : ∀ v, isId v → v ≠ i → right v (ents rL v) = true) (hse : x.sent = all rL) (hc : c ≤ rL.cm) (hcl : c ≤ (L.length : Int))
    (hme : (x.r i = rL ∧ rL.role = 2) ∨ ((x.r i).role ≠ 2 ∧ t ≤ (x.r i).h.tm ∧ ∃ j, isId j ∧ j ≠ i ∧ t < (x.r j).h.tm)) (hB : B → ∀ j, isId j → j ≠ i → (x.r j).h.tm ≤ t) (hC : C → leads x i t → 1 ≤ L.length → tAt L L.length = t → ∀ v, isId v → v ≠ i → (x.r i).mat v = (L.length : Int) → (L.length : Int) ≤ (x.r i).cm) : FI s x i t L c B C := by
  have hlead : leads x i t → x.r i = rL := fun w => by
    rcases hme with q | q
    · exact q.1
    · exact absurd w.1 q.1
  obtain ⟨a, b, ho, ha, hb, hab, hai, hbi, hall⟩ := others_two hi
  have hse2 : x.sent = [ents rL a, ents rL b] := by rw [hse]; unfold all; rw [h1, ho]; rfl
  have hpe : ∀ v, Rp.par i (ents rL v) = v := fun v => by
    unfold Rp.par
    have e0 : (ents rL v).fr = rL.id := rfl
    rw [e0, h1, if_pos rfl]
    rfl
  have happ : ∀ v, isId v → v ≠ i → App x i t c (ents rL v) := fun v hv hvi => by
    refine ⟨rfl, h1, hv, hvi, h2, hrt v hv hvi, hc, fun w => ?_⟩
    have e := hlead w
    obtain ⟨m1, m2, m3⟩ := (hS.inv.r2 i hi (by rw [(hS.rel i hi).role]; exact w.1)).2.2 v hv hvi
    obtain ⟨n1, n2⟩ := (hS.rel i hi).nxt w.1 v hv hvi
    rw [(hS.rel i hi).l] at m3
    rw [e] at m3 n1 ⊢
    refine ⟨rfl, ?_⟩
    show rL.nxt v - 1 + (((rL.l.drop (rL.nxt v - 1).toNat).take 8).length : Int) = min (rL.nxt v - 1 + 8) (rL.l.length : Int)
    rw [List.length_take, List.length_drop]
    omega
  refine ⟨hS, hst, hi, hl, hlog, hcl, fun w => by rw [hlead w]; exact hc, ?_, ?_, hB, hC, fun m hm => ?_, ?_, fun j hj hji hjn => ?_⟩
  · rcases hme with q | q
    · exact Or.inl ⟨by rw [q.1]; exact q.2, by rw [q.1]; exact h2⟩
    · exact Or.inr ⟨q.1, q.2.1⟩
  · rcases hme with q | q
    · exact Or.inl ⟨by rw [q.1]; exact q.2, by rw [q.1]; exact h2⟩
    · exact Or.inr q.2.2
  · rw [hse2] at hm
    rcases List.mem_cons.1 hm with q | q
    · rw [q]; exact Or.inl (happ a ha hai)
    · rw [List.mem_singleton.1 q]; exact Or.inl (happ b hb hbi)
  · rw [hse2]
    simp only [List.map_cons, List.map_nil, hpe]
    simp [hab]
  · exfalso
    apply hjn
    rw [hse2]
    simp only [List.map_cons, List.map_nil, hpe]
    rcases hall j hj hji with q | q
    · rw [q]; exact List.mem_cons_self ..
    · rw [q]; exact List.mem_cons_of_mem _ (List.mem_singleton.2 rfl)
theorem FI.todo_le {x : Cl} {i t c : Int} {L : List Rec} {B C : Prop} {N : Nat} (h : FI s x i t L c B C) (hN : L.length ≤ N) : todo x i ≤ 8 * N + 8 := by
  have hlen := h.len
  have hleft : ∀ v, isId v → v ≠ i → left (x.r i) v ≤ 2 * N + 1 := fun v hv hvi => by
    unfold left
    split
    · next hr =>
      obtain ⟨m1, m2, m3⟩ := (h.sim.inv.r2 i h.id (by rw [(h.sim.rel i h.id).role]; exact hr)).2.2 v hv hvi
      obtain ⟨n1, n2⟩ := (h.sim.rel i h.id).nxt hr v hv hvi
      rw [(h.sim.rel i h.id).l, h.log] at m3
      rw [h.log]
      omega
    · omega
  have hcost : ∀ m ∈ x.sent, cost (x.r i) i m ≤ 4 * N + 4 := fun m hm => by
    obtain ⟨a, b⟩ := h.par m hm
    have := hleft _ a b
    unfold cost
    split <;> omega
  unfold todo
  match hq : x.sent, hlen, hcost with
  | [], _, _ => simp
  | [a], _, hc =>
    have := hc a (by simp)
    simp; omega
  | [a, b], _, hc =>
    have := hc a (by simp)
    have := hc b (by simp)
    simp; omega
  | _ :: _ :: _ :: _, hl, _ => simp at hl
end Rp
end Go.Proofs.Ytoghaogcekappaa

namespace Go.Proofs.Ytoghaogcekappaa
namespace Rp
variable {s s' : St}

theorem bd_flow {T : Int} {N : Nat} : ∀ (n : Nat) {s : St} {x x' : Cl}, Sim s x → Bd x T N → flowC n x = some x' → Bd x' T N
  | 0, s, x, x', _, hB, e => by rw [← Option.some.inj e]; exact hB
  | n + 1, s, x, x', hS, hB, e => by
    match hq : x.sent with
    | [] => rw [flow_nil _ hq] at e; rw [← Option.some.inj e]; exact hB
    | m :: Q =>
      obtain ⟨x1, s1, e1, e2, e3⟩ := arrive_next hS 0 false
      rw [flow_one n hq e1] at e
      exact bd_flow n e2 (bd_arrive hS hB 0 false e1) e
/-- The election: what has become of it after four messages. -/
structure Elected (x : Cl) (s2 : St) (x2 : Cl) (i t : Int) : Prop where
  st : ∀ j, isId j → x2.st j = 0
  sim : Sim s2 x2
  out : (x2.sent = [] ∧ (x2.r i).role ≠ 2 ∧ (x2.r i).l = (x.r i).l ∧ (∀ j, isId j → j ≠ i → (x2.r j).h.tm = max (x.r j).h.tm t ∧ (x2.r j).l = (x.r j).l ∧ (x2.r j).h.tm ≤ (x2.r i).h.tm) ∧
          ((∀ j, isId j → j ≠ i → (x.r j).h.tm < t) → (x2.r i).h.tm = t ∧ ∀ j, isId j → j ≠ i → Less (x.r i).l (x.r j).l)) ∨
        FI s2 x2 i t (x.r i).l 0 (∀ j, isId j → j ≠ i → (x.r j).h.tm ≤ t) False
set_option maxHeartbeats 1000000 in
theorem elect {x : Cl} {i : Int} (h : Quiet s x) (hi : isId i) (hrole : (x.r i).role ≠ 2) (hT : (x.r i).h.tm < 1099511627776) : ∃ x1 s1 x2 s2, doneC x i (tickR (x.r i)).1 (tickR (x.r i)).2 = some x1 ∧ Sim s1 x1 ∧ Ext s s1 ∧ (∀ n, flowC (n + 4) x1 = flowC n x2) ∧ Ext s1 s2 ∧ Elected x s2 x2 i ((x.r i).h.tm + 1) := by
  obtain ⟨a, b, ho, ha, hb, hab, hai, hbi, hall⟩ := others_two hi
  have hR := h.sim.rel i hi
  obtain ⟨r1, hr1⟩ : ∃ r1 : R, r1 = { x.r i with h := ⟨(x.r i).h.tm + 1, (x.r i).id⟩, role := 1, votes := fun v => decide (v = (x.r i).id) } := ⟨_, rfl⟩
  have ho' : others (x.r i).id = [a, b] := by rw [hR.id]; exact ho
  have htick : tickR (x.r i) = (r1, ⟨true, r1.h, 0, [], [vm r1 a, vm r1 b]⟩) := by
    unfold tickR
    rw [if_neg hrole, if_neg (by omega), hr1]
    show ((_ : R), (⟨true, _, 0, [], (others (x.r i).id).map _⟩ : Out)) = _
    rw [ho']
    rfl
  obtain ⟨t, ht⟩ : ∃ t, t = (x.r i).h.tm + 1 := ⟨_, rfl⟩
  rw [← ht]
  have t1 : r1.h.tm = t := by rw [hr1, ht]
  have i1 : r1.id = i := by rw [hr1]; exact hR.id
  have l1 : r1.l = (x.r i).l := by rw [hr1]
  have ro1 : r1.role = 1 := by rw [hr1]
  have v1 : r1.votes r1.id = true := by rw [hr1]; simp
  have htp : 1 ≤ t := by
    have := h.sim.inv.t0 i
    rw [hR.tm] at this
    omega
  have hN := tick_next h.sim hi
  rw [htick] at hN ⊢
  obtain ⟨x1, s1, e1, S1, E1, rx1, st1, se1⟩ := call_plain hN (h.st i hi) (by rw [h.sent]; simp)
  rw [h.sent, List.nil_append] at se1
  have se1 : x1.sent = [vm r1 a, vm r1 b] := se1
  have ri1 : x1.r i = r1 := by rw [rx1]; exact upd_same _ _ _
  have ra1 : x1.r a = x.r a := by rw [rx1]; exact upd_ne _ _ hai
  have rb1 : x1.r b = x.r b := by rw [rx1]; exact upd_ne _ _ hbi
  have R1 := S1.rel i hi
  rw [ri1] at R1
  have O1 := S1.okr i hi
  rw [ri1] at O1
  have va := vm_right S1.inv hi R1 O1 (by rw [t1]; exact htp) hai
  have vb := vm_right S1.inv hi R1 O1 (by rw [t1]; exact htp) hbi
  have hida : (x1.r a).id = a := (S1.rel a ha).id
  -- the first request
  obtain ⟨ya, k1, k2, k3, k4, k5, k6⟩ := vote_recv (r := x1.r a) (m := vm r1 a) (by rw [hida]; exact va) rfl
  obtain ⟨x2, s2, e2, S2, E2, rx2, st2, se2⟩ := deliver S1 se1 (by rw [st1]; exact h.st a ha) (by
    show 1 + (hearR (x1.r a) (vm r1 a)).2.send.length ≤ 300
    rw [k1]; simp)
  obtain ⟨pa, hpa⟩ : ∃ pa, (hearR (x1.r a) (vm r1 a)).1 = pa := ⟨_, rfl⟩
  have rx2 : x2.r = upd x1.r a (hearR (x1.r a) (vm r1 a)).1 := rx2
  have se2 : x2.sent = [vm r1 b] ++ (hearR (x1.r a) (vm r1 a)).2.send := se2
  rw [k1] at se2
  rw [hpa] at k2 k3 k4 rx2 se2
  have fra : (vm r1 a).fr = i := i1
  have frb : (vm r1 b).fr = i := i1
  rw [fra] at se2
  have tma : pa.h.tm = max (x.r a).h.tm t := by rw [k3, ra1]; show max _ r1.h.tm = _; rw [t1]
  have ida : pa.id = a := by rw [k2]; exact hida
  have la : pa.l = (x.r a).l := by rw [k4, ra1]
  have ra2 : x2.r a = pa := by rw [rx2]; exact upd_same _ _ _
  have ri2 : x2.r i = r1 := by rw [rx2, upd_ne _ _ (fun e => hai e.symm)]; exact ri1
  have rb2 : x2.r b = x.r b := by rw [rx2, upd_ne _ _ (fun e => hab e.symm)]; exact rb1
  -- the second one
  have hidb : (x2.r b).id = b := (S2.rel b hb).id
  obtain ⟨yb, j1, j2, j3, j4, j5, j6⟩ := vote_recv (r := x2.r b) (m := vm r1 b) (by rw [hidb]; exact vb) rfl
  have se2' : x2.sent = vm r1 b :: [vrep pa i ya] := se2
  obtain ⟨x3, s3, e3, S3, E3, rx3, st3, se3⟩ := deliver S2 se2' (by rw [st2, st1]; exact h.st b hb) (by
    show 1 + (hearR (x2.r b) (vm r1 b)).2.send.length ≤ 300
    rw [j1]; simp)
  obtain ⟨pb, hpb⟩ : ∃ pb, (hearR (x2.r b) (vm r1 b)).1 = pb := ⟨_, rfl⟩
  have rx3 : x3.r = upd x2.r b (hearR (x2.r b) (vm r1 b)).1 := rx3
  have se3 : x3.sent = [vrep pa i ya] ++ (hearR (x2.r b) (vm r1 b)).2.send := se3
  rw [j1] at se3
  rw [hpb] at j2 j3 j4 rx3 se3
  rw [frb] at se3
  have tmb : pb.h.tm = max (x.r b).h.tm t := by rw [j3, rb2]; show max _ r1.h.tm = _; rw [t1]
  have idb : pb.id = b := by rw [j2]; exact hidb
  have lb : pb.l = (x.r b).l := by rw [j4, rb2]
  have rb3 : x3.r b = pb := by rw [rx3]; exact upd_same _ _ _
  have ra3 : x3.r a = pa := by rw [rx3, upd_ne _ _ hab]; exact ra2
  have ri3 : x3.r i = r1 := by rw [rx3, upd_ne _ _ (fun e => hbi e.symm)]; exact ri2
  have st3i : ∀ j, isId j → x3.st j = 0 := fun j hj => by rw [st3, st2, st1]; exact h.st j hj
  have Oa := S3.okr a ha
  rw [ra3] at Oa
  have Ob := S3.okr b hb
  rw [rb3] at Ob
  have wa : right i (vrep pa i ya) = true := vrep_right (by rw [ida]; exact ha) (by rw [ida]; exact fun e => hai e.symm) (by omega) Oa.tm
  have wb : right i (vrep pb i yb) = true := vrep_right (by rw [idb]; exact hb) (by rw [idb]; exact fun e => hbi e.symm) (by omega) Ob.tm
  have se3' : x3.sent = vrep pa i ya :: [vrep pb i yb] := se3
  have hye : ya = true → (x.r a).h.tm ≤ t := fun q => by
    have := k5 q
    rw [ra1] at this
    have e0 : (vm r1 a).tm = r1.h.tm := rfl
    rw [e0, t1] at this
    exact this
  have hyb : yb = true → (x.r b).h.tm ≤ t := fun q => by
    have := j5 q
    rw [rb2] at this
    have e0 : (vm r1 b).tm = r1.h.tm := rfl
    rw [e0, t1] at this
    exact this
  have hlessa : (x.r a).h.tm < t → ya = false → Less (x.r i).l (x.r a).l := fun q1 q2 => by
    have e0 : (vm r1 a).tm = r1.h.tm := rfl
    have := k6 (by rw [ra1, e0, t1]; exact q1) q2
    rw [ra1] at this
    have e1 : (vm r1 a).pv = lastT r1.l := rfl
    have e2 : (vm r1 a).ix = (r1.l.length : Int) := rfl
    rw [e1, e2, l1] at this
    exact this
  have hlessb : (x.r b).h.tm < t → yb = false → Less (x.r i).l (x.r b).l := fun q1 q2 => by
    have e0 : (vm r1 b).tm = r1.h.tm := rfl
    have := j6 (by rw [rb2, e0, t1]; exact q1) q2
    rw [rb2] at this
    have e1 : (vm r1 b).pv = lastT r1.l := rfl
    have e2 : (vm r1 b).ix = (r1.l.length : Int) := rfl
    rw [e1, e2, l1] at this
    exact this
  -- the first answer
  have key : ∃ x4 s4 x5 s5, arriveC x3 0 false = some x4 ∧ Ext s3 s4 ∧ (∃ m Q, x4.sent = m :: Q) ∧ arriveC x4 0 false = some x5 ∧ Ext s4 s5 ∧ Elected x s5 x5 i t := by
    have hri : right (x3.r i).id (vrep pa i ya) = true := by rw [ri3, i1]; exact wa
    by_cases hwin : ya = true ∧ (x.r a).h.tm ≤ t
    · -- it leads at once
      obtain ⟨vs, q1, q2⟩ := voted_win (r := x3.r i) (m := vrep pa i ya) hri rfl (by rw [ri3]; exact ro1) (by rw [ri3, t1]; show pa.h.tm = t; omega) hwin.1 (by rw [ri3, i1]; exact hi) (by rw [ri3]; exact v1)
      rw [ri3] at q1 q2
      obtain ⟨rL, hrL⟩ : ∃ rL : R, rL = { r1 with votes := vs, role := 2, nxt := fun _ => (r1.l.length : Int) + 1, mat := fun _ => 0 } := ⟨_, rfl⟩
      rw [← hrL] at q1 q2
      have hallL : (all rL).length = 2 := by unfold all; rw [show rL.id = i by rw [hrL]; exact i1, ho]; rfl
      obtain ⟨x4, s4, e4, S4, E4, rx4, st4, se4⟩ := deliver S3 se3' (st3i i hi) (by
        show 1 + (hearR (x3.r i) (vrep pa i ya)).2.send.length ≤ 300
        rw [ri3, q2, hallL]; simp)
      have rx4 : x4.r = upd x3.r i (hearR (x3.r i) (vrep pa i ya)).1 := rx4
      have se4 : x4.sent = [vrep pb i yb] ++ (hearR (x3.r i) (vrep pa i ya)).2.send := se4
      rw [ri3, q1] at rx4
      rw [ri3, q2] at se4
      have ri4 : x4.r i = rL := by rw [rx4]; exact upd_same _ _ _
      have R4 := S4.rel i hi
      have O4 := S4.okr i hi
      rw [ri4] at R4 O4
      have rol : rL.role = 2 := by rw [hrL]
      have tl : rL.h.tm = t := by rw [hrL]; exact t1
      have il : rL.id = i := by rw [hrL]; exact i1
      have ll : rL.l = (x.r i).l := by rw [hrL]; exact l1
      have hldr := S4.leads hi (by rw [ri4]; exact rol)
      rw [ri4, tl] at hldr
      have hrt : ∀ v, isId v → v ≠ i → right v (ents rL v) = true := fun v hv hvi => ents_right S4.inv hi R4 O4 rol hv hvi
      have hcm0 : (0 : Int) ≤ rL.cm := by rw [R4.cm]; omega
      have hri4 : right (x4.r i).id (vrep pb i yb) = true := by rw [ri4, il]; exact wb
      obtain ⟨u1, u2⟩ := voted_none (r := x4.r i) (m := vrep pb i yb) hri4 rfl (Or.inl (by rw [ri4, rol]; omega))
      have se4' : x4.sent = vrep pb i yb :: all rL := se4
      obtain ⟨x5, s5, e5, S5, E5, rx5, st5, se5⟩ := deliver S4 se4' (by rw [st4]; exact st3i i hi) (by
        show (all rL).length + (hearR (x4.r i) (vrep pb i yb)).2.send.length ≤ 300
        rw [u2, hallL]; simp)
      have rx5 : x5.r = upd x4.r i (hearR (x4.r i) (vrep pb i yb)).1 := rx5
      have se5 : x5.sent = all rL ++ (hearR (x4.r i) (vrep pb i yb)).2.send := se5
      rw [u2, List.append_nil] at se5
      rw [u1, ri4] at rx5
      have ri5 : x5.r i = later rL (vrep pb i yb) := by rw [rx5]; exact upd_same _ _ _
      have ro5 : ∀ j, j ≠ i → x5.r j = x3.r j := fun j hj => by rw [rx5, upd_ne _ _ hj, rx4, upd_ne _ _ hj]
      have hldr5 : s5.ldr t = i := by rw [E5.ldr t (by rw [hldr]; exact isId_ne hi)]; exact hldr
      refine ⟨x4, s4, x5, s5, e4, E4, ⟨_, _, se4'⟩, e5, E5, ⟨fun j hj => by rw [st5, st4]; exact st3i j hj, S5, Or.inr (mkFI S5 (fun j hj => by rw [st5, st4]; exact st3i j hj) hi hldr5 (by rw [ri5, later_l]; exact ll) il tl hrt se5 hcm0 (by omega) ?_ ?_ (fun w => w.elim))⟩⟩
      · by_cases hb2 : t < pb.h.tm
        · refine Or.inr ⟨?_, ?_, b, hb, hbi, ?_⟩
          · rw [ri5]
            unfold later
            rw [if_pos (by rw [tl]; exact hb2)]
            show (0 : Int) ≠ 2; omega
          · rw [ri5, later_tm]
            have e0 : (vrep pb i yb).tm = pb.h.tm := rfl
            rw [e0]; omega
          · rw [ro5 b hbi, rb3]; exact hb2
        · refine Or.inl ⟨?_, rol⟩
          rw [ri5]
          unfold later
          have e0 : (vrep pb i yb).tm = pb.h.tm := rfl
          rw [if_neg (by rw [e0, tl]; exact hb2)]
      · intro hlow j hj hji
        rw [ro5 j hji]
        have := hlow j hj hji
        rcases hall j hj hji with q | q
        · rw [q, ra3, tma]; rw [q] at this; omega
        · rw [q, rb3, tmb]; rw [q] at this; omega
    · -- not yet
      have hna : (x3.r i).role ≠ 1 ∨ (x3.r i).h.tm < (vrep pa i ya).tm ∨ (vrep pa i ya).yes = false := by
        cases hc : ya
        · exact Or.inr (Or.inr rfl)
        · exact absurd ⟨hc, hye hc⟩ hwin
      obtain ⟨q1, q2⟩ := voted_none (r := x3.r i) (m := vrep pa i ya) hri rfl hna
      obtain ⟨x4, s4, e4, S4, E4, rx4, st4, se4⟩ := deliver S3 se3' (st3i i hi) (by
        show 1 + (hearR (x3.r i) (vrep pa i ya)).2.send.length ≤ 300
        rw [q2]; simp)
      have rx4 : x4.r = upd x3.r i (hearR (x3.r i) (vrep pa i ya)).1 := rx4
      have se4 : x4.sent = [vrep pb i yb] ++ (hearR (x3.r i) (vrep pa i ya)).2.send := se4
      rw [q2, List.append_nil] at se4
      rw [q1, ri3] at rx4
      obtain ⟨r4, hr4⟩ : ∃ r4, later r1 (vrep pa i ya) = r4 := ⟨_, rfl⟩
      rw [hr4] at rx4
      have ri4 : x4.r i = r4 := by rw [rx4]; exact upd_same _ _ _
      have i4 : r4.id = i := by rw [← hr4, later_id]; exact i1
      have l4 : r4.l = (x.r i).l := by rw [← hr4, later_l]; exact l1
      have t4 : r4.h.tm = max t pa.h.tm := by rw [← hr4, later_tm, t1]; rfl
      have ro4 : r4.role ≠ 2 := by
        rw [← hr4]
        unfold later
        split
        · show (0 : Int) ≠ 2; omega
        · rw [ro1]; omega
      have hri4 : right (x4.r i).id (vrep pb i yb) = true := by rw [ri4, i4]; exact wb
      by_cases hw2 : r4.role = 1 ∧ pb.h.tm = r4.h.tm ∧ yb = true
      · have hsame : r4 = r1 := by
          rw [← hr4] at hw2 ⊢
          unfold later at hw2 ⊢
          split
          · next c =>
            rw [if_pos c] at hw2
            have := hw2.1
            have : (0 : Int) = 1 := this
            omega
          · rfl
        obtain ⟨vs, u1, u2⟩ := voted_win (r := x4.r i) (m := vrep pb i yb) hri4 rfl (by rw [ri4]; exact hw2.1) (by rw [ri4]; exact hw2.2.1) hw2.2.2 (by rw [ri4, i4]; exact hi) (by rw [ri4, hsame]; exact v1)
        rw [ri4, hsame] at u1 u2
        obtain ⟨rL, hrL⟩ : ∃ rL : R, rL = { r1 with votes := vs, role := 2, nxt := fun _ => (r1.l.length : Int) + 1, mat := fun _ => 0 } := ⟨_, rfl⟩
        rw [← hrL] at u1 u2
        have il : rL.id = i := by rw [hrL]; exact i1
        have hallL : (all rL).length = 2 := by unfold all; rw [il, ho]; rfl
        obtain ⟨x5, s5, e5, S5, E5, rx5, st5, se5⟩ := deliver S4 se4 (by rw [st4]; exact st3i i hi) (by
          show 0 + (hearR (x4.r i) (vrep pb i yb)).2.send.length ≤ 300
          rw [ri4, hsame, u2, hallL]; simp)
        have rx5 : x5.r = upd x4.r i (hearR (x4.r i) (vrep pb i yb)).1 := rx5
        have se5 : x5.sent = [] ++ (hearR (x4.r i) (vrep pb i yb)).2.send := se5
        rw [ri4, hsame, u2, List.nil_append] at se5
        rw [ri4, hsame, u1] at rx5
        have ri5 : x5.r i = rL := by rw [rx5]; exact upd_same _ _ _
        have ro5 : ∀ j, j ≠ i → x5.r j = x3.r j := fun j hj => by rw [rx5, upd_ne _ _ hj, rx4, upd_ne _ _ hj]
        have rol : rL.role = 2 := by rw [hrL]
        have tl : rL.h.tm = t := by rw [hrL]; exact t1
        have ll : rL.l = (x.r i).l := by rw [hrL]; exact l1
        have R5 := S5.rel i hi
        have O5 := S5.okr i hi
        rw [ri5] at R5 O5
        have hldr := S5.leads hi (by rw [ri5]; exact rol)
        rw [ri5, tl] at hldr
        refine ⟨x4, s4, x5, s5, e4, E4, ⟨_, _, se4⟩, e5, E5, ⟨fun j hj => by rw [st5, st4]; exact st3i j hj, S5, Or.inr (mkFI S5 (fun j hj => by rw [st5, st4]; exact st3i j hj) hi hldr (by rw [ri5]; exact ll) il tl (fun v hv hvi => ents_right S5.inv hi R5 O5 rol hv hvi) se5 (by rw [R5.cm]; omega) (by omega) (Or.inl ⟨ri5, rol⟩) ?_ (fun w => w.elim))⟩⟩
        intro hlow j hj hji
        rw [ro5 j hji]
        have := hlow j hj hji
        rcases hall j hj hji with q | q
        · rw [q, ra3, tma]; rw [q] at this; omega
        · rw [q, rb3, tmb]; rw [q] at this; omega
      · have hnb : (x4.r i).role ≠ 1 ∨ (x4.r i).h.tm < (vrep pb i yb).tm ∨ (vrep pb i yb).yes = false := by
          rw [ri4]
          have e0 : (vrep pb i yb).tm = pb.h.tm := rfl
          have e1 : (vrep pb i yb).yes = yb := rfl
          rw [e0, e1]
          by_cases c1 : r4.role = 1
          · by_cases c3 : yb = true
            · by_cases c2 : pb.h.tm = r4.h.tm
              · exact absurd ⟨c1, c2, c3⟩ hw2
              · have h4 : r4.h.tm = t := by
                  rw [← hr4] at c1 ⊢
                  unfold later at c1 ⊢
                  split
                  · next c =>
                    rw [if_pos c] at c1
                    have c1 : (0 : Int) = 1 := c1
                    omega
                  · exact t1
                exact Or.inr (Or.inl (by omega))
            · exact Or.inr (Or.inr (by simpa using c3))
          · exact Or.inl c1
        obtain ⟨u1, u2⟩ := voted_none (r := x4.r i) (m := vrep pb i yb) hri4 rfl hnb
        obtain ⟨x5, s5, e5, S5, E5, rx5, st5, se5⟩ := deliver S4 se4 (by rw [st4]; exact st3i i hi) (by
          show 0 + (hearR (x4.r i) (vrep pb i yb)).2.send.length ≤ 300
          rw [u2]; simp)
        have rx5 : x5.r = upd x4.r i (hearR (x4.r i) (vrep pb i yb)).1 := rx5
        have se5 : x5.sent = [] ++ (hearR (x4.r i) (vrep pb i yb)).2.send := se5
        rw [u2] at se5
        rw [u1, ri4] at rx5
        have ri5 : x5.r i = later r4 (vrep pb i yb) := by rw [rx5]; exact upd_same _ _ _
        have ro5 : ∀ j, j ≠ i → x5.r j = x3.r j := fun j hj => by rw [rx5, upd_ne _ _ hj, rx4, upd_ne _ _ hj]
        have t5 : (x5.r i).h.tm = max (max t pa.h.tm) pb.h.tm := by rw [ri5, later_tm, t4]; rfl
        refine ⟨x4, s4, x5, s5, e4, E4, ⟨_, _, se4⟩, e5, E5, ⟨fun j hj => by rw [st5, st4]; exact st3i j hj, S5, Or.inl ⟨se5, ?_, by rw [ri5, later_l]; exact l4, fun j hj hji => ?_, fun hlow => ?_⟩⟩⟩
        · rw [ri5]
          unfold later
          split
          · show (0 : Int) ≠ 2; omega
          · exact ro4
        · rw [t5, ro5 j hji]
          rcases hall j hj hji with q | q
          · rw [q, ra3, la]
            exact ⟨tma, rfl, by omega⟩
          · rw [q, rb3, lb]
            exact ⟨tmb, rfl, by omega⟩
        · have la' := hlow a ha hai
          have lb' := hlow b hb hbi
          have nya : ya = false := by
            cases hc : ya
            · rfl
            · exact absurd ⟨hc, hye hc⟩ hwin
          have h4r : r4 = r1 := by
            rw [← hr4]
            unfold later
            have e0 : (vrep pa i ya).tm = pa.h.tm := rfl
            rw [if_neg (by rw [e0]; omega)]
          have nyb : yb = false := by
            cases hc : yb
            · rfl
            · exact absurd ⟨by rw [h4r]; exact ro1, by rw [h4r, t1]; omega, hc⟩ hw2
          refine ⟨by rw [t5]; omega, fun j hj hji => ?_⟩
          rcases hall j hj hji with q | q
          · rw [q]; exact hlessa la' nya
          · rw [q]; exact hlessb lb' nyb
  obtain ⟨x4, s4, x5, s5, e4, E4, ⟨m4, Q4, se4⟩, e5, E5, F⟩ := key
  refine ⟨x1, s1, x5, s5, e1, S1, E1, fun n => ?_, ((E2.trans E3).trans E4).trans E5, F⟩
  rw [flow_one (n + 3) se1 e2, flow_one (n + 2) se2' e3, flow_one (n + 1) se3' e4, flow_one n se4 e5]
end Rp
end Go.Proofs.Ytoghaogcekappaa

namespace Go.Proofs.Ytoghaogcekappaa
namespace Rp
variable {s s' : St}

def Led (x : Cl) (i : Int) : Prop := (x.r i).role = 2 ∧ ∀ j, isId j → (x.r j).h.tm = (x.r i).h.tm
/-- What holds when the flow has ended. -/
structure Round (x : Cl) (s' : St) (x' : Cl) (i : Int) : Prop where
  q : Quiet s' x'
  out : Led x' i ∨ ((x'.r i).role ≠ 2 ∧ ∀ j, isId j → (x'.r j).h.tm ≤ (x'.r i).h.tm)
  top : (∀ j, isId j → (x.r j).h.tm ≤ (x.r i).h.tm) → Led x' i ∨ ((∀ j, isId j → (x'.r j).h.tm = (x'.r i).h.tm) ∧ (∀ j, isId j → (x'.r j).l = (x.r j).l) ∧ ∀ j, isId j → j ≠ i → Less (x.r i).l (x.r j).l)
theorem FI.ended {x : Cl} {i t c : Int} {L : List Rec} {B C : Prop} (h : FI s x i t L c B C) (hq : x.sent = []) : Quiet s x ∧ ((leads x i t ∧ Led x i) ∨ ((x.r i).role ≠ 2 ∧ ∀ j, isId j → (x.r j).h.tm ≤ (x.r i).h.tm)) ∧ (B → leads x i t) := by
  have hidle : ∀ j, isId j → j ≠ i → (x.r j).h.tm ≤ (x.r i).h.tm ∧ (leads x i t → (x.r j).h.tm = t ∧ (x.r i).mat j = (L.length : Int) ∧ c ≤ (x.r j).cm) := fun j hj hji => h.idle j hj hji (by rw [hq]; exact fun w => by cases w)
  refine ⟨⟨h.sim, h.st, hq⟩, ?_, fun hB => ?_⟩
  · rcases h.me with w | w
    · refine Or.inl ⟨w, w.1, fun j hj => ?_⟩
      by_cases e : j = i
      · rw [e]
      · rw [w.2]; exact ((hidle j hj e).2 w).1
    · refine Or.inr ⟨w.1, fun j hj => ?_⟩
      by_cases e : j = i
      · rw [e]; exact Int.le_refl _
      · exact (hidle j hj e).1
  · rcases h.stay with w | ⟨j, j1, j2, j3⟩
    · exact w
    · have := h.low hB j j1 j2
      omega
/-- A leader's tick. -/
theorem tick_leads {x : Cl} {i : Int} {c : Int} {C : Prop} (h : Quiet s x) (hi : isId i) (hrole : (x.r i).role = 2) (hc : c ≤ (x.r i).cm) (hcl : c ≤ ((x.r i).l.length : Int))
    (hC : C → 1 ≤ (x.r i).l.length → tAt (x.r i).l (x.r i).l.length = (x.r i).h.tm → ∀ v, isId v → v ≠ i → (x.r i).mat v = ((x.r i).l.length : Int) → ((x.r i).l.length : Int) ≤ (x.r i).cm) :
    ∃ x1 s1, doneC x i (tickR (x.r i)).1 (tickR (x.r i)).2 = some x1 ∧ Ext s s1 ∧ x1.r = x.r ∧ FI s1 x1 i (x.r i).h.tm (x.r i).l c (∀ j, isId j → j ≠ i → (x.r j).h.tm ≤ (x.r i).h.tm) C := by
  have hN := tick_next h.sim hi
  have htick : tickR (x.r i) = (x.r i, Out.just (all (x.r i))) := by unfold tickR; rw [if_pos hrole]
  rw [htick] at hN ⊢
  obtain ⟨a, b, ho, _⟩ := others_two hi
  have hall : (all (x.r i)).length = 2 := by unfold all; rw [(h.sim.rel i hi).id, ho]; rfl
  obtain ⟨x1, s1, e1, S1, E1, rx1, st1, se1⟩ := call_plain hN (h.st i hi) (by
    rw [h.sent]
    show 0 + (all (x.r i)).length ≤ 300
    rw [hall]; omega)
  have hr : x1.r = x.r := by
    rw [rx1]
    funext j
    by_cases e : j = i
    · rw [e]; exact upd_same _ _ _
    · exact upd_ne _ _ e
  rw [h.sent, List.nil_append] at se1
  have ri : x1.r i = x.r i := by rw [hr]
  have R1 := S1.rel i hi
  have O1 := S1.okr i hi
  rw [ri] at R1 O1
  have hl := S1.leads hi (by rw [ri]; exact hrole)
  rw [ri] at hl
  exact ⟨x1, s1, e1, E1, hr, mkFI S1 (fun j hj => by rw [st1]; exact h.st j hj) hi hl (by rw [ri]) R1.id rfl (fun v hv hvi => ents_right S1.inv hi R1 O1 hrole hv hvi) se1 hc hcl (Or.inl ⟨ri, hrole⟩) (fun w j hj hji => by rw [hr]; exact w j hj hji) (fun w _ => by rw [ri]; exact hC w)⟩
theorem flow_more {n k : Nat} {x x' : Cl} (hn : n ≤ k) (h : flowC n x = some x') (hq : x'.sent = []) : flowC k x = some x' := by
  induction n generalizing k x with
  | zero =>
    have : x = x' := Option.some.inj h
    subst this
    exact flow_nil _ hq
  | succ n ih =>
    obtain ⟨k, rfl⟩ : ∃ k', k = k' + 1 := ⟨k - 1, by omega⟩
    match hs : x.sent with
    | [] => rw [flow_nil _ hs] at h ⊢; exact h
    | m :: Q =>
      match ha : arriveC x 0 false with
      | none =>
        have e0 : flowC (n + 1) x = (match x.sent with | [] => some x | _ :: _ => (arriveC x 0 false).bind (flowC n)) := rfl
        rw [e0, hs] at h
        have h : (arriveC x 0 false).bind (flowC n) = some x' := h
        rw [ha] at h
        cases h
      | some x1 =>
        rw [flow_one n hs ha] at h
        rw [flow_one k hs ha]
        exact ih (by omega) h
theorem tick_round {x : Cl} {i : Int} {T : Int} {N : Nat} (h : Quiet s x) (hi : isId i) (hB : Bd x T N) (hT : T < 1099511627776) (hN : N ≤ 200) : ∃ x1 x' s', doneC x i (tickR (x.r i)).1 (tickR (x.r i)).2 = some x1 ∧ flowC 2000 x1 = some x' ∧ Ext s s' ∧ Round x s' x' i ∧ Bd x' (max T ((x.r i).h.tm + 1)) N := by
  have hB1 : ∀ {x1 : Cl}, doneC x i (tickR (x.r i)).1 (tickR (x.r i)).2 = some x1 → Bd x1 (max T ((x.r i).h.tm + 1)) N := fun e => by
    refine bd_done h.sim hi (hB.mono (by omega) (Nat.le_refl _)) (tick_sim h.sim.inv hi (h.sim.rel i hi)) (tick_keeps _) (tick_outs _) ?_ (tick_grow (hB.tm i hi) (hB.l i hi)).2 e
    have := (tick_grow (Int.le_refl (x.r i).h.tm) (hB.l i hi)).1
    omega
  have hL : (x.r i).l.length ≤ N := hB.l i hi
  have hTi := hB.tm i hi
  by_cases hrole : (x.r i).role = 2
  · obtain ⟨c, hc, hcl, _⟩ := h.sim.comm hi
    obtain ⟨x1, s1, e1, E1, hr, F⟩ := tick_leads (c := 0) (C := False) h hi hrole (by omega) (by omega) (fun w => w.elim)
    obtain ⟨x', s', e2, F2, E2, hq⟩ := FI.flow 2000 F (by have := F.todo_le hL; omega)
    obtain ⟨Q, o1, o2⟩ := F2.ended hq
    refine ⟨x1, x', s', e1, e2, E1.trans E2, ⟨Q, o1.imp (fun w => w.2) (fun w => w), fun htop => Or.inl ?_⟩, bd_flow 2000 F.sim (hB1 e1) e2⟩
    have hl := o2 (fun j hj _ => htop j hj)
    rcases o1 with w | w
    · exact w.2
    · exact absurd hl.1 w.1
  · obtain ⟨x1, s1, x2, s2, e1, S1, E1, hflow, E2, el⟩ := elect h hi hrole (by omega)
    rcases el.out with ⟨p1, p2, p3, p4, p5⟩ | F
    · have e2 : flowC 2000 x1 = some x2 := by rw [show 2000 = 1996 + 4 from rfl, hflow, flow_nil _ p1]
      refine ⟨x1, x2, s2, e1, e2, E1.trans E2, ⟨⟨el.sim, el.st, p1⟩, Or.inr ⟨p2, fun j hj => ?_⟩, fun htop => Or.inr ?_⟩, bd_flow 2000 S1 (hB1 e1) e2⟩
      · by_cases e : j = i
        · rw [e]; exact Int.le_refl _
        · exact (p4 j hj e).2.2
      · have hlt : ∀ j, isId j → j ≠ i → (x.r j).h.tm < (x.r i).h.tm + 1 := fun j hj _ => by have := htop j hj; omega
        obtain ⟨q1, q2⟩ := p5 hlt
        refine ⟨fun j hj => ?_, fun j hj => ?_, q2⟩
        · by_cases e : j = i
          · rw [e]
          · have := hlt j hj e
            rw [(p4 j hj e).1, q1]; omega
        · by_cases e : j = i
          · rw [e]; exact p3
          · exact (p4 j hj e).2.1
    · obtain ⟨x', s', e2, F2, E3, hq⟩ := FI.flow 1996 F (by have := F.todo_le hL; omega)
      obtain ⟨Q, o1, o2⟩ := F2.ended hq
      have e3 : flowC 2000 x1 = some x' := by rw [show 2000 = 1996 + 4 from rfl, hflow]; exact e2
      refine ⟨x1, x', s', e1, e3, (E1.trans E2).trans E3, ⟨Q, o1.imp (fun w => w.2) (fun w => w), fun htop => Or.inl ?_⟩, bd_flow 2000 S1 (hB1 e1) e3⟩
      have hl := o2 (fun j hj _ => by have := htop j hj; omega)
      rcases o1 with w | w
      · exact w.2
      · exact absurd hl.1 w.1
/-- Ticks in turn, until one leads. -/
def rounds : Nat → Int → Cl → Option (Cl × Option Int)
  | 0, _, x => some (x, none)
  | k + 1, i, x => (doneC x i (tickR (x.r i)).1 (tickR (x.r i)).2).bind fun x1 => (flowC 2000 x1).bind fun x2 => if (x2.r i).role = 2 then some (x2, some i) else rounds k ((i + 1) % 3) x2
/-- One of them leads. -/
def Won (s : St) (N : Nat) (T : Int) (k : Nat) (i : Int) (x : Cl) : Prop := ∃ x' s' j, rounds k i x = some (x', some j) ∧ isId j ∧ Quiet s' x' ∧ Ext s s' ∧ Led x' j ∧ Bd x' T N
theorem round_step {x : Cl} {i : Int} {T T' : Int} {N k : Nat} (h : Quiet s x) (hi : isId i) (hB : Bd x T N) (hT : T < 1099511627776) (hN : N ≤ 200) (hT' : T + 1 ≤ T')
    (hk : ∀ x' s', Ext s s' → Round x s' x' i → (x'.r i).role ≠ 2 → Bd x' (max T ((x.r i).h.tm + 1)) N → Won s' N T' k ((i + 1) % 3) x') : Won s N T' (k + 1) i x := by
  obtain ⟨x1, x', s', e1, e2, E, R, B⟩ := tick_round h hi hB hT hN
  have hTi := hB.tm i hi
  have hr : rounds (k + 1) i x = if (x'.r i).role = 2 then some (x', some i) else rounds k ((i + 1) % 3) x' := by
    show ((doneC x i (tickR (x.r i)).1 (tickR (x.r i)).2).bind fun x1 => (flowC 2000 x1).bind fun x2 => if (x2.r i).role = 2 then some (x2, some i) else rounds k ((i + 1) % 3) x2) = _
    rw [e1]
    show ((flowC 2000 x1).bind fun x2 => if (x2.r i).role = 2 then some (x2, some i) else rounds k ((i + 1) % 3) x2) = _
    rw [e2]
    rfl
  unfold Won
  rw [hr]
  by_cases hrole : (x'.r i).role = 2
  · rw [if_pos hrole]
    refine ⟨x', s', i, rfl, hi, R.q, E, ?_, B.mono (by omega) (Nat.le_refl _)⟩
    rcases R.out with w | w
    · exact w
    · exact absurd hrole w.1
  · rw [if_neg hrole]
    obtain ⟨x2, s2, j, f1, f2, f3, f4, f5⟩ := hk x' s' E R hrole B
    exact ⟨x2, s2, j, f1, f2, f3, E.trans f4, f5⟩
theorem next_id {i : Int} (_h : isId i) : isId ((i + 1) % 3) ∧ (i + 1) % 3 ≠ i := by unfold isId at *; omega
/-- From a replica whose term is the greatest. -/
theorem won_top {x : Cl} {i : Int} {T T' : Int} {N k : Nat} (h : Quiet s x) (hi : isId i) (hB : Bd x T N) (hT : T + 2 ≤ 1099511627776) (hN : N ≤ 200) (hT' : T + 2 ≤ T') (htop : ∀ j, isId j → (x.r j).h.tm ≤ (x.r i).h.tm) : Won s N T' (k + 2) i x := by
  have hTi := hB.tm i hi
  refine round_step h hi hB (by omega) hN (by omega) (fun x' s' E R hrole B => ?_)
  rcases R.top htop with w | ⟨a1, a2, a3⟩
  · exact absurd w.1 hrole
  obtain ⟨n1, n2⟩ := next_id hi
  have B' := B.mono (show max T ((x.r i).h.tm + 1) ≤ T + 1 by omega) (Nat.le_refl N)
  refine round_step R.q n1 B' (by omega) hN (by omega) (fun x2 s2 E2 R2 hrole2 B2 => ?_)
  rcases R2.top (fun j hj => by rw [a1 j hj, a1 _ n1]; exact Int.le_refl _) with w | ⟨b1, b2, b3⟩
  · exact absurd w.1 hrole2
  · exfalso
    have p := a3 _ n1 n2
    have q := b3 i hi (fun e => n2 e.symm)
    rw [a2 _ n1, a2 i hi] at q
    exact p.asymm q
theorem won {x : Cl} {i : Int} {T T' : Int} {N k : Nat} (h : Quiet s x) (hi : isId i) (hB : Bd x T N) (hT : T + 3 ≤ 1099511627776) (hN : N ≤ 200) (hT' : T + 3 ≤ T') : Won s N T' (k + 5) i x := by
  have hTi := hB.tm i hi
  refine round_step h hi hB (by omega) hN (by omega) (fun x1 s1 E1 R1 ro1 B1 => ?_)
  have B1 := B1.mono (show max T ((x.r i).h.tm + 1) ≤ T + 1 by omega) (Nat.le_refl N)
  obtain ⟨n1, n2⟩ := next_id hi
  obtain ⟨m1, m2⟩ := next_id n1
  have hm3 : ((i + 1) % 3 + 1) % 3 ≠ i := by unfold isId at hi; omega
  have hm4 : (((i + 1) % 3 + 1) % 3 + 1) % 3 = i := by unfold isId at hi; omega
  have hthree : ∀ j, isId j → j = i ∨ j = (i + 1) % 3 ∨ j = ((i + 1) % 3 + 1) % 3 := fun j hj => by unfold isId at hj hi; omega
  have t1 : ∀ j, isId j → (x1.r j).h.tm ≤ (x1.r i).h.tm := by
    rcases R1.out with w | w
    · exact absurd w.1 ro1
    · exact w.2
  obtain ⟨M, hM⟩ : ∃ M, (x1.r i).h.tm = M := ⟨_, rfl⟩
  rw [hM] at t1
  have hMT : M ≤ T + 1 := by rw [← hM]; exact B1.tm i hi
  by_cases c1 : (x1.r ((i + 1) % 3)).h.tm = M
  · exact won_top R1.q n1 B1 (by omega) hN (by omega) (fun j hj => by rw [c1]; exact t1 j hj)
  have l1 := t1 _ n1
  have BM : Bd x1 M N := ⟨t1, B1.l, fun m hm => by rw [R1.q.sent] at hm; cases hm⟩
  refine round_step (T := M) R1.q n1 BM (by omega) hN (by omega) (fun x2 s2 E2 R2 ro2 B2 => ?_)
  have B2 := B2.mono (show max M ((x1.r ((i + 1) % 3)).h.tm + 1) ≤ M by omega) (Nat.le_refl N)
  have t2 : ∀ j, isId j → (x2.r j).h.tm ≤ (x2.r ((i + 1) % 3)).h.tm := by
    rcases R2.out with w | w
    · exact absurd w.1 ro2
    · exact w.2
  have u2i : (x2.r i).h.tm = M := by
    have a := R1.q.sim.terms R2.q.sim E2 hi
    have b := B2.tm i hi
    rw [hM] at a
    omega
  have u2n : (x2.r ((i + 1) % 3)).h.tm = M := by
    have a := t2 i hi
    have b := B2.tm _ n1
    omega
  by_cases c2 : (x2.r (((i + 1) % 3 + 1) % 3)).h.tm = M
  · exact won_top R2.q m1 B2 (by omega) hN (by omega) (fun j hj => by rw [c2]; exact B2.tm j hj)
  have l2 := B2.tm _ m1
  refine round_step (T := M) R2.q m1 B2 (by omega) hN (by omega) (fun x3 s3 E3 R3 ro3 B3 => ?_)
  have B3 := B3.mono (show max M ((x2.r (((i + 1) % 3 + 1) % 3)).h.tm + 1) ≤ M by omega) (Nat.le_refl N)
  rw [hm4]
  have u3 : (x3.r i).h.tm = M := by
    have a := R2.q.sim.terms R3.q.sim E3 hi
    have b := B3.tm i hi
    rw [u2i] at a
    omega
  exact won_top R3.q hi B3 (by omega) hN (by omega) (fun j hj => by rw [u3]; exact B3.tm j hj)
end Rp
end Go.Proofs.Ytoghaogcekappaa

namespace Go.Proofs.Ytoghaogcekappaa
namespace Rp
variable {s s' : St}

/-- A replica that has committed all of a leader's log has this log. -/
theorem full {x : Cl} {i j t : Int} {L : List Rec} (h : Sim s x) (hi : isId i) (hj : isId j) (hl : leads x i t) (hL : (x.r i).l = L) (h1 : 1 ≤ L.length) (ht : tAt L L.length = t) (hjt : (x.r j).h.tm = t) (hc : (L.length : Int) ≤ (x.r j).cm) : (x.r j).cm = (L.length : Int) ∧ (x.r j).l = L := by
  have hR := h.rel i hi
  have hJ := h.rel j hj
  obtain ⟨a1, a2, _⟩ := h.inv.r2 i hi (by rw [hR.role]; exact hl.1)
  rw [hR.tm, hl.2] at a1 a2
  rw [hR.l, hL] at a2
  have hp := comm_pre h.inv hj (t := t) (by rw [hJ.tm, hjt]; exact Int.le_refl _) (by rw [a1]; exact isId_ne hi)
  rw [a2, hJ.l] at hp
  have hcj := hJ.cm
  have hle := hp.2.1
  have hcm : s.comm j = L.length := by omega
  rw [hcm] at hp
  refine ⟨by omega, ?_⟩
  have hlen : (x.r j).l.length = L.length := by
    rcases Nat.lt_or_ge L.length (x.r j).l.length with q | q
    · exfalso
      have ok := h.inv.okLog j hj
      rw [hJ.l] at ok
      obtain ⟨_, _, b3, b4⟩ := ok (L.length + 1) (by omega) q
      have b5 := b4 L.length h1 (by omega)
      rw [hp.tAt (Nat.le_refl _), ht] at b5
      have b6 := h.inv.logT j (L.length + 1) hj (by omega) (by rw [hJ.l]; exact q)
      rw [hJ.l, hJ.tm, hjt] at b6
      have b7 : tAt (x.r j).l (L.length + 1) = t := by omega
      rw [b7, a2] at b3
      have := b3.2.1
      omega
    · have := hp.1; omega
  have := hp.2.2
  rw [List.take_length, ← hlen, List.take_length] at this
  exact this
theorem goes {x : Cl} {i : Int} {T : Int} {N : Nat} (h : Quiet s x) (hi : isId i) (hled : Led x i) (hB : Bd x T N) (hN : N ≤ 199) {d : List UInt8} (hd : d.length ≤ 2000) :
    ∃ r' o x1 x2 x3 x4 s4, proposeR (x.r i) d = (r', ((x.r i).l.length : Int) + 1, 0, o) ∧ doneC x i r' o = some x1 ∧ flowC 2000 x1 = some x2 ∧ (x2.r i).cm = ((x.r i).l.length : Int) + 1 ∧
      doneC x2 i (tickR (x2.r i)).1 (tickR (x2.r i)).2 = some x3 ∧ flowC 2000 x3 = some x4 ∧ Quiet s4 x4 ∧ (x4.r i).l = (x.r i).l ++ [⟨(x.r i).h.tm, d⟩] ∧ ∀ j, isId j → (x4.r j).cm = ((x.r i).l.length : Int) + 1 ∧ (x4.r j).l = (x4.r i).l := by
  obtain ⟨hrole, hterms⟩ := hled
  have hR := h.sim.rel i hi
  obtain ⟨t, ht⟩ : ∃ t, (x.r i).h.tm = t := ⟨_, rfl⟩
  obtain ⟨L, hL⟩ : ∃ L, L = (x.r i).l ++ [(⟨(x.r i).h.tm, d⟩ : Rec)] := ⟨_, rfl⟩
  have hLlen : L.length = (x.r i).l.length + 1 := by rw [hL, List.length_append, List.length_singleton]
  have hLt : tAt L L.length = t := by rw [hLlen, hL, tAt_snoc]; exact ht
  have hlN : (x.r i).l.length ≤ N := hB.l i hi
  obtain ⟨r', hr'⟩ : ∃ r' : R, r' = { x.r i with l := L } := ⟨_, rfl⟩
  have hp : proposeR (x.r i) d = (r', ((x.r i).l.length : Int) + 1, 0, ⟨false, ⟨0, 0⟩, ((x.r i).l.length : Int) + 1, [⟨(x.r i).h.tm, d⟩], all r'⟩) := by
    unfold proposeR
    rw [if_neg (fun w => w hrole), if_neg (by omega), if_neg (by omega), hr', hL]
  have hN1 := propose_next h.sim hi d
  rw [hp] at hN1
  obtain ⟨a, b, ho, ha, hb, hab, hai, hbi, hall⟩ := others_two hi
  have hid : r'.id = i := by rw [hr']; exact hR.id
  have hal : (all r').length = 2 := by unfold all; rw [hid, ho]; rfl
  obtain ⟨x1, s1, e1, S1, E1, rx1, st1, se1⟩ := call_plain hN1 (h.st i hi) (by
    rw [h.sent]
    show 0 + (all r').length ≤ 300
    rw [hal]; omega)
  rw [h.sent, List.nil_append] at se1
  have ri1 : x1.r i = r' := by rw [rx1]; exact upd_same _ _ _
  have ro1 : ∀ j, j ≠ i → x1.r j = x.r j := fun j hj => by rw [rx1]; exact upd_ne _ _ hj
  have role' : r'.role = 2 := by rw [hr']; exact hrole
  have tm' : r'.h.tm = t := by rw [hr']; exact ht
  have l' : r'.l = L := by rw [hr']
  have R1 := S1.rel i hi
  have O1 := S1.okr i hi
  rw [ri1] at R1 O1
  have hld := S1.leads hi (by rw [ri1]; exact role')
  rw [ri1, tm'] at hld
  have F1 : FI s1 x1 i t L 0 True True := by
    refine mkFI S1 (fun j hj => by rw [st1]; exact h.st j hj) hi hld (by rw [ri1]; exact l') hid tm' (fun v hv hvi => ents_right S1.inv hi R1 O1 role' hv hvi) se1 (by rw [R1.cm]; omega) (by omega) (Or.inl ⟨ri1, role'⟩) (fun _ j hj hji => ?_) (fun _ _ _ _ v hv hvi hm => ?_)
    · rw [ro1 j hji, hterms j hj, ht]; exact Int.le_refl _
    · exfalso
      rw [ri1, hr'] at hm
      have hm : (x.r i).mat v = (L.length : Int) := hm
      obtain ⟨_, n2⟩ := hR.nxt hrole v hv hvi
      obtain ⟨b1, b2, b3⟩ := h.sim.inv.r2 i hi (by rw [hR.role]; exact hrole)
      have b4 := (b3 v hv hvi).1
      by_cases q : s.acc v (s.term i) = 0
      · omega
      · have := (h.sim.inv.accL v _ q).2.2.1
        rw [b2, hR.l] at this
        omega
  obtain ⟨x2, s2, e2, F2, E2, q2⟩ := FI.flow 2000 F1 (by have := F1.todo_le (N := N + 1) (by omega); omega)
  obtain ⟨Q2, o2, l2⟩ := F2.ended q2
  have lead2 := l2 trivial
  have idle2 : ∀ j, isId j → j ≠ i → (x2.r j).h.tm = t ∧ (x2.r i).mat j = (L.length : Int) ∧ 0 ≤ (x2.r j).cm := fun j hj hji => (F2.idle j hj hji (by rw [q2]; exact fun w => by cases w)).2 lead2
  have hge := F2.cmt trivial lead2 (by omega) hLt a ha hai (idle2 a ha hai).2.1
  have hcm2 : (x2.r i).cm = (L.length : Int) := by
    obtain ⟨c, c1, c2, _⟩ := F2.sim.comm hi
    rw [F2.log] at c2
    omega
  obtain ⟨x3, s3, e3, E3, r3, F3⟩ := tick_leads (c := (L.length : Int)) (C := False) Q2 hi lead2.1 (by omega) (by rw [F2.log]; exact Int.le_refl _) (fun w => w.elim)
  obtain ⟨x4, s4, e4, F4, E4, q4⟩ := FI.flow 2000 F3 (by have := F3.todo_le (N := N + 1) (by rw [F2.log]; omega); omega)
  obtain ⟨Q4, o4, l4⟩ := F4.ended q4
  have lead4 := l4 (fun j hj hji => by rw [(idle2 j hj hji).1, lead2.2]; exact Int.le_refl _)
  have log4 : (x4.r i).l = L := F4.log.trans F2.log
  rw [lead2.2] at lead4 F4
  have idle4 : ∀ j, isId j → j ≠ i → (x4.r j).h.tm = t ∧ (x4.r i).mat j = _ ∧ (L.length : Int) ≤ (x4.r j).cm := fun j hj hji => (F4.idle j hj hji (by rw [q4]; exact fun w => by cases w)).2 lead4
  refine ⟨r', _, x1, x2, x3, x4, s4, hp, e1, e2, by rw [hcm2, hLlen]; push_cast; rfl, e3, e4, Q4, by rw [log4, hL], fun j hj => ?_⟩
  have hfin : (x4.r j).cm = (L.length : Int) ∧ (x4.r j).l = L := by
    by_cases e : j = i
    · rw [e]
      exact full F4.sim hi hi lead4 log4 (by omega) hLt lead4.2 (F4.cm lead4)
    · obtain ⟨k1, _, k3⟩ := idle4 j hj e
      exact full F4.sim hi hj lead4 log4 (by omega) hLt k1 k3
  rw [log4, hfin.1, hLlen]
  exact ⟨by push_cast; rfl, hfin.2⟩

/-! ### Operations -/
def pickN (n : Int) (l : List Msg) : Nat := (if (l.length : Int) < 1 then 0 else n % (l.length : Int)).toNat
def stepC (x : Cl) (k who n : Int) (d : List UInt8) : Option Cl :=
  if k = 8 then some { x with sent := x.sent.eraseIdx (pickN n x.sent) }
  else if k = 9 then arriveC x (pickN n x.sent) true
  else if k = 10 ∨ k = 11 then doneC x (who % 3) (tickR (x.r (who % 3))).1 (tickR (x.r (who % 3))).2
  else if k = 12 ∨ k = 13 then doneC x (who % 3) (proposeR (x.r (who % 3)) d).1 (proposeR (x.r (who % 3)) d).2.2.2
  else if k = 14 then startC x (who % 3)
  else if k = 15 then some { x with st := upd x.st (who % 3) (1 + n % 2) }
  else arriveC x (pickN n x.sent) false
theorem mod3 (n : Int) : isId (n % 3) := by unfold isId; omega
theorem step_next {x : Cl} (h : Sim s x) (k who n : Int) (d : List UInt8) : Next s (stepC x k who n d) := by
  unfold stepC
  split
  · exact (h.fewer (fun y hy => List.mem_of_mem_eraseIdx hy)).here
  split
  · exact arrive_next h _ _
  split
  · exact tick_next h (mod3 who)
  split
  · exact propose_next h (mod3 who) d
  split
  · exact restart_next h (mod3 who)
  split
  · exact (h.stop _).here
  · exact arrive_next h _ _
theorem bd_step {x x' : Cl} {T : Int} {N : Nat} (h : Sim s x) (hB : Bd x T N) {k who n : Int} {d : List UInt8} (e : stepC x k who n d = some x') : Bd x' (T + 1) (N + 1) := by
  have hm : ∀ {y : Cl}, Bd y T N → Bd y (T + 1) (N + 1) := fun hy => hy.mono (by omega) (by omega)
  unfold stepC at e
  split at e
  · rw [← Option.some.inj e]
    exact hm ⟨hB.tm, hB.l, fun y hy => hB.ms y (List.mem_of_mem_eraseIdx hy)⟩
  split at e
  · exact hm (bd_arrive h hB _ _ e)
  split at e
  · exact (bd_tick h (mod3 who) hB e).mono (Int.le_refl _) (Nat.le_succ _)
  split at e
  · exact (bd_propose h (mod3 who) hB d e).mono (by omega) (Nat.le_refl _)
  split at e
  · exact hm (bd_restart h (mod3 who) hB e)
  split at e
  · rw [← Option.some.inj e]
    exact hm ⟨hB.tm, hB.l, hB.ms⟩
  · exact hm (bd_arrive h hB _ _ e)
/-- After operations, all messages are lost, and none is interrupted any more. -/
theorem quiet_of {x : Cl} {T : Int} {N : Nat} (h : Sim s x) (hB : Bd x T N) (st : Int → Int) (hst : ∀ j, isId j → st j = 0) : Quiet s { x with sent := [], st := st } ∧ Bd { x with sent := [], st := st } T N :=
  ⟨⟨(h.fewer (sent' := []) (fun m hm => by cases hm)).stop st, hst, rfl⟩, hB.tm, hB.l, fun m hm => by cases hm⟩
end Rp
end Go.Proofs.Ytoghaogcekappaa

namespace Go.Proofs.Ytoghaogcekappaa
namespace Rp
variable {s s' : St}

def Sm (l : List Rec) : Prop := l.length ≤ 4000 ∧ ∀ x ∈ l, x.d.length ≤ 2000
theorem Okr.sm {r : R} (h : Okr r) : Sm r.l := ⟨h.l, h.d⟩
theorem sm_nil : Sm [] := ⟨Nat.zero_le _, fun x hx => by cases hx⟩
theorem sm_ents {r : R} (h : Sm r.l) (v : Int) : Sm (ents r v).rs := by
  refine ⟨?_, fun x hx => h.2 x (List.mem_of_mem_drop (List.mem_of_mem_take hx))⟩
  show ((r.l.drop (r.nxt v - 1).toNat).take 8).length ≤ 4000
  rw [List.length_take]
  omega
def Lite (r' : R) (o : Out) : Prop := o.send.length ≤ 2 ∧ (o.fr ≤ 4001) ∧ ∀ m ∈ o.send, m.rs = [] ∨ ∃ v, m = ents r' v
theorem lite_zero (r' : R) : Lite r' Out.zero := ⟨by decide, by decide, fun m h => by cases h⟩
theorem others_len2 (i : Int) : (others i).length = 2 := by
  unfold others
  split
  · rfl
  split
  · rfl
  · rfl
theorem lite_all (r' : R) : Lite r' (Out.just (all r')) := ⟨by show ((others r'.id).map (ents r')).length ≤ 2; rw [List.length_map, others_len2]; exact Nat.le_refl _, (by show (0 : Int) ≤ 4001; omega), fun m hm => by
  obtain ⟨v, _, rfl⟩ := List.mem_map.1 hm
  exact Or.inr ⟨v, rfl⟩⟩
theorem lite_one {r' : R} {sv : Bool} {h : Hard} {f : Int} {rs : List Rec} {m : Msg} (hf : f ≤ 4001) (hm : m.rs = []) : Lite r' ⟨sv, h, f, rs, [m]⟩ := ⟨by show 1 ≤ 2; omega, hf, fun m' hm' => by
  obtain rfl := List.mem_singleton.1 hm'
  exact Or.inl hm⟩
theorem lite_ents (r' : R) (v : Int) : Lite r' (Out.just [ents r' v]) := ⟨by show 1 ≤ 2; omega, (by show (0 : Int) ≤ 4001; omega), fun m' hm' => by
  obtain rfl := List.mem_singleton.1 hm'
  exact Or.inr ⟨v, rfl⟩⟩
theorem tick_lite (r : R) : Lite (tickR r).1 (tickR r).2 := by
  unfold tickR
  split
  · exact lite_all r
  split
  · exact lite_zero _
  · refine ⟨by show ((others r.id).map _).length ≤ 2; rw [List.length_map, others_len2]; exact Nat.le_refl _, (by show (0 : Int) ≤ 4001; omega), fun m hm => ?_⟩
    obtain ⟨v, _, rfl⟩ := List.mem_map.1 hm
    exact Or.inl rfl
theorem propose_lite {r : R} (ho : Okr r) (d : List UInt8) : Lite (proposeR r d).1 (proposeR r d).2.2.2 := by
  have h1 := ho.l
  unfold proposeR
  split
  · exact lite_zero _
  split
  · exact lite_zero _
  split
  · exact lite_zero _
  · have h := lite_all { r with l := r.l ++ [⟨r.h.tm, d⟩] }
    exact ⟨h.1, by show (r.l.length : Int) + 1 ≤ 4001; omega, h.2.2⟩
theorem kind_lite {r : R} {m : Msg} (hm : m.ix + (m.rs.length : Int) ≤ 4000) : Lite (kindR r m).1 (kindR r m).2 := by
  unfold kindR
  split
  · unfold voteR
    split
    · exact lite_one (by decide) rfl
    · exact lite_one (by decide) rfl
  split
  · unfold votedR
    split
    · show Lite (if cnt _ < 2 then _ else _ : R × Out).1 (if cnt _ < 2 then _ else _ : R × Out).2
      split
      · exact lite_zero _
      · exact lite_all _
    · exact lite_zero _
  split
  · unfold appendR
    split
    · exact lite_one (by decide) rfl
    split
    · exact lite_zero _
    split
    · exact lite_one (by decide) rfl
    obtain ⟨k, hk⟩ : ∃ k, agree r.l m.ix.toNat m.rs = k := ⟨_, rfl⟩
    rw [hk]
    show Lite (if k < m.rs.length then _ else _ : R × Out).1 (if k < m.rs.length then _ else _ : R × Out).2
    split
    · split
      · exact lite_zero _
      · exact lite_one (by omega) rfl
    · exact lite_one (by decide) rfl
  · unfold appendedR
    split
    · split
      · split
        · exact lite_zero _
        · show Lite (if _ ≤ (r.l.length : Int) then _ else _ : R × Out).1 (if _ ≤ (r.l.length : Int) then _ else _ : R × Out).2
          split
          · exact lite_ents _ _
          · exact lite_zero _
      · exact lite_ents _ _
    · exact lite_zero _
theorem hear_lite (r : R) (m : Msg) : Lite (hearR r m).1 (hearR r m).2 := by
  unfold hearR
  split
  · exact lite_zero _
  · next h0 =>
    have h0 : right r.id m = true := by simpa using h0
    unfold right at h0
    rw [Bool.and_eq_true, decide_eq_true_eq] at h0
    have h := kind_lite (r := later r m) (m := m) h0.1.2.2.2.2.2.2.2.2.2.2.2.2.2.2.2.2
    show Lite (kindR (later r m) m).1 (if (kindR (later r m) m).1.h = r.h then (kindR (later r m) m).2 else { (kindR (later r m) m).2 with save := true, h := (kindR (later r m) m).1.h })
    split
    · exact h
    · exact h
/-- A result that the law can keep. -/
structure Fit (r' : R) (o : Out) : Prop where
  fr : o.fr ≤ 4001
  rs : 0 < o.fr → Sm o.rs
  sn : o.send.length ≤ 2
  sm : ∀ m ∈ o.send, Sm m.rs
theorem fit_of {r r' : R} {o : Out} (h : Lite r' o) (hk : Keeps r r' o) (ho : Okr r') : Fit r' o := by
  refine ⟨h.2.1, fun h0 => ?_, h.1, fun m hm => ?_⟩
  · have e := hk.l
    unfold put at e
    rw [if_pos h0] at e
    have hs := ho.sm
    rw [← e] at hs
    exact ⟨by have := hs.1; rw [List.length_append] at this; omega, fun x hx => hs.2 x (List.mem_append_right _ hx)⟩
  · rcases h.2.2 m hm with e | ⟨v, e⟩
    · rw [e]; exact sm_nil
    · rw [e]; exact sm_ents ho.sm v
end Rp
end Go.Proofs.Ytoghaogcekappaa

namespace Go.Proofs.Ytoghaogcekappaa
namespace Rp
variable {s s' : St}

structure Nice (x : Cl) : Prop where
  id : ∀ i, isId i → (x.r i).id = i
  okr : ∀ i, isId i → Okr (x.r i)
  lg : ∀ i, isId i → x.lg i = (x.r i).l
  len : x.sent.length ≤ 300
  dst : ∀ m ∈ x.sent, isId m.dst
theorem Sim.nice {x : Cl} (h : Sim s x) (hl : x.sent.length ≤ 300) : Nice x := ⟨fun i hi => (h.rel i hi).id, h.okr, fun i hi => h.lg i hi, hl, fun m hm => (h.good m hm).2.1⟩
theorem Nice.sm {x : Cl} (h : Nice x) {i : Int} (hi : isId i) : Sm (x.lg i) := by rw [h.lg i hi]; exact (h.okr i hi).sm
theorem Nice.fit {x : Cl} (hn : Nice x) {k : Int} (hi : isId k) {r' : R} {o : Out} (hk : Keeps (x.r k) r' o) (hl : Lite r' o) (ho : Okr r') : Fit r' o ∧ Sm (x.lg k) ∧ Sm (put (x.lg k) o) := by
  refine ⟨fit_of hl hk ho, hn.sm hi, ?_⟩
  rw [hn.lg k hi, hk.l]
  exact ho.sm
theorem Nice.tick {x : Cl} (hn : Nice x) {k : Int} (hi : isId k) : Fit (tickR (x.r k)).1 (tickR (x.r k)).2 ∧ Sm (x.lg k) ∧ Sm (put (x.lg k) (tickR (x.r k)).2) :=
  hn.fit hi (tick_keeps _) (tick_lite _) (tick_okr (by rw [hn.id k hi]; exact hi) (hn.okr k hi))
theorem Nice.propose {x : Cl} (hn : Nice x) {k : Int} (hi : isId k) (d : List UInt8) : Fit (proposeR (x.r k) d).1 (proposeR (x.r k) d).2.2.2 ∧ Sm (x.lg k) ∧ Sm (put (x.lg k) (proposeR (x.r k) d).2.2.2) :=
  hn.fit hi (propose_keeps _ d) (propose_lite (hn.okr k hi) d) (propose_okr (hn.okr k hi) d)
theorem Nice.hear {x : Cl} (hn : Nice x) {k : Int} (hi : isId k) (m : Msg) : Fit (hearR (x.r k) m).1 (hearR (x.r k) m).2 ∧ Sm (x.lg k) ∧ Sm (put (x.lg k) (hearR (x.r k) m).2) :=
  hn.fit hi (hear_keeps _ m) (hear_lite _ m) (hear_okr m (hn.okr k hi))
theorem len_start {x x' : Cl} {i : Int} (e : startC x i = some x') : x'.sent = x.sent := by
  unfold startC at e
  cases hr : newR i (x.hd i) (x.lg i) with
  | none => rw [hr] at e; cases e
  | some r => rw [hr] at e; injection e with e; rw [← e]
theorem len_done {x x' : Cl} {i : Int} {r' : R} {o : Out} (h : x.sent.length ≤ 300) (e : doneC x i r' o = some x') : x'.sent.length ≤ 300 := by
  unfold doneC at e
  split at e
  · rw [len_start e]; exact h
  · have e : (if x.st i = 2 then _ else _) = some x' := e
    split at e
    · rw [len_start e]; exact h
    · injection e with e
      rw [← e]
      show (x.sent ++ o.send.take (300 - x.sent.length)).length ≤ 300
      rw [List.length_append, List.length_take]
      omega
theorem len_erase {α : Type} (l : List α) (n : Nat) : (l.eraseIdx n).length ≤ l.length := by
  rw [List.length_eraseIdx]
  split <;> omega
theorem len_arrive {x x' : Cl} {n : Nat} {keep : Bool} (h : x.sent.length ≤ 300) (e : arriveC x n keep = some x') : x'.sent.length ≤ 300 := by
  unfold arriveC at e
  split at e
  · injection e with e; rw [← e]; exact h
  · refine len_done ?_ e
    split
    · exact h
    · have := len_erase x.sent n
      show (x.sent.eraseIdx n).length ≤ 300
      omega
theorem len_step {x x' : Cl} {k who n : Int} {d : List UInt8} (h : x.sent.length ≤ 300) (e : stepC x k who n d = some x') : x'.sent.length ≤ 300 := by
  unfold stepC at e
  split at e
  · injection e with e
    rw [← e]
    have := len_erase x.sent (pickN n x.sent)
    show (x.sent.eraseIdx _).length ≤ 300
    omega
  split at e
  · exact len_arrive h e
  split at e
  · exact len_done h e
  split at e
  · exact len_done h e
  split at e
  · rw [len_start e]; exact h
  split at e
  · injection e with e; rw [← e]; exact h
  · exact len_arrive h e
end Rp
end Go.Proofs.Ytoghaogcekappaa
