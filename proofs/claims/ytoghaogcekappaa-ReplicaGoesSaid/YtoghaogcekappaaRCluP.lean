/-
  A replica of the document does steps that keep what holds: what it sends tells what has happened.
  A replica of the document that hears a message: what it does keeps what holds.
  What a call of a replica wants to be stored is what the replica has then; and it is right.
  Three replicas, what they have stored, and messages in flight: every operation keeps what holds; what follows from it.
-/
import Derived.Test.YtoghaogcekappaaRModel
namespace Go.Proofs.Ytoghaogcekappaa
namespace Rp
variable {s s' : St}

/-- What a message tells. -/
def Good (s : St) (m : Msg) : Prop := isId m.fr ∧ isId m.dst ∧
  (m.k = 0 → s.V m.fr m.tm = m.fr ∧ m.ix = ((s.cl m.tm m.fr).length : Int) ∧ m.pv = lastT (s.cl m.tm m.fr)) ∧
  (m.k = 1 → m.yes = true → s.V m.fr m.tm = m.dst) ∧
  (m.k = 2 → s.ldr m.tm = m.fr ∧ ∃ i c : Nat, m.ix = (i : Int) ∧ m.cm = (c : Int) ∧ i + m.rs.length ≤ (s.ldl m.tm).length ∧ m.pv = tAt (s.ldl m.tm) i ∧ m.rs = ((s.ldl m.tm).drop i).take m.rs.length ∧
    (c = 0 ∨ ∃ T n, Comtd s T n ∧ c ≤ n ∧ T ≤ m.tm ∧ Pre (s.ldl m.tm) (s.ldl T) c)) ∧
  (m.k = 3 → m.yes = true → ∃ n : Nat, m.ix = (n : Int) ∧ n ≤ s.acc m.fr m.tm)
theorem isId_ne {i : Int} (h : isId i) : i ≠ -1 := by unfold isId at h; omega
theorem drop_take_grow {M M' : List Rec} {i n : Nat} (hg : M <+: M') (h : i + n ≤ M.length) : (M'.drop i).take n = (M.drop i).take n := by
  obtain ⟨t, rfl⟩ := hg
  rw [List.drop_append_of_le_length (by omega), List.take_append_of_le_length (by rw [List.length_drop]; omega)]
theorem Good.ext {m : Msg} (e : Ext s s') (h : Good s m) : Good s' m := by
  obtain ⟨h1, h2, h3, h4, h5, h6⟩ := h
  refine ⟨h1, h2, fun k => ?_, fun k y => ?_, fun k => ?_, fun k y => ?_⟩
  · obtain ⟨a, b, c⟩ := h3 k
    have := e.V m.fr m.tm (by rw [a]; exact isId_ne h1)
    rw [this, e.cl _ _ h1 a]
    exact ⟨a, b, c⟩
  · have a := h4 k y
    rw [e.V _ _ (by rw [a]; exact isId_ne h2)]
    exact a
  · obtain ⟨a, i, c, b1, b2, b3, b4, b5, b6⟩ := h5 k
    have hl : s.ldr m.tm ≠ -1 := by rw [a]; exact isId_ne h1
    have hg := e.ldl m.tm hl
    refine ⟨by rw [e.ldr _ hl]; exact a, i, c, b1, b2, Nat.le_trans b3 hg.length_le, ?_, ?_, ?_⟩
    · rw [b4, tAt_grow hg (by omega)]
    · rw [drop_take_grow hg b3]; exact b5
    · rcases b6 with b6 | ⟨T, n, d1, d2, d3, d4⟩
      · exact Or.inl b6
      · exact Or.inr ⟨T, n, e.comtd d1, d2, d3, ((d4.symm.grow hg).symm).grow (e.ldl T d1.1)⟩
  · obtain ⟨n, a, b⟩ := h6 k y
    exact ⟨n, a, Nat.le_trans b (e.acc _ _)⟩

/-- The replica i of the state is this one. -/
structure Rel (s : St) (i : Int) (r : R) : Prop where
  id : r.id = i
  tm : s.term i = r.h.tm
  vt : s.vote i = r.h.vt
  l : s.log i = r.l
  role : s.role i = r.role
  cm : r.cm = (s.comm i : Int)
  votes : ∀ v, s.votes i v = true → isId v
  votesEq : r.role = 1 → ∀ v, s.votes i v = r.votes v
  nxt : r.role = 2 → ∀ v, isId v → v ≠ i → r.nxt v = (s.nxt i v : Int) ∧ r.mat v = (s.mat i v : Int)
/-- Replica j is as it was. -/
structure Same (j : Int) (s s' : St) : Prop where
  tm : s'.term j = s.term j
  vt : s'.vote j = s.vote j
  l : s'.log j = s.log j
  role : s'.role j = s.role j
  cm : s'.comm j = s.comm j
  votes : s'.votes j = s.votes j
  nxt : s'.nxt j = s.nxt j
  mat : s'.mat j = s.mat j
theorem Same.refl (j : Int) (s : St) : Same j s s := ⟨rfl, rfl, rfl, rfl, rfl, rfl, rfl, rfl⟩
theorem Same.trans {j : Int} {a b c : St} (h : Same j a b) (k : Same j b c) : Same j a c :=
  ⟨k.tm.trans h.tm, k.vt.trans h.vt, k.l.trans h.l, k.role.trans h.role, k.cm.trans h.cm, k.votes.trans h.votes, k.nxt.trans h.nxt, k.mat.trans h.mat⟩
theorem Same.rel {j : Int} {r : R} (h : Same j s s') (k : Rel s j r) : Rel s' j r :=
  ⟨k.id, h.tm.trans k.tm, h.vt.trans k.vt, h.l.trans k.l, h.role.trans k.role, by rw [h.cm]; exact k.cm, fun v hv => k.votes v (by rw [← h.votes]; exact hv), fun hr v => by rw [h.votes]; exact k.votesEq hr v, fun hr v hv hn => by rw [h.nxt, h.mat]; exact k.nxt hr v hv hn⟩
/-- What a call does. -/
def Does (s : St) (i : Int) (r' : R) (send : List Msg) : Prop := ∃ s', Inv s' ∧ Ext s s' ∧ Rel s' i r' ∧ (∀ j, j ≠ i → Same j s s') ∧ ∀ m ∈ send, Good s' m
theorem Ext.trans {a b c : St} (h : Ext a b) (k : Ext b c) : Ext a c :=
  ⟨fun i => Int.le_trans (h.term i) (k.term i), fun i T hv => by rw [k.V i T (by rw [h.V i T hv]; exact hv), h.V i T hv],
   fun T d hd hv => by
     have e1 := h.V d T (by rw [hv]; exact isId_ne hd)
     rw [k.cl T d hd (by rw [e1]; exact hv), h.cl T d hd hv],
   fun T hT => by rw [k.ldr T (by rw [h.ldr T hT]; exact hT), h.ldr T hT],
   fun T hT => (h.ldl T hT).trans (k.ldl T (by rw [h.ldr T hT]; exact hT)),
   fun i T => Nat.le_trans (h.acc i T) (k.acc i T),
   fun i T n hi hn hlt hh => h.frz i T n hi hn hlt (k.frz i T n hi hn (Int.lt_of_lt_of_le hlt (h.term i)) hh)⟩
theorem Does.of {i : Int} {r : R} {send : List Msg} (h : Inv s) (hr : Rel s i r) (hs : ∀ m ∈ send, Good s m) : Does s i r send := ⟨s, h, Ext.refl s, hr, fun j _ => Same.refl j s, hs⟩
theorem Does.then {i : Int} {r r' : R} {send : List Msg} (hd : Does s i r []) (hk : ∀ s', Inv s' → Ext s s' → Rel s' i r → Does s' i r' send) : Does s i r' send := by
  obtain ⟨s1, h1, e1, r1, j1, _⟩ := hd
  obtain ⟨s2, h2, e2, r2, j2, g2⟩ := hk s1 h1 e1 r1
  exact ⟨s2, h2, e1.trans e2, r2, fun j hj => (j1 j hj).trans (j2 j hj), g2⟩

/-! ### Tick -/
theorem tI_at (l : List Rec) (n : Nat) : tI l (n : Int) = tAt l n := by
  unfold tI
  split
  · rw [Int.toNat_natCast]
  · next h =>
    have : n = 0 := by omega
    subst this; rfl
theorem others_ne {id v : Int} (_h : isId id) (hv : v ∈ others id) : isId v ∧ v ≠ id := by
  unfold others at hv
  unfold isId at *
  split at hv
  · simp at hv; omega
  · split at hv
    · simp at hv; omega
    · simp at hv; omega
/-- What a leader sends is its log. -/
theorem ents_good {i : Int} {r : R} (h : Inv s) (hi : isId i) (hr : Rel s i r) (hrole : r.role = 2) {v : Int} (hv : isId v) (hne : v ≠ i) : Good s (ents r v) := by
  obtain ⟨a, b, c⟩ := h.r2 i hi (by rw [hr.role]; exact hrole)
  obtain ⟨m1, m2, m3⟩ := c v hv hne
  obtain ⟨n1, n2⟩ := hr.nxt hrole v hv hne
  have hix : r.nxt v - 1 = ((s.nxt i v - 1 : Nat) : Int) := by omega
  have hl : s.ldl (s.term i) = r.l := by rw [b, hr.l]
  have hlen : ((r.l.drop (s.nxt i v - 1)).take 8).length ≤ r.l.length - (s.nxt i v - 1) := by
    rw [List.length_take, List.length_drop]; omega
  have hn : s.nxt i v - 1 ≤ r.l.length := by rw [hr.l] at m3; omega
  refine ⟨by show isId r.id; rw [hr.id]; exact hi, hv, (fun k => by cases k), (fun k => by cases k), fun _ => ⟨?_, s.nxt i v - 1, s.comm i, hix, hr.cm, ?_, ?_, ?_, ?_⟩, (fun k => by cases k)⟩
  · show s.ldr r.h.tm = r.id
    rw [← hr.tm, hr.id]; exact a
  · show s.nxt i v - 1 + ((r.l.drop (r.nxt v - 1).toNat).take 8).length ≤ (s.ldl r.h.tm).length
    rw [← hr.tm, hl, hix, Int.toNat_natCast]
    omega
  · show tI r.l (r.nxt v - 1) = tAt (s.ldl r.h.tm) _
    rw [← hr.tm, hl, hix, tI_at]
  · show (r.l.drop (r.nxt v - 1).toNat).take 8 = ((s.ldl r.h.tm).drop _).take ((r.l.drop (r.nxt v - 1).toNat).take 8).length
    rw [← hr.tm, hl, hix, Int.toNat_natCast, List.length_take, List.take_eq_take_min]
  · show s.comm i = 0 ∨ ∃ T n, Comtd s T n ∧ s.comm i ≤ n ∧ T ≤ r.h.tm ∧ Pre (s.ldl r.h.tm) (s.ldl T) (s.comm i)
    rw [← hr.tm, b]
    exact h.cm i hi
theorem all_good {i : Int} {r : R} (h : Inv s) (hi : isId i) (hr : Rel s i r) (hrole : r.role = 2) : ∀ m ∈ all r, Good s m := by
  intro m hm
  obtain ⟨v, hv, rfl⟩ := List.mem_map.1 hm
  have := others_ne (by rw [hr.id]; exact hi) hv
  exact ents_good h hi hr hrole this.1 (by rw [← hr.id]; exact this.2)
theorem tick_sim {i : Int} {r : R} (h : Inv s) (hi : isId i) (hr : Rel s i r) : Does s i (tickR r).1 (tickR r).2.send := by
  unfold tickR
  by_cases h2 : r.role = 2
  · rw [if_pos h2]
    exact Does.of h hr (all_good h hi hr h2)
  · rw [if_neg h2]
    by_cases hT : r.h.tm = 1099511627776
    · rw [if_pos hT]
      exact Does.of h hr (fun m hm => by cases hm)
    · rw [if_neg hT]
      have hI := h.tick hi
      have hti : (tick s i).term i = r.h.tm + 1 := by rw [← hr.tm]; exact upd_same _ _ _
      refine ⟨tick s i, hI, tick_ext h i, ⟨hr.id, hti, ?_, hr.l, ?_, hr.cm, fun v hv => ?_, fun _ v => ?_, fun hc => ?_⟩, fun j hj => ⟨upd_ne _ _ hj, upd_ne _ _ hj, rfl, upd_ne _ _ hj, rfl, upd_ne _ _ hj, rfl, rfl⟩, fun m hm => ?_⟩
      · show upd s.vote i i i = r.id
        rw [upd_same, hr.id]
      · exact upd_same _ _ _
      · have hv : upd s.votes i (fun v => decide (v = i)) i v = true := hv
        rw [upd_same] at hv
        have : v = i := by simpa using hv
        rw [this]; exact hi
      · show upd s.votes i (fun v => decide (v = i)) i v = decide (v = r.id)
        rw [upd_same, hr.id]
      · have hc : (1 : Int) = 2 := hc
        omega
      · obtain ⟨v, hv, rfl⟩ := List.mem_map.1 hm
        have hvo := others_ne (by rw [hr.id]; exact hi) hv
        have e1 : (tick s i).V i (s.term i + 1) = i := if_pos ⟨rfl, rfl⟩
        have e2 : (tick s i).cl (s.term i + 1) i = s.log i := if_pos ⟨rfl, rfl⟩
        refine ⟨by show isId r.id; rw [hr.id]; exact hi, hvo.1, fun _ => ?_, (fun k => by cases k), (fun k => by cases k), (fun k => by cases k)⟩
        show (tick s i).V r.id (r.h.tm + 1) = r.id ∧ (r.l.length : Int) = (((tick s i).cl (r.h.tm + 1) r.id).length : Int) ∧ lastT r.l = lastT ((tick s i).cl (r.h.tm + 1) r.id)
        rw [hr.id, ← hr.tm, e1, e2, hr.l]
        exact ⟨rfl, rfl, rfl⟩

/-! ### Propose -/
theorem propose_sim {i : Int} {r : R} (h : Inv s) (hi : isId i) (hr : Rel s i r) (d : List UInt8) : Does s i (proposeR r d).1 (proposeR r d).2.2.2.send := by
  unfold proposeR
  by_cases h2 : r.role ≠ 2
  · rw [if_pos h2]; exact Does.of h hr (fun m hm => by cases hm)
  rw [if_neg h2]
  by_cases hd : 2000 < d.length
  · rw [if_pos hd]; exact Does.of h hr (fun m hm => by cases hm)
  rw [if_neg hd]
  by_cases hl : r.l.length = 4000
  · rw [if_pos hl]; exact Does.of h hr (fun m hm => by cases hm)
  rw [if_neg hl]
  have h2' : r.role = 2 := Decidable.not_not.1 h2
  have hs2 : s.role i = 2 := by rw [hr.role]; exact h2'
  have hI := h.prop hi hs2 d
  have hR : Rel (prop s i d) i { r with l := r.l ++ [⟨r.h.tm, d⟩] } := ⟨hr.id, hr.tm, hr.vt, by show upd s.log i (s.log i ++ [⟨s.term i, d⟩]) i = _; rw [upd_same, hr.l, hr.tm], hr.role, hr.cm, hr.votes, hr.votesEq, hr.nxt⟩
  refine ⟨prop s i d, hI, prop_ext h hi hs2 d, hR, fun j hj => ⟨rfl, rfl, upd_ne _ _ hj, rfl, rfl, rfl, rfl, rfl⟩, all_good hI hi hR h2'⟩

/-! ### Restart -/
theorem restart_sim {i : Int} {r r' : R} (h : Inv s) (hr : Rel s i r) (hn : newR i r.h r.l = some r') : Does s i r' [] := by
  unfold newR at hn
  split at hn
  · cases hn
  · have hn := (Option.some.inj hn).symm
    subst hn
    refine ⟨vol s i 0 0 (fun _ => false) (fun _ => 0) (fun _ => 0), h.vol i 0 0 _ _ _ (fun k => by cases k) (fun k => by cases k) (Or.inl rfl), vol_ext _ _ _ _ _ _ _, ⟨rfl, hr.tm, hr.vt, hr.l, upd_same _ _ _, ?_, fun v hv => ?_, (fun k => by cases k), (fun k => by cases k)⟩, fun j hj => ⟨rfl, rfl, rfl, upd_ne _ _ hj, upd_ne _ _ hj, upd_ne _ _ hj, upd_ne _ _ hj, upd_ne _ _ hj⟩, (fun m hm => by cases hm)⟩
    · show (0 : Int) = ((upd s.comm i 0 i : Nat) : Int)
      rw [upd_same]; rfl
    · have hv : upd s.votes i (fun _ => false) i v = true := hv
      rw [upd_same] at hv
      cases hv
end Rp
end Go.Proofs.Ytoghaogcekappaa

namespace Go.Proofs.Ytoghaogcekappaa
namespace Rp
variable {s s' : St}

/-! ### Votes -/
theorem refusal_good {i : Int} {r : R} (hi : isId i) (hr : r.id = i) {k d : Int} (hd : isId d) (hk : k = 1 ∨ k = 3) (ix : Int) : Good s { msg r k d with ix := ix } := by
  have ef : ({ msg r k d with ix := ix } : Msg) = ⟨k, r.id, d, r.h.tm, ix, 0, 0, false, []⟩ := rfl
  rw [ef, hr]
  refine ⟨hi, hd, ?_, ?_, ?_, ?_⟩
  · intro e; have e : k = 0 := e; omega
  · intro _ y; cases y
  · intro e; have e : k = 2 := e; omega
  · intro _ y; cases y
theorem vote_sim {i : Int} {r : R} {m : Msg} (h : Inv s) (hi : isId i) (hr : Rel s i r) (hg : Good s m) (hk : m.k = 0) : Does s i (voteR r m).1 (voteR r m).2.send := by
  obtain ⟨g1, g2, g3, _⟩ := hg
  obtain ⟨v1, v2, v3⟩ := g3 hk
  unfold voteR
  split
  · next c =>
    obtain ⟨c1, c2, c3⟩ := c
    have ht : s.term i = m.tm := by rw [hr.tm, c1]
    have hv : s.vote i = -1 ∨ s.vote i = m.fr := by rw [hr.vt]; exact c2
    have hu : lastT (s.log i) < lastT (s.cl (s.term i) m.fr) ∨ (lastT (s.log i) = lastT (s.cl (s.term i) m.fr) ∧ (s.log i).length ≤ (s.cl (s.term i) m.fr).length) := by
      rw [ht, hr.l, ← v3]
      rcases c3 with c3 | ⟨c3, c4⟩
      · exact Or.inl c3
      · exact Or.inr ⟨c3.symm, by omega⟩
    have hI := h.grant hi g1 hv (by rw [ht]; exact v1) hu
    refine ⟨grant s i m.fr, hI, grant_ext h hi hv, ⟨hr.id, hr.tm, upd_same _ _ _, hr.l, hr.role, hr.cm, hr.votes, hr.votesEq, hr.nxt⟩, fun j hj => ⟨rfl, upd_ne _ _ hj, rfl, rfl, rfl, rfl, rfl, rfl⟩, fun x hx => ?_⟩
    obtain rfl := List.mem_singleton.1 hx
    refine ⟨by show isId r.id; rw [hr.id]; exact hi, g1, (fun k => by cases k), fun _ _ => ?_, (fun k => by cases k), (fun k => by cases k)⟩
    show (grant s i m.fr).V r.id r.h.tm = m.fr
    rw [hr.id, ← hr.tm]
    exact if_pos ⟨rfl, rfl⟩
  · refine Does.of h hr (fun x hx => ?_)
    obtain rfl := List.mem_singleton.1 hx
    exact refusal_good (s := s) hi hr.id g1 (Or.inl rfl) 0
theorem cnt_pair {f : Int → Bool} (h : ¬ cnt f < 2) : ∃ a b, a ≠ b ∧ f a = true ∧ f b = true := by
  unfold cnt at h
  cases h0 : f 0 <;> cases h1 : f 1 <;> cases h2 : f 2 <;> rw [h0, h1, h2] at h <;> simp at h
  · exact ⟨1, 2, by decide, h1, h2⟩
  · exact ⟨0, 2, by decide, h0, h2⟩
  · exact ⟨0, 1, by decide, h0, h1⟩
  · exact ⟨0, 1, by decide, h0, h1⟩
theorem voted_sim {i : Int} {r : R} {m : Msg} (h : Inv s) (hi : isId i) (hr : Rel s i r) (hg : Good s m) (hk : m.k = 1) (hd : m.dst = r.id) : Does s i (votedR r m).1 (votedR r m).2.send := by
  unfold votedR
  split
  case isFalse => exact Does.of h hr (fun x hx => by cases hx)
  next c =>
  obtain ⟨c1, c2, c3⟩ := c
  have hs1 : s.role i = 1 := by rw [hr.role]; exact c1
  obtain ⟨r1, r2, r3, r4⟩ := h.r1 i hi hs1
  have hV : s.V m.fr (s.term i) = i := by rw [hr.tm, ← c2, hg.2.2.2.1 hk c3, hd, hr.id]
  obtain ⟨vs, hvs⟩ : ∃ vs : Int → Bool, vs = fun v => r.votes v || decide (v = m.fr) := ⟨_, rfl⟩
  have hvV : ∀ v, vs v = true → s.V v (s.term i) = i := fun v hv => by
    rw [hvs] at hv
    rcases Bool.or_eq_true_iff.1 hv with q | q
    · exact r4 v (by rw [hr.votesEq c1]; exact q)
    · have : v = m.fr := by simpa using q
      rw [this]; exact hV
  have hvId : ∀ v, vs v = true → isId v := fun v hv => (h.vId v _ (by rw [hvV v hv]; exact isId_ne hi)).1
  show Does s i (if cnt (fun v => r.votes v || decide (v = m.fr)) < 2 then _ else _ : R × Out).1 (if cnt (fun v => r.votes v || decide (v = m.fr)) < 2 then _ else _ : R × Out).2.send
  rw [← hvs]
  have h0 : Does s i { r with votes := vs } [] := by
    refine ⟨vol s i 1 (s.comm i) vs (s.mat i) (s.nxt i), h.vol i 1 _ _ _ _ (fun _ => ⟨r1, r2, r3, hvV⟩) (fun k => by cases k) (h.cm i hi), vol_ext _ _ _ _ _ _ _,
      ⟨hr.id, hr.tm, hr.vt, hr.l, ?_, ?_, fun v hv => ?_, fun _ v => ?_, fun k => ?_⟩, fun j hj => ⟨rfl, rfl, rfl, upd_ne _ _ hj, upd_ne _ _ hj, upd_ne _ _ hj, upd_ne _ _ hj, upd_ne _ _ hj⟩, (fun x hx => by cases hx)⟩
    · show upd s.role i 1 i = r.role
      rw [upd_same, c1]
    · show r.cm = ((upd s.comm i (s.comm i) i : Nat) : Int)
      rw [upd_same]; exact hr.cm
    · have hv : upd s.votes i vs i v = true := hv
      rw [upd_same] at hv
      exact hvId v hv
    · show upd s.votes i vs i v = vs v
      rw [upd_same]
    · have k : r.role = 2 := k
      omega
  split
  · exact h0
  · next hc =>
    refine Does.then h0 (fun s' h' e' hr' => ?_)
    obtain ⟨a, b, hab, ha, hb⟩ := cnt_pair hc
    have hs1' : s'.role i = 1 := by rw [hr'.role]; exact c1
    obtain ⟨_, _, _, r4'⟩ := h'.r1 i hi hs1'
    have va := r4' a (by rw [hr'.votesEq c1]; exact ha)
    have vb := r4' b (by rw [hr'.votesEq c1]; exact hb)
    have hI := h'.lead hi hs1' hab va vb
    have hR : Rel (lead s' i) i { r with votes := vs, role := 2, nxt := fun _ => (r.l.length : Int) + 1, mat := fun _ => 0 } := by
      refine ⟨hr'.id, hr'.tm, hr'.vt, hr'.l, upd_same _ _ _, hr'.cm, hr'.votes, (fun k => by cases k), fun _ v hv hvi => ?_⟩
      show (r.l.length : Int) + 1 = ((upd s'.nxt i (fun _ => (s'.log i).length + 1) i v : Nat) : Int) ∧ (0 : Int) = ((upd s'.mat i (fun _ => 0) i v : Nat) : Int)
      rw [upd_same, upd_same, hr'.l]
      exact ⟨by push_cast; rfl, rfl⟩
    exact ⟨lead s' i, hI, lead_ext h' (h'.noLeader hi hs1' hab va vb), hR, fun j hj => ⟨rfl, rfl, rfl, upd_ne _ _ hj, rfl, rfl, upd_ne _ _ hj, upd_ne _ _ hj⟩, all_good hI hi hR rfl⟩

/-! ### Entries -/
theorem eqT {L M : List Rec} (hL : OkL s L) (hM : OkL s M) {k : Nat} (h1 : k ≤ L.length) (h2 : k ≤ M.length) (h : tAt L k = tAt M k) : Pre L M k := by
  rcases Nat.eq_zero_or_pos k with e | e
  · subst e; exact Pre.zero L M
  · obtain ⟨_, _, a, _⟩ := hL k e h1
    obtain ⟨_, _, b, _⟩ := hM k e h2
    rw [← h] at b
    exact a.trans b.symm
theorem agree_spec {L M : List Rec} (hL : OkL s L) (hM : OkL s M) : ∀ (rs : List Rec) (j : Nat), j + rs.length ≤ M.length → rs = (M.drop j).take rs.length → Pre L M j →
    agree L j rs ≤ rs.length ∧ Pre L M (j + agree L j rs) ∧ (agree L j rs < rs.length → L.length < j + agree L j rs + 1 ∨ tAt L (j + agree L j rs + 1) ≠ tAt M (j + agree L j rs + 1))
  | [], j, _, _, hp => ⟨Nat.le_refl _, hp, fun k => absurd k (Nat.lt_irrefl _)⟩
  | x :: xs, j, hj, hrs, hp => by
    have hjl : j < M.length := by simp only [List.length_cons] at hj; omega
    rw [List.drop_eq_getElem_cons hjl] at hrs
    simp only [List.length_cons, List.take_succ_cons, List.cons.injEq] at hrs
    obtain ⟨hx, hxs⟩ := hrs
    have htm : tAt M (j + 1) = x.t := by simp [tAt, hjl, hx]
    unfold agree
    split
    · next c =>
      have := agree_spec hL hM xs (j + 1) (by simp only [List.length_cons] at hj; omega) hxs (eqT hL hM c.1 hjl (by rw [htm]; exact c.2))
      obtain ⟨a, b, d⟩ := this
      have e1 : j + (agree L (j + 1) xs + 1) = j + 1 + agree L (j + 1) xs := by omega
      rw [e1]
      exact ⟨by simp only [List.length_cons]; omega, b, fun k => d (by simp only [List.length_cons] at k; omega)⟩
    · next c =>
      refine ⟨Nat.zero_le _, hp, fun _ => ?_⟩
      rw [Nat.add_zero, htm]
      rcases Nat.lt_or_ge L.length (j + 1) with q | q
      · exact Or.inl q
      · exact Or.inr (fun w => c ⟨q, w⟩)
theorem role0_sim {i : Int} {r : R} {send : List Msg} (h : Inv s) (hi : isId i) (hr : Rel s i r) (hs : ∀ m ∈ send, ∀ s', Good s' m) : Does s i { r with role := 0 } send := by
  refine ⟨vol s i 0 (s.comm i) (s.votes i) (s.mat i) (s.nxt i), h.vol i 0 _ _ _ _ (fun k => by cases k) (fun k => by cases k) (h.cm i hi), vol_ext _ _ _ _ _ _ _,
      ⟨hr.id, hr.tm, hr.vt, hr.l, upd_same _ _ _, ?_, fun v hv => ?_, (fun k => by cases k), (fun k => by cases k)⟩, fun j hj => ⟨rfl, rfl, rfl, upd_ne _ _ hj, upd_ne _ _ hj, upd_ne _ _ hj, upd_ne _ _ hj, upd_ne _ _ hj⟩, fun m hm => hs m hm _⟩
  · show r.cm = ((upd s.comm i (s.comm i) i : Nat) : Int)
    rw [upd_same]; exact hr.cm
  · have hv : upd s.votes i (s.votes i) i v = true := hv
    rw [upd_same] at hv
    exact hr.votes v hv
theorem accept_sim {i : Int} {r : R} {L' : List Rec} {q c : Nat} {cm : Int} {d : Int} (h : Inv s) (hi : isId i) (hr : Rel s i r) (hd : isId d) (hl : s.ldr (s.term i) ≠ -1) (hne : s.ldr (s.term i) ≠ i) (ht : Takes (s.ldl (s.term i)) (s.log i) L' q (s.comm i))
    (hc : c = s.comm i ∨ (c ≤ q ∧ ∃ T n, Comtd s T n ∧ c ≤ n ∧ T ≤ s.term i ∧ Pre (s.ldl (s.term i)) (s.ldl T) c)) (hcm : cm = (c : Int)) :
    Does s i { r with role := 0, cm := cm, l := L' } [{ msg r 3 d with yes := true, ix := (q : Int) }] := by
  have hI := h.accept hi hl hne ht hc
  refine ⟨accept s i L' q c, hI, accept_ext _ _ _ _ _, ⟨hr.id, hr.tm, hr.vt, upd_same _ _ _, upd_same _ _ _, ?_, hr.votes, (fun k => by cases k), (fun k => by cases k)⟩, fun j hj => ⟨rfl, rfl, upd_ne _ _ hj, upd_ne _ _ hj, upd_ne _ _ hj, rfl, rfl, rfl⟩, fun x hx => ?_⟩
  · show cm = ((upd s.comm i c i : Nat) : Int)
    rw [upd_same]; exact hcm
  · obtain rfl := List.mem_singleton.1 hx
    refine ⟨by show isId r.id; rw [hr.id]; exact hi, hd, (fun k => by cases k), (fun k => by cases k), (fun k => by cases k), fun _ _ => ⟨q, rfl, ?_⟩⟩
    show q ≤ (accept s i L' q c).acc r.id r.h.tm
    rw [hr.id, ← hr.tm]
    show q ≤ if i = i ∧ s.term i = s.term i then max (s.acc i (s.term i)) q else s.acc i (s.term i)
    rw [if_pos ⟨rfl, rfl⟩]
    exact Nat.le_max_right _ _
theorem append_sim {i : Int} {r : R} {m : Msg} (h : Inv s) (hi : isId i) (hr : Rel s i r) (hg : Good s m) (hk : m.k = 2) (hd : m.fr ≠ r.id) (hle : m.tm ≤ r.h.tm) : Does s i (appendR r m).1 (appendR r m).2.send := by
  unfold appendR
  by_cases h1 : m.tm < r.h.tm
  · rw [if_pos h1]
    refine Does.of h hr (fun x hx => ?_)
    obtain rfl := List.mem_singleton.1 hx
    exact refusal_good (s := s) hi hr.id hg.1 (Or.inr rfl) 0
  rw [if_neg h1]
  by_cases h2 : r.role = 2
  · rw [if_pos h2]; exact Does.of h hr (fun x hx => by cases hx)
  rw [if_neg h2]
  have htm : m.tm = s.term i := by rw [hr.tm]; omega
  obtain ⟨g1, i0, c0, g2, g3, g4, g5, g6, g7⟩ := hg.2.2.2.2.1 hk
  rw [htm] at g1 g4 g5 g6 g7
  by_cases h3 : (r.l.length : Int) < m.ix ∨ tI r.l m.ix ≠ m.pv
  · rw [if_pos h3]
    refine role0_sim h hi hr (fun x hx s' => ?_)
    obtain rfl := List.mem_singleton.1 hx
    exact refusal_good (s := s') hi hr.id hg.1 (Or.inr rfl) _
  rw [if_neg h3]
  have hl : s.ldr (s.term i) ≠ -1 := by rw [g1]; exact isId_ne hg.1
  have hne : s.ldr (s.term i) ≠ i := by rw [g1, ← hr.id]; exact hd
  obtain ⟨M, hM⟩ : ∃ M, M = s.ldl (s.term i) := ⟨_, rfl⟩
  rw [← hM] at g4 g5 g6 g7
  have okM : OkL s M := by rw [hM]; exact h.okLd _ hl
  have okl : OkL s r.l := by rw [← hr.l]; exact h.okLog i hi
  have hil : i0 ≤ r.l.length := by
    have : ¬ (r.l.length : Int) < m.ix := fun q => h3 (Or.inl q)
    rw [g2] at this; omega
  have hpt : tAt r.l i0 = tAt M i0 := by
    have : tI r.l m.ix = m.pv := Decidable.not_not.1 (fun q => h3 (Or.inr q))
    rw [g2, tI_at, g5] at this
    exact this
  have hp0 := eqT okl okM hil (by omega) hpt
  have hto : m.ix.toNat = i0 := by rw [g2]; rfl
  rw [hto]
  obtain ⟨k, hkk⟩ : ∃ k, agree r.l i0 m.rs = k := ⟨_, rfl⟩
  have hag := agree_spec okl okM m.rs i0 g4 g6 hp0
  rw [hkk] at hag ⊢
  obtain ⟨a1, a2, a3⟩ := hag
  obtain ⟨q, hq⟩ : ∃ q, q = i0 + m.rs.length := ⟨_, rfl⟩
  have hn : m.ix + (m.rs.length : Int) = (q : Int) := by rw [g2, hq]; push_cast; rfl
  have hc : max (s.comm i) (min c0 q) = s.comm i ∨ (max (s.comm i) (min c0 q) ≤ q ∧ ∃ T n, Comtd s T n ∧ max (s.comm i) (min c0 q) ≤ n ∧ T ≤ s.term i ∧ Pre (s.ldl (s.term i)) (s.ldl T) (max (s.comm i) (min c0 q))) := by
    rcases Nat.le_total (min c0 q) (s.comm i) with w | w
    · exact Or.inl (Nat.max_eq_left w)
    · rw [Nat.max_eq_right w]
      rcases g7 with g7 | ⟨T, n, d1, d2, d3, d4⟩
      · exact Or.inl (by omega)
      · rw [← hM]
        exact Or.inr ⟨by omega, T, n, d1, by omega, d3, d4.mono (by omega)⟩
  have hcm : max r.cm (min m.cm (m.ix + (m.rs.length : Int))) = ((max (s.comm i) (min c0 q) : Nat) : Int) := by rw [hn, hr.cm, g3]; omega
  show Does s i (if k < m.rs.length then _ else _ : R × Out).1 (if k < m.rs.length then _ else _ : R × Out).2.send
  by_cases h4 : k < m.rs.length
  · rw [if_pos h4]
    by_cases h5 : m.ix + (k : Int) + 1 ≤ r.cm
    · rw [if_pos h5]
      exact role0_sim h hi hr (fun x hx => by cases hx)
    · rw [if_neg h5]
      have hL' : r.l.take (i0 + k) ++ m.rs.drop k = M.take q := by
        have e1 : m.rs.drop k = (M.drop (i0 + k)).take (m.rs.length - k) := by
          conv => lhs; rw [g6]
          rw [List.drop_take, List.drop_drop]
        rw [a2.2.2, e1, ← List.take_add]
        congr 1; omega
      rw [hL']
      have := accept_sim (L' := M.take q) (q := q) (d := m.fr) h hi hr hg.1 hl hne (by
        rw [← hM]
        refine ⟨by omega, ⟨by rw [List.length_take]; omega, by omega, by rw [List.take_take, Nat.min_self]⟩, Or.inr ⟨rfl, i0 + k + 1, by omega, by omega, ?_, ?_, ?_⟩⟩
        · rw [hr.cm, g2] at h5; omega
        · rw [hr.l]; exact a2
        · rw [hr.l]; exact a3 h4) hc hcm
      rw [← hn] at this
      exact this
  · rw [if_neg h4]
    have := accept_sim (L' := r.l) (q := q) (d := m.fr) h hi hr hg.1 hl hne (by
      have hkq : i0 + k = q := by omega
      rw [hkq] at a2
      rw [← hM]
      exact ⟨by omega, a2, Or.inl hr.l.symm⟩) hc hcm
    rw [← hn] at this
    exact this

/-! ### What was accepted -/
theorem best_spec (l : List Rec) (t mm c : Int) : ∀ N : Nat, best l t mm c N = c ∨ ∃ n : Nat, best l t mm c N = (n : Int) ∧ 1 ≤ n ∧ n ≤ N ∧ tAt l n = t ∧ (n : Int) ≤ mm ∧ c < (n : Int)
  | 0 => Or.inl rfl
  | n + 1 => by
    unfold best
    split
    · next k => exact Or.inr ⟨n + 1, by push_cast; rfl, by omega, Nat.le_refl _, k.2.1, by push_cast; exact k.2.2, by push_cast; exact k.1⟩
    · rcases best_spec l t mm c n with k | ⟨x, a, b, d, e⟩
      · exact Or.inl k
      · exact Or.inr ⟨x, a, b, by omega, e⟩
theorem appended_sim {i : Int} {r : R} {m : Msg} (h : Inv s) (hi : isId i) (hr : Rel s i r) (hg : Good s m) (hk : m.k = 3) (hd : m.fr ≠ r.id) : Does s i (appendedR r m).1 (appendedR r m).2.send := by
  unfold appendedR
  by_cases h0 : r.role = 2 ∧ m.tm = r.h.tm
  case neg => rw [if_neg h0]; exact Does.of h hr (fun x hx => by cases hx)
  rw [if_pos h0]
  obtain ⟨h1, h2⟩ := h0
  have hs2 : s.role i = 2 := by rw [hr.role]; exact h1
  obtain ⟨a1, a2, a3⟩ := h.r2 i hi hs2
  have hfi : m.fr ≠ i := by rw [← hr.id]; exact hd
  have hl : s.ldr (s.term i) ≠ -1 := by rw [a1]; exact isId_ne hi
  have hacc : ∀ v, s.acc v (s.term i) ≤ r.l.length := fun v => by
    by_cases q : s.acc v (s.term i) = 0
    · omega
    · have := (h.accL v _ q).2.2.1
      rw [a2, hr.l] at this
      exact this
  obtain ⟨n1, n2⟩ := hr.nxt h1 m.fr hg.1 hfi
  obtain ⟨m1, m2, m3⟩ := a3 m.fr hg.1 hfi
  rw [hr.l] at m3
  have hma := hacc m.fr
  -- a change of what the leader knows of one replica
  have key : ∀ (mt nx : Nat) (c : Nat) (nx' cm' : Int) (mt' : Int → Int), mt ≤ s.acc m.fr (s.term i) → 1 ≤ nx → nx ≤ r.l.length + 1 → (c = 0 ∨ ∃ T n, Comtd s T n ∧ c ≤ n ∧ T ≤ s.term i ∧ Pre (s.log i) (s.ldl T) c) →
      nx' = (nx : Int) → cm' = (c : Int) → (∀ v, isId v → v ≠ i → mt' v = if v = m.fr then (mt : Int) else r.mat v) →
      ∃ s', Inv s' ∧ Ext s s' ∧ Rel s' i { r with mat := mt', nxt := upd r.nxt m.fr nx', cm := cm' } ∧ ∀ j, j ≠ i → Same j s s' := fun mt nx c nx' cm' mt' k1 k2 k3 k4 k5 k6 k7 => by
    have key : ∀ v, isId v → v ≠ i → (upd (s.mat i) m.fr mt v ≤ s.acc v (s.term i) ∧ 1 ≤ upd (s.nxt i) m.fr nx v ∧ upd (s.nxt i) m.fr nx v ≤ (s.log i).length + 1) := fun v hv hvi => by
      by_cases q : v = m.fr
      · subst q
        rw [upd_same, upd_same, hr.l]
        exact ⟨k1, k2, k3⟩
      · rw [upd_ne _ _ q, upd_ne _ _ q]
        exact a3 v hv hvi
    refine ⟨vol s i 2 c (s.votes i) (upd (s.mat i) m.fr mt) (upd (s.nxt i) m.fr nx), h.vol i 2 _ _ _ _ (fun k => by cases k) (fun _ => ⟨a1, a2, key⟩) k4, vol_ext _ _ _ _ _ _ _,
      ⟨hr.id, hr.tm, hr.vt, hr.l, ?_, ?_, fun v hv => ?_, fun k => ?_, fun _ v hv hvi => ?_⟩, fun j hj => ⟨rfl, rfl, rfl, upd_ne _ _ hj, upd_ne _ _ hj, upd_ne _ _ hj, upd_ne _ _ hj, upd_ne _ _ hj⟩⟩
    · show upd s.role i 2 i = r.role
      rw [upd_same, h1]
    · show cm' = ((upd s.comm i c i : Nat) : Int)
      rw [upd_same]; exact k6
    · have hv : upd s.votes i (s.votes i) i v = true := hv
      rw [upd_same] at hv
      exact hr.votes v hv
    · have k : r.role = 1 := k
      omega
    · show upd r.nxt m.fr nx' v = ((upd s.nxt i (upd (s.nxt i) m.fr nx) i v : Nat) : Int) ∧ mt' v = ((upd s.mat i (upd (s.mat i) m.fr mt) i v : Nat) : Int)
      rw [upd_same, upd_same, k7 v hv hvi]
      by_cases q : v = m.fr
      · subst q
        rw [upd_same, upd_same, upd_same, if_pos rfl]
        exact ⟨k5, rfl⟩
      · rw [upd_ne _ _ q, upd_ne _ _ q, upd_ne _ _ q, if_neg q]
        exact hr.nxt h1 v hv hvi
  by_cases hy : m.yes = true
  · rw [if_pos hy]
    by_cases h3 : (r.l.length : Int) < m.ix
    · rw [if_pos h3]; exact Does.of h hr (fun x hx => by cases hx)
    rw [if_neg h3]
    obtain ⟨n, e1, e2⟩ := hg.2.2.2.2.2 hk hy
    rw [h2, ← hr.tm] at e2
    obtain ⟨mt', hmt'⟩ : ∃ mt' : Int → Int, mt' = upd r.mat m.fr (max (r.mat m.fr) m.ix) := ⟨_, rfl⟩
    have hmx : max (s.mat i m.fr) n ≤ s.acc m.fr (s.term i) := Nat.max_le.2 ⟨m1, e2⟩
    have hmf : mt' m.fr = ((max (s.mat i m.fr) n : Nat) : Int) := by rw [hmt', upd_same, n2, e1]; omega
    have hmo : ∀ v, isId v → v ≠ i → mt' v = if v = m.fr then ((max (s.mat i m.fr) n : Nat) : Int) else r.mat v := fun v hv hvi => by
      by_cases q : v = m.fr
      · subst q; rw [if_pos rfl]; exact hmf
      · rw [if_neg q, hmt', upd_ne _ _ q]
    have hmacc : ∀ v, isId v → v ≠ i → mt' v ≤ (s.acc v (s.term i) : Int) := fun v hv hvi => by
      rw [hmo v hv hvi]
      split
      · next q => subst q; omega
      · rw [(hr.nxt h1 v hv hvi).2]
        have := (a3 v hv hvi).1
        omega
    obtain ⟨b, hb⟩ : ∃ b, b = best r.l r.h.tm (max (mt' ((r.id + 1) % 3)) (mt' ((r.id + 2) % 3))) r.cm r.l.length := ⟨_, rfl⟩
    have hbc : (b.toNat = 0 ∨ ∃ T n, Comtd s T n ∧ b.toNat ≤ n ∧ T ≤ s.term i ∧ Pre (s.log i) (s.ldl T) b.toNat) ∧ b = (b.toNat : Int) := by
      rcases best_spec r.l r.h.tm (max (mt' ((r.id + 1) % 3)) (mt' ((r.id + 2) % 3))) r.cm r.l.length with w | ⟨x, w, x1, x2, x3, x4, x5⟩
      · rw [← hb, hr.cm] at w
        have e : b.toNat = s.comm i := by rw [w]; rfl
        rw [e]
        exact ⟨h.cm i hi, w⟩
      · rw [← hb] at w
        have e : b.toNat = x := by rw [w]; rfl
        rw [e]
        refine ⟨Or.inr ⟨s.term i, x, ⟨hl, x1, by rw [a2, hr.l]; exact x2, by rw [a2, hr.l, x3, hr.tm], ?_⟩, Nat.le_refl _, Int.le_refl _, ?_⟩, w⟩
        · rw [hr.id] at x4
          have u1 : isId ((i + 1) % 3) ∧ (i + 1) % 3 ≠ i := by unfold isId at *; omega
          have u2 : isId ((i + 2) % 3) ∧ (i + 2) % 3 ≠ i := by unfold isId at *; omega
          have y1 := hmacc _ u1.1 u1.2
          have y2 := hmacc _ u2.1 u2.2
          rcases Int.le_total (mt' ((i + 1) % 3)) (mt' ((i + 2) % 3)) with z | z
          · exact ⟨_, u2.1, by rw [a1]; exact u2.2, by omega⟩
          · exact ⟨_, u1.1, by rw [a1]; exact u1.2, by omega⟩
        · rw [a2]
          exact Pre.refl (by rw [hr.l]; exact x2)
    obtain ⟨s', k1, k2, k3, k4⟩ := key (max (s.mat i m.fr) n) (max (s.mat i m.fr) n + 1) b.toNat (mt' m.fr + 1) b mt' hmx (Nat.succ_pos _) (Nat.succ_le_succ (Nat.le_trans hmx hma)) hbc.1 (by rw [hmf]; push_cast; rfl) hbc.2 hmo
    show Does s i (if upd r.nxt m.fr (upd r.mat m.fr (max (r.mat m.fr) m.ix) m.fr + 1) m.fr ≤ _ then _ else _ : R × Out).1 (if upd r.nxt m.fr (upd r.mat m.fr (max (r.mat m.fr) m.ix) m.fr + 1) m.fr ≤ _ then _ else _ : R × Out).2.send
    rw [← hmt', ← hb]
    split
    · refine ⟨s', k1, k2, k3, k4, fun x hx => ?_⟩
      obtain rfl := List.mem_singleton.1 hx
      exact ents_good k1 hi k3 h1 hg.1 hfi
    · exact ⟨s', k1, k2, k3, k4, fun x hx => by cases hx⟩
  · rw [if_neg hy]
    obtain ⟨y, hyy⟩ : ∃ y, y = max (r.mat m.fr + 1) (min (r.nxt m.fr - 1) (m.ix + 1)) := ⟨_, rfl⟩
    obtain ⟨s', k1, k2, k3, k4⟩ := key (s.mat i m.fr) y.toNat (s.comm i) y r.cm r.mat m1 (by omega) (by omega) (h.cm i hi) (by omega) hr.cm (fun v hv hvi => by
      split
      · next q => subst q; exact n2
      · rfl)
    show Does s i { r with nxt := upd r.nxt m.fr (max (r.mat m.fr + 1) (min (r.nxt m.fr - 1) (m.ix + 1))) } [ents { r with nxt := upd r.nxt m.fr (max (r.mat m.fr + 1) (min (r.nxt m.fr - 1) (m.ix + 1))) } m.fr]
    rw [← hyy]
    refine ⟨s', k1, k2, k3, k4, fun x hx => ?_⟩
    obtain rfl := List.mem_singleton.1 hx
    exact ents_good k1 hi k3 h1 hg.1 hfi

/-! ### Any message -/
theorem later_sim {i : Int} {r : R} (m : Msg) (h : Inv s) (hr : Rel s i r) : Does s i (later r m) [] := by
  unfold later
  split
  · next c =>
    have hc : s.term i < m.tm := by rw [hr.tm]; exact c
    refine ⟨bump s i m.tm, h.bump hc, bump_ext s hc, ⟨hr.id, upd_same _ _ _, upd_same _ _ _, hr.l, upd_same _ _ _, hr.cm, hr.votes, (fun k => by cases k), (fun k => by cases k)⟩, fun j hj => ⟨upd_ne _ _ hj, upd_ne _ _ hj, rfl, upd_ne _ _ hj, rfl, rfl, rfl, rfl⟩, fun x hx => by cases hx⟩
  · exact Does.of h hr (fun x hx => by cases hx)
theorem right_of {id : Int} {m : Msg} (h : right id m = true) : 0 ≤ m.k ∧ m.k ≤ 3 ∧ m.dst = id ∧ m.fr ≠ id ∧ 1 ≤ m.tm ∧ m.tm ≤ 1099511627776 ∧ 0 ≤ m.ix ∧ m.ix + m.rs.length ≤ 4000 ∧ m.pv ≤ m.tm ∧ sound m.rs (max 1 m.pv) m.tm = true := by
  unfold right at h
  rw [Bool.and_eq_true, decide_eq_true_eq] at h
  obtain ⟨⟨a1, a2, a3, a4, a5, a6, a7, a8, a9, a10, a11, a12, a13, a14, a15, a16, a17⟩, b⟩ := h
  exact ⟨a1, a2, a3, a4, a7, a8, a9, a17, a12, b⟩
theorem hear_sim {i : Int} {r : R} {m : Msg} (h : Inv s) (hi : isId i) (hr : Rel s i r) (hg : Good s m) : Does s i (hearR r m).1 (hearR r m).2.send := by
  unfold hearR
  by_cases h0 : right r.id m = false
  · rw [if_pos h0]; exact Does.of h hr (fun x hx => by cases hx)
  rw [if_neg h0]
  have h0 : right r.id m = true := by simpa using h0
  obtain ⟨a1, a2, a3, a4, a5, a6, a7, a8, _⟩ := right_of h0
  have hid : (later r m).id = r.id := by unfold later; split <;> rfl
  have htm : m.tm ≤ (later r m).h.tm := by
    unfold later
    split
    · exact Int.le_refl _
    · next c => exact Int.not_lt.1 c
  have hk : Does s i (kindR (later r m) m).1 (kindR (later r m) m).2.send := by
    refine Does.then (later_sim m h hr) (fun s' h' e' hr' => ?_)
    have hg' := hg.ext e'
    unfold kindR
    split
    · next k => exact vote_sim h' hi hr' hg' k
    split
    · next k => exact voted_sim h' hi hr' hg' k (by rw [hid]; exact a3)
    split
    · next k => exact append_sim h' hi hr' hg' k (by rw [hid]; exact a4) htm
    · next k0 k1 k2 => exact appended_sim h' hi hr' hg' (by omega) (by rw [hid]; exact a4)
  show Does s i (kindR (later r m) m).1 (if (kindR (later r m) m).1.h = r.h then (kindR (later r m) m).2 else { (kindR (later r m) m).2 with save := true, h := (kindR (later r m) m).1.h }).send
  split
  · exact hk
  · exact hk
end Rp
end Go.Proofs.Ytoghaogcekappaa

namespace Go.Proofs.Ytoghaogcekappaa
namespace Rp
variable {s s' : St}

/-- The log that is stored, after a result. -/
def put (l : List Rec) (o : Out) : List Rec := if 0 < o.fr then l.take (min (o.fr - 1) (l.length : Int)).toNat ++ o.rs else l
structure Keeps (r r' : R) (o : Out) : Prop where
  h : (if o.save = true then o.h else r.h) = r'.h
  l : put r.l o = r'.l
theorem take_put (l : List Rec) (n : Nat) : l.take (min (n : Int) (l.length : Int)).toNat = l.take n := by
  have : (min (n : Int) (l.length : Int)).toNat = min n l.length := by omega
  rw [this, List.take_eq_take_min (i := n)]
theorem tick_keeps (r : R) : Keeps r (tickR r).1 (tickR r).2 := by
  unfold tickR
  split
  · exact ⟨rfl, rfl⟩
  split
  · exact ⟨rfl, rfl⟩
  · exact ⟨rfl, rfl⟩
theorem propose_keeps (r : R) (d : List UInt8) : Keeps r (proposeR r d).1 (proposeR r d).2.2.2 := by
  unfold proposeR
  split
  · exact ⟨rfl, rfl⟩
  split
  · exact ⟨rfl, rfl⟩
  split
  · exact ⟨rfl, rfl⟩
  · refine ⟨rfl, ?_⟩
    show (if 0 < (r.l.length : Int) + 1 then r.l.take (min ((r.l.length : Int) + 1 - 1) (r.l.length : Int)).toNat ++ [⟨r.h.tm, d⟩] else r.l) = r.l ++ [⟨r.h.tm, d⟩]
    rw [if_pos (by omega), Int.add_sub_cancel, take_put, List.take_length]
theorem kind_keeps (r : R) {m : Msg} (h0 : 0 ≤ m.ix) : (kindR r m).2.save = false ∧ put r.l (kindR r m).2 = (kindR r m).1.l := by
  unfold kindR
  split
  · unfold voteR
    split
    · exact ⟨rfl, rfl⟩
    · exact ⟨rfl, rfl⟩
  split
  · unfold votedR
    split
    · show (if cnt _ < 2 then _ else _ : R × Out).2.save = false ∧ put r.l (if cnt _ < 2 then _ else _ : R × Out).2 = (if cnt _ < 2 then _ else _ : R × Out).1.l
      split
      · exact ⟨rfl, rfl⟩
      · exact ⟨rfl, rfl⟩
    · exact ⟨rfl, rfl⟩
  split
  · unfold appendR
    split
    · exact ⟨rfl, rfl⟩
    split
    · exact ⟨rfl, rfl⟩
    split
    · exact ⟨rfl, rfl⟩
    obtain ⟨k, hk⟩ : ∃ k, agree r.l m.ix.toNat m.rs = k := ⟨_, rfl⟩
    rw [hk]
    show (if k < m.rs.length then _ else _ : R × Out).2.save = false ∧ put r.l (if k < m.rs.length then _ else _ : R × Out).2 = (if k < m.rs.length then _ else _ : R × Out).1.l
    split
    · split
      · exact ⟨rfl, rfl⟩
      · refine ⟨rfl, ?_⟩
        show (if 0 < m.ix + (k : Int) + 1 then r.l.take (min (m.ix + (k : Int) + 1 - 1) (r.l.length : Int)).toNat ++ m.rs.drop k else r.l) = r.l.take (m.ix.toNat + k) ++ m.rs.drop k
        have e : m.ix + (k : Int) = ((m.ix.toNat + k : Nat) : Int) := by omega
        rw [if_pos (by omega), Int.add_sub_cancel, e, take_put]
    · exact ⟨rfl, rfl⟩
  · unfold appendedR
    split
    · split
      · split
        · exact ⟨rfl, rfl⟩
        · show (if _ ≤ (r.l.length : Int) then _ else _ : R × Out).2.save = false ∧ put r.l (if _ ≤ (r.l.length : Int) then _ else _ : R × Out).2 = (if _ ≤ (r.l.length : Int) then _ else _ : R × Out).1.l
          split
          · exact ⟨rfl, rfl⟩
          · exact ⟨rfl, rfl⟩
      · exact ⟨rfl, rfl⟩
    · exact ⟨rfl, rfl⟩
theorem later_l (r : R) (m : Msg) : (later r m).l = r.l := by unfold later; split <;> rfl
theorem hear_keeps (r : R) (m : Msg) : Keeps r (hearR r m).1 (hearR r m).2 := by
  unfold hearR
  by_cases h0 : right r.id m = false
  · rw [if_pos h0]; exact ⟨rfl, rfl⟩
  rw [if_neg h0]
  have h0 : right r.id m = true := by simpa using h0
  obtain ⟨_, _, _, _, _, _, a7, _⟩ := right_of h0
  obtain ⟨k1, k2⟩ := kind_keeps (later r m) a7
  rw [later_l] at k2
  show Keeps r (kindR (later r m) m).1 (if (kindR (later r m) m).1.h = r.h then (kindR (later r m) m).2 else { (kindR (later r m) m).2 with save := true, h := (kindR (later r m) m).1.h })
  split
  · next c => exact ⟨by rw [k1]; exact c.symm, k2⟩
  · exact ⟨rfl, k2⟩

/-! ### What is stored is right -/
structure Okr (r : R) : Prop where
  tm : r.h.tm ≤ 1099511627776
  vt : -1 ≤ r.h.vt ∧ r.h.vt ≤ 2
  l : r.l.length ≤ 4000
  d : ∀ x ∈ r.l, x.d.length ≤ 2000
  mn : r.role = 2 → ∀ v, r.mat v < r.nxt v
theorem sound_of : ∀ (L : List Rec) (least most : Int), (∀ k, 1 ≤ k → k ≤ L.length → least ≤ tAt L k ∧ tAt L k ≤ most) → (∀ j k, 1 ≤ j → j ≤ k → k ≤ L.length → tAt L j ≤ tAt L k) → (∀ x ∈ L, x.d.length ≤ 2000) → sound L least most = true
  | [], _, _, _, _, _ => rfl
  | x :: l, least, most, h1, h2, h3 => by
    have e1 : tAt (x :: l) 1 = x.t := rfl
    have es : ∀ k, 1 ≤ k → tAt (x :: l) (k + 1) = tAt l k := fun k hk => by
      unfold tAt
      rw [if_neg (by omega), if_neg (by omega)]
      obtain ⟨k', rfl⟩ : ∃ k', k = k' + 1 := ⟨k - 1, by omega⟩
      rfl
    have a := h1 1 (Nat.le_refl _) (by simp)
    rw [e1] at a
    have b := h3 x (List.mem_cons_self ..)
    unfold sound
    rw [if_neg (by omega)]
    refine sound_of l x.t most (fun k k1 k2 => ?_) (fun j k j1 j2 j3 => ?_) (fun y hy => h3 y (List.mem_cons_of_mem _ hy))
    · rw [← es k k1, ← e1]
      exact ⟨h2 1 (k + 1) (Nat.le_refl _) (by omega) (by simp; exact k2), (h1 (k + 1) (by omega) (by simp; exact k2)).2⟩
    · rw [← es j j1, ← es k (by omega)]
      exact h2 (j + 1) (k + 1) (by omega) (by omega) (by simp; exact j3)
theorem sound_d : ∀ (L : List Rec) (least most : Int), sound L least most = true → ∀ x ∈ L, x.d.length ≤ 2000
  | [], _, _, _, x, hx => by cases hx
  | y :: l, least, most, h, x, hx => by
    unfold sound at h
    split at h
    · cases h
    · next c =>
      rcases List.mem_cons.1 hx with q | q
      · subst q; omega
      · exact sound_d l y.t most h x q
theorem new_ok {i : Int} {r : R} (h : Inv s) (hi : isId i) (hr : Rel s i r) (ho : Okr r) : newR i r.h r.l = some ⟨i, r.h, r.l, 0, 0, fun _ => false, fun _ => 0, fun _ => 0⟩ := by
  have hs : sound r.l 1 r.h.tm = true := by
    have ok := h.okLog i hi
    rw [hr.l] at ok
    refine sound_of r.l 1 r.h.tm (fun k k1 k2 => ⟨(ok k k1 k2).1, ?_⟩) (fun j k j1 j2 j3 => (ok k (by omega) j3).2.2.2 j j1 j2) ho.d
    have := h.logT i k hi k1 (by rw [hr.l]; exact k2)
    rw [hr.l, hr.tm] at this
    exact this
  have h0 := h.t0 i
  rw [hr.tm] at h0
  have := ho.tm
  have := ho.vt
  have := ho.l
  unfold isId at hi
  unfold newR
  rw [hs, if_neg]
  rintro (c | c | c | c | c | c | c | c)
  · omega
  · omega
  · omega
  · omega
  · omega
  · omega
  · omega
  · cases c
theorem tick_okr {r : R} (hi : isId r.id) (ho : Okr r) : Okr (tickR r).1 := by
  unfold tickR
  split
  · exact ho
  split
  · exact ho
  · next c =>
    have := ho.tm
    unfold isId at hi
    exact ⟨by show r.h.tm + 1 ≤ 1099511627776; omega, by show -1 ≤ r.id ∧ r.id ≤ 2; omega, ho.l, ho.d, fun k => by cases k⟩
theorem propose_okr {r : R} (ho : Okr r) (d : List UInt8) : Okr (proposeR r d).1 := by
  unfold proposeR
  split
  · exact ho
  split
  · exact ho
  split
  · exact ho
  · next c1 c2 =>
    have := ho.l
    refine ⟨ho.tm, ho.vt, ?_, fun x hx => ?_, ho.mn⟩
    · show (r.l ++ [(⟨r.h.tm, d⟩ : Rec)]).length ≤ 4000
      rw [List.length_append, List.length_singleton]
      omega
    · rcases List.mem_append.1 hx with q | q
      · exact ho.d x q
      · obtain rfl := List.mem_singleton.1 q
        exact Nat.not_lt.1 c1
theorem append_l {r : R} {m : Msg} : (appendR r m).1.l = r.l ∨ ∃ k, k ≤ m.rs.length ∧ (appendR r m).1.l = r.l.take (m.ix.toNat + k) ++ m.rs.drop k := by
  unfold appendR
  split
  · exact Or.inl rfl
  split
  · exact Or.inl rfl
  split
  · exact Or.inl rfl
  obtain ⟨k, hk⟩ : ∃ k, agree r.l m.ix.toNat m.rs = k := ⟨_, rfl⟩
  rw [hk]
  show (if k < m.rs.length then _ else _ : R × Out).1.l = r.l ∨ ∃ k', k' ≤ m.rs.length ∧ (if k < m.rs.length then _ else _ : R × Out).1.l = r.l.take (m.ix.toNat + k') ++ m.rs.drop k'
  by_cases c : k < m.rs.length
  · rw [if_pos c]
    by_cases c2 : m.ix + (k : Int) + 1 ≤ r.cm
    · rw [if_pos c2]; exact Or.inl rfl
    · rw [if_neg c2]; exact Or.inr ⟨k, Nat.le_of_lt c, rfl⟩
  · rw [if_neg c]; exact Or.inl rfl
theorem append_h {r : R} {m : Msg} : (appendR r m).1.h = r.h := by
  unfold appendR
  split
  · rfl
  split
  · rfl
  split
  · rfl
  obtain ⟨k, hk⟩ : ∃ k, agree r.l m.ix.toNat m.rs = k := ⟨_, rfl⟩
  rw [hk]
  show (if k < m.rs.length then _ else _ : R × Out).1.h = r.h
  split
  · split
    · rfl
    · rfl
  · rfl
theorem append_mn {r : R} {m : Msg} (h : r.role = 2 → ∀ v, r.mat v < r.nxt v) : (appendR r m).1.role = 2 → ∀ v, (appendR r m).1.mat v < (appendR r m).1.nxt v := by
  unfold appendR
  split
  · exact h
  split
  · exact h
  split
  · intro k; cases k
  obtain ⟨k, hk⟩ : ∃ k, agree r.l m.ix.toNat m.rs = k := ⟨_, rfl⟩
  rw [hk]
  show (if k < m.rs.length then _ else _ : R × Out).1.role = 2 → ∀ v, (if k < m.rs.length then _ else _ : R × Out).1.mat v < (if k < m.rs.length then _ else _ : R × Out).1.nxt v
  by_cases c : k < m.rs.length
  · rw [if_pos c]
    split
    · intro k; cases k
    · intro k; cases k
  · rw [if_neg c]; intro k; cases k
theorem kind_okr {r : R} {id : Int} {m : Msg} (hm : right id m = true) (ho : Okr r) : Okr (kindR r m).1 := by
  unfold right at hm
  rw [Bool.and_eq_true, decide_eq_true_eq] at hm
  obtain ⟨⟨a1, a2, a3, a4, a5, a6, a7, a8, a9, a10, a11, a12, a13, a14, a15, a16, a17⟩, b⟩ := hm
  unfold kindR
  split
  · unfold voteR
    split
    · exact ⟨ho.tm, by show -1 ≤ m.fr ∧ m.fr ≤ 2; omega, ho.l, ho.d, ho.mn⟩
    · exact ho
  split
  · unfold votedR
    split
    · show Okr (if cnt _ < 2 then _ else _ : R × Out).1
      split
      · exact ⟨ho.tm, ho.vt, ho.l, ho.d, ho.mn⟩
      · exact ⟨ho.tm, ho.vt, ho.l, ho.d, fun _ v => by show (0 : Int) < (r.l.length : Int) + 1; omega⟩
    · exact ho
  split
  · have hh := append_h (r := r) (m := m)
    rcases append_l (r := r) (m := m) with q | ⟨k, k1, q⟩
    · exact ⟨by rw [hh]; exact ho.tm, by rw [hh]; exact ho.vt, by rw [q]; exact ho.l, by rw [q]; exact ho.d, append_mn ho.mn⟩
    · refine ⟨by rw [hh]; exact ho.tm, by rw [hh]; exact ho.vt, ?_, ?_, append_mn ho.mn⟩
      · rw [q, List.length_append, List.length_take, List.length_drop]
        omega
      · rw [q]
        intro x hx
        rcases List.mem_append.1 hx with w | w
        · exact ho.d x (List.mem_of_mem_take w)
        · exact sound_d _ _ _ b x (List.mem_of_mem_drop w)
  · unfold appendedR
    split
    · split
      · split
        · exact ho
        · have hup : r.role = 2 → ∀ v, upd r.mat m.fr (max (r.mat m.fr) m.ix) v < upd r.nxt m.fr (upd r.mat m.fr (max (r.mat m.fr) m.ix) m.fr + 1) v := fun k v => by
            by_cases q : v = m.fr
            · subst q; rw [upd_same, upd_same]; omega
            · rw [upd_ne _ _ q, upd_ne _ _ q]; exact ho.mn k v
          show Okr (if _ ≤ (r.l.length : Int) then _ else _ : R × Out).1
          split
          · exact ⟨ho.tm, ho.vt, ho.l, ho.d, hup⟩
          · exact ⟨ho.tm, ho.vt, ho.l, ho.d, hup⟩
      · refine ⟨ho.tm, ho.vt, ho.l, ho.d, fun k v => ?_⟩
        show r.mat v < upd r.nxt m.fr (max (r.mat m.fr + 1) (min (r.nxt m.fr - 1) (m.ix + 1))) v
        by_cases q : v = m.fr
        · subst q; rw [upd_same]; omega
        · rw [upd_ne _ _ q]; exact ho.mn k v
    · exact ho
theorem hear_okr {r : R} (m : Msg) (ho : Okr r) : Okr (hearR r m).1 := by
  unfold hearR
  by_cases h0 : right r.id m = false
  · rw [if_pos h0]; exact ho
  rw [if_neg h0]
  have h0 : right r.id m = true := by simpa using h0
  refine kind_okr h0 ?_
  obtain ⟨_, _, _, _, _, a6, _⟩ := right_of h0
  unfold later
  split
  · exact ⟨a6, by show (-1 : Int) ≤ -1 ∧ (-1 : Int) ≤ 2; omega, ho.l, ho.d, fun k => by cases k⟩
  · exact ho
end Rp
end Go.Proofs.Ytoghaogcekappaa

namespace Go.Proofs.Ytoghaogcekappaa
namespace Rp
variable {s s' : St}

structure Cl where
  r : Int → R
  hd : Int → Hard
  lg : Int → List Rec
  st : Int → Int
  sent : List Msg
def startC (x : Cl) (i : Int) : Option Cl := (newR i (x.hd i) (x.lg i)).map fun r => { x with st := upd x.st i 0, r := upd x.r i r }
/-- What the result of a call says: the replica is r' then. -/
def doneC (x : Cl) (i : Int) (r' : R) (o : Out) : Option Cl :=
  if x.st i = 1 then startC { x with r := upd x.r i r' } i else
  let x1 : Cl := { x with r := upd x.r i r', hd := if o.save = true then upd x.hd i o.h else x.hd, lg := upd x.lg i (put (x.lg i) o) }
  if x.st i = 2 then startC x1 i else some { x1 with sent := x1.sent ++ o.send.take (300 - x1.sent.length) }
def arriveC (x : Cl) (n : Nat) (keep : Bool) : Option Cl :=
  match x.sent[n]? with
  | none => some x
  | some m =>
    let x1 : Cl := if keep = true then x else { x with sent := x.sent.eraseIdx n }
    doneC x1 (m.dst % 3) (hearR (x1.r (m.dst % 3)) m).1 (hearR (x1.r (m.dst % 3)) m).2
/-- What a cluster and the state beside it have in common. -/
structure Sim (s : St) (x : Cl) : Prop where
  inv : Inv s
  rel : ∀ i, isId i → Rel s i (x.r i)
  okr : ∀ i, isId i → Okr (x.r i)
  hd : ∀ i, isId i → x.hd i = (x.r i).h
  lg : ∀ i, isId i → x.lg i = (x.r i).l
  good : ∀ m ∈ x.sent, Good s m
/-- An operation goes on, and keeps what holds. -/
def Next (s : St) (o : Option Cl) : Prop := ∃ x' s', o = some x' ∧ Sim s' x' ∧ Ext s s'
theorem new_okr {i : Int} {r : R} (ho : Okr r) : Okr ⟨i, r.h, r.l, 0, 0, fun _ => false, fun _ => 0, fun _ => 0⟩ := ⟨ho.tm, ho.vt, ho.l, ho.d, fun k => by cases k⟩
theorem Sim.same {x : Cl} (h : Sim s x) (i : Int) {r' : R} {hd' : Int → Hard} {lg' : Int → List Rec} {st' : Int → Int} {sent' : List Msg} (hI : Inv s') (hr : Rel s' i r') (ho : Okr r') (hj : ∀ j, j ≠ i → Same j s s')
    (h1 : hd' i = r'.h) (h2 : lg' i = r'.l) (h3 : ∀ j, j ≠ i → hd' j = x.hd j) (h4 : ∀ j, j ≠ i → lg' j = x.lg j) (hs : ∀ m ∈ sent', Good s' m) : Sim s' ⟨upd x.r i r', hd', lg', st', sent'⟩ := by
  refine ⟨hI, fun j jd => ?_, fun j jd => ?_, fun j jd => ?_, fun j jd => ?_, hs⟩
  · show Rel s' j (upd x.r i r' j)
    by_cases q : j = i
    · subst q; rw [upd_same]; exact hr
    · rw [upd_ne _ _ q]; exact (hj j q).rel (h.rel j jd)
  · show Okr (upd x.r i r' j)
    by_cases q : j = i
    · subst q; rw [upd_same]; exact ho
    · rw [upd_ne _ _ q]; exact h.okr j jd
  · show hd' j = (upd x.r i r' j).h
    by_cases q : j = i
    · subst q; rw [upd_same]; exact h1
    · rw [upd_ne _ _ q, h3 j q]; exact h.hd j jd
  · show lg' j = (upd x.r i r' j).l
    by_cases q : j = i
    · subst q; rw [upd_same]; exact h2
    · rw [upd_ne _ _ q, h4 j q]; exact h.lg j jd
theorem start_next {x : Cl} {i : Int} {r : R} (h : Sim s x) (hi : isId i) (r' : Int → R) (st : Int → Int) (h0 : ∀ j, j ≠ i → r' j = x.r j) (hd : x.hd i = r.h) (lg : x.lg i = r.l) (hr : Rel s i r) (ho : Okr r) : Next s (startC { x with r := r', st := st } i) := by
  have hn := new_ok h.inv hi hr ho
  obtain ⟨s', a, b, c, d, _⟩ := restart_sim h.inv hr hn
  have hu : ∀ q : R, upd r' i q = upd x.r i q := fun q => by
    funext j
    by_cases e : j = i
    · subst e; rw [upd_same, upd_same]
    · rw [upd_ne _ _ e, upd_ne _ _ e, h0 j e]
  refine ⟨_, s', ?_, h.same i (hd' := x.hd) (lg' := x.lg) (st' := upd st i 0) a c (new_okr ho) d hd lg (fun _ _ => rfl) (fun _ _ => rfl) (fun m hm => (h.good m hm).ext b), b⟩
  unfold startC
  show (newR i (x.hd i) (x.lg i)).map _ = _
  rw [hd, lg, hn]
  show some _ = some _
  rw [← hu]
theorem Next.ext {o : Option Cl} (e : Ext s s') (h : Next s' o) : Next s o := by
  obtain ⟨x, t, a, b, c⟩ := h
  exact ⟨x, t, a, b, e.trans c⟩
/-- A call, and what is done with its result. -/
theorem done_next {x : Cl} {i : Int} {r' : R} {o : Out} (h : Sim s x) (hi : isId i) (hd : Does s i r' o.send) (hk : Keeps (x.r i) r' o) (ho : Okr r') : Next s (doneC x i r' o) := by
  unfold doneC
  by_cases h1 : x.st i = 1
  · rw [if_pos h1]
    exact start_next h hi _ _ (fun j hj => upd_ne _ _ hj) (h.hd i hi) (h.lg i hi) (h.rel i hi) (h.okr i hi)
  rw [if_neg h1]
  obtain ⟨s1, a, b, c, d, e⟩ := hd
  have hh : (if o.save = true then upd x.hd i o.h else x.hd) i = r'.h := by
    rw [← hk.h]
    split
    · exact upd_same _ _ _
    · exact h.hd i hi
  have hl : upd x.lg i (put (x.lg i) o) i = r'.l := by rw [upd_same, h.lg i hi]; exact hk.l
  have hho : ∀ j, j ≠ i → (if o.save = true then upd x.hd i o.h else x.hd) j = x.hd j := fun j hj => by
    split
    · exact upd_ne _ _ hj
    · rfl
  have hlo : ∀ j, j ≠ i → upd x.lg i (put (x.lg i) o) j = x.lg j := fun j hj => upd_ne _ _ hj
  have hS : ∀ sent', (∀ m ∈ sent', Good s1 m) → Sim s1 ⟨upd x.r i r', (if o.save = true then upd x.hd i o.h else x.hd), upd x.lg i (put (x.lg i) o), x.st, sent'⟩ := fun sent' hs => h.same i a c ho d hh hl hho hlo hs
  show Next s (if x.st i = 2 then _ else _)
  by_cases h2 : x.st i = 2
  · rw [if_pos h2]
    exact Next.ext b (start_next (hS x.sent fun m hm => (h.good m hm).ext b) hi _ _ (fun _ _ => rfl) hh hl c ho)
  · rw [if_neg h2]
    refine ⟨_, s1, rfl, hS _ (fun m hm => ?_), b⟩
    rcases List.mem_append.1 hm with q | q
    · exact (h.good m q).ext b
    · exact e m (List.mem_of_mem_take q)
theorem tick_next {x : Cl} {i : Int} (h : Sim s x) (hi : isId i) : Next s (doneC x i (tickR (x.r i)).1 (tickR (x.r i)).2) :=
  done_next h hi (tick_sim h.inv hi (h.rel i hi)) (tick_keeps _) (tick_okr (by rw [(h.rel i hi).id]; exact hi) (h.okr i hi))
theorem propose_next {x : Cl} {i : Int} (h : Sim s x) (hi : isId i) (d : List UInt8) : Next s (doneC x i (proposeR (x.r i) d).1 (proposeR (x.r i) d).2.2.2) :=
  done_next h hi (propose_sim h.inv hi (h.rel i hi) d) (propose_keeps _ d) (propose_okr (h.okr i hi) d)
theorem Sim.fewer {x : Cl} {sent' : List Msg} (h : Sim s x) (hs : ∀ m ∈ sent', m ∈ x.sent) : Sim s { x with sent := sent' } := ⟨h.inv, h.rel, h.okr, h.hd, h.lg, fun m hm => h.good m (hs m hm)⟩
theorem Sim.stop {x : Cl} (h : Sim s x) (st' : Int → Int) : Sim s { x with st := st' } := ⟨h.inv, h.rel, h.okr, h.hd, h.lg, h.good⟩
theorem Sim.here {x : Cl} (h : Sim s x) : Next s (some x) := ⟨x, s, rfl, h, Ext.refl s⟩
theorem restart_next {x : Cl} {i : Int} (h : Sim s x) (hi : isId i) : Next s (startC x i) :=
  start_next (r := x.r i) h hi x.r x.st (fun _ _ => rfl) (h.hd i hi) (h.lg i hi) (h.rel i hi) (h.okr i hi)
theorem arrive_next {x : Cl} (h : Sim s x) (n : Nat) (keep : Bool) : Next s (arriveC x n keep) := by
  unfold arriveC
  split
  · exact h.here
  · next m hm =>
    have hmem := List.mem_of_getElem? hm
    have hg := h.good m hmem
    have hd : m.dst % 3 = m.dst := by have := hg.2.1; unfold isId at this; omega
    rw [hd]
    have h1 : Sim s (if keep = true then x else { x with sent := x.sent.eraseIdx n }) := by
      split
      · exact h
      · exact h.fewer (fun y hy => List.mem_of_mem_eraseIdx hy)
    show Next s (doneC (if keep = true then x else { x with sent := x.sent.eraseIdx n }) m.dst _ _)
    exact done_next h1 hg.2.1 (hear_sim h1.inv hg.2.1 (h1.rel _ hg.2.1) hg) (hear_keeps _ _) (hear_okr m (h1.okr _ hg.2.1))

/-! ### The beginning -/
def s0 : St := ⟨fun _ => 0, fun _ => -1, fun _ => 0, fun _ => [], fun _ => 0, fun _ _ => false, fun _ _ => 0, fun _ _ => 0, fun _ => -1, fun _ => [], fun _ _ => [], fun _ _ => -1, fun _ _ => 0⟩
theorem inv0 : Inv s0 := by
  have okn : ∀ s, OkL s [] := fun s k h1 h2 => by have : k ≤ 0 := h2; omega
  have hv : ∀ {c : Int}, isId c → ¬ (-1 : Int) = c := fun h e => by unfold isId at h; omega
  exact
  { t0 := fun _ => Int.le_refl _, vId := fun _ _ h => absurd rfl h, vT := fun _ _ h => absurd rfl h, vNow := fun _ _ => rfl, vC := fun _ _ h => absurd rfl h, vPos := fun _ _ h => absurd rfl h
    lId := fun _ h => absurd rfl h, lQ := fun _ h => absurd rfl h, lGrow := fun _ h => absurd rfl h, lNew := fun _ _ h => absurd rfl h, clT := fun _ _ _ hc h => absurd h (hv hc)
    logT := fun _ k _ h1 h2 => by have : k ≤ 0 := h2; omega
    okLog := fun _ _ => okn _, okCl := fun _ _ _ _ => okn _, okLd := fun _ _ => okn _
    r1 := fun _ _ h => by have h : (0 : Int) = 1 := h; omega
    r2 := fun _ _ h => by have h : (0 : Int) = 2 := h; omega
    accL := fun _ _ h => absurd rfl h, an := fun _ _ => Pre.zero _ _, hasP := fun _ _ _ _ h => absurd rfl h.1, lc := fun _ _ _ _ h => absurd rfl h, vt := fun _ _ _ _ _ h => absurd rfl h, cm := fun _ _ => Or.inl rfl }
def beginC : Cl := ⟨fun i => ⟨i, ⟨0, -1⟩, [], 0, 0, fun _ => false, fun _ => 0, fun _ => 0⟩, fun _ => ⟨0, -1⟩, fun _ => [], fun _ => 0, []⟩
theorem begin_sim : Sim s0 beginC := by
  refine ⟨inv0, fun i _ => ⟨rfl, rfl, rfl, rfl, rfl, rfl, fun _ h => (by cases h), fun _ _ => rfl, fun h => (by have h : (0 : Int) = 2 := h; omega)⟩, fun i _ => ⟨?_, ?_, ?_, fun x hx => (by cases hx), fun k => (by cases k)⟩, fun _ _ => rfl, fun _ _ => rfl, fun m hm => by cases hm⟩
  · show (0 : Int) ≤ 1099511627776; omega
  · show (-1 : Int) ≤ -1 ∧ (-1 : Int) ≤ 2; omega
  · show 0 ≤ 4000; omega

/-! ### Committed, and leaders -/
/-- What is known to be committed, and the greatest term of one that had committed more. -/
def Known (s : St) (known : List Rec) (term : Int) : Prop := known = [] ∨ ∃ T n, Comtd s T n ∧ known.length ≤ n ∧ T ≤ term ∧ Pre known (s.ldl T) known.length
theorem Known.ext {known : List Rec} {term : Int} (e : Ext s s') (h : Known s known term) : Known s' known term := by
  rcases h with h | ⟨T, n, a, b, c, d⟩
  · exact Or.inl h
  · exact Or.inr ⟨T, n, e.comtd a, b, c, d.grow (e.ldl T a.1)⟩
theorem Sim.comm {x : Cl} (h : Sim s x) {i : Int} (hi : isId i) : ∃ c : Nat, (x.r i).cm = (c : Int) ∧ c ≤ (x.r i).l.length ∧ Known s ((x.r i).l.take c) (x.r i).h.tm := by
  have hr := h.rel i hi
  refine ⟨s.comm i, hr.cm, ?_, ?_⟩
  · rcases h.inv.cm i hi with q | ⟨T, n, _, _, _, q⟩
    · omega
    · rw [← hr.l]; exact q.1
  · rcases h.inv.cm i hi with q | ⟨T, n, a, b, c, q⟩
    · exact Or.inl (by rw [q]; rfl)
    · rw [hr.l, hr.tm] at *
      have hle := q.1
      have hlen : ((x.r i).l.take (s.comm i)).length = s.comm i := by rw [List.length_take]; omega
      refine Or.inr ⟨T, n, a, by rw [hlen]; exact b, c, ?_⟩
      rw [hlen]
      exact ⟨by rw [hlen]; exact Nat.le_refl _, q.2.1, by rw [List.take_take, Nat.min_self]; exact q.2.2⟩
theorem known_two {a b : List Rec} {p q : Int} (h : Inv s) (ha : Known s a p) (hb : Known s b q) : a.take (min a.length b.length) = b.take (min a.length b.length) := by
  rcases ha with ha | ⟨T, n, a1, a2, a3, a4⟩
  · subst ha; simp
  rcases hb with hb | ⟨T', n', b1, b2, b3, b4⟩
  · subst hb; simp
  have k1 := a4.mono (Nat.min_le_left a.length b.length)
  have k2 := b4.mono (Nat.min_le_right a.length b.length)
  have k3 : Pre (s.ldl T) (s.ldl T') (min a.length b.length) := by
    by_cases e : T = T'
    · rw [e]; rw [e] at k1; exact Pre.refl k1.2.1
    · rcases Int.le_total T T' with w | w
      · rcases comtd_two h a1 b1 w with z | z
        · exact (z.mono (by omega)).symm
        · exact absurd z e
      · rcases comtd_two h b1 a1 w with z | z
        · exact z.mono (by omega)
        · exact absurd z.symm e
  exact ((k1.trans k3).trans k2.symm).2.2
theorem Sim.leads {x : Cl} (h : Sim s x) {i : Int} (hi : isId i) (hr : (x.r i).role = 2) : s.ldr (x.r i).h.tm = i := by
  have k := h.rel i hi
  have := (h.inv.r2 i hi (by rw [k.role]; exact hr)).1
  rw [k.tm] at this
  exact this
theorem Sim.contains {x : Cl} (h : Sim s x) {i : Int} (hi : isId i) (hr : (x.r i).role = 2) {known : List Rec} {term : Int} (hk : Known s known term) (ht : term < (x.r i).h.tm) : known.length ≤ (x.r i).l.length ∧ known = (x.r i).l.take known.length := by
  rcases hk with hk | ⟨T, n, a, b, c, d⟩
  · subst hk; simp
  have hl := h.leads hi hr
  have k := h.rel i hi
  have hm := (h.inv.r2 i hi (by rw [k.role]; exact hr)).2.1
  rw [k.tm, k.l] at hm
  obtain ⟨a1, a2, a3, a4, _⟩ := id a
  have hT' : s.ldr (x.r i).h.tm ≠ -1 := by rw [hl]; exact isId_ne hi
  rcases h.inv.lc T (x.r i).h.tm n (by omega) a1 hT' a2 a3 a4 with w | w
  · have w2 := ((w.symm.grow (h.inv.lGrow _ hT')).symm).mono b
    rw [hm] at w2
    have w3 := d.trans w2.symm
    exact ⟨w3.2.1, by have := w3.2.2; rwa [List.take_length] at this⟩
  · exact absurd w (comtd_dead h.inv a)

/-! ### Logs that match; votes -/
theorem Sim.matches {x : Cl} (h : Sim s x) {i j : Int} (hi : isId i) (hj : isId j) {m : Nat} (h1 : m ≤ (x.r i).l.length) (h2 : m ≤ (x.r j).l.length) (h3 : tAt (x.r i).l m = tAt (x.r j).l m) : (x.r i).l.take m = (x.r j).l.take m := by
  have a := h.inv.okLog i hi
  have b := h.inv.okLog j hj
  rw [(h.rel i hi).l] at a
  rw [(h.rel j hj).l] at b
  exact (eqT a b h1 h2 h3).2.2
theorem Sim.terms {x x' : Cl} (h : Sim s x) (h' : Sim s' x') (e : Ext s s') {i : Int} (hi : isId i) : (x.r i).h.tm ≤ (x'.r i).h.tm := by
  rw [← (h.rel i hi).tm, ← (h'.rel i hi).tm]
  exact e.term i
theorem good_votes {m m' : Msg} (h : Good s m) (h' : Good s m') (k : m.k = 1) (k' : m'.k = 1) (y : m.yes = true) (y' : m'.yes = true) (hf : m.fr = m'.fr) (ht : m.tm = m'.tm) : m.dst = m'.dst := by
  rw [← h.2.2.2.1 k y, ← h'.2.2.2.1 k' y', hf, ht]
end Rp
end Go.Proofs.Ytoghaogcekappaa
