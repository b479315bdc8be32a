/-
  Steps of the replicated log that keep what holds: a vote; a new leader.
-/
import Derived.Test.YtkmojcpiadpbaaaGreatDoorRStep
namespace Go.Proofs.YtkmojcpiadpbaaaGreatDoor
namespace Rp
variable {s s' : St}
def lastT (l : List Rec) : Int := tAt l l.length
theorem tAt_zero (l : List Rec) : tAt l 0 = 0 := rfl
theorem Inv.clLd (h : Inv s) {T : Int} (hT : s.ldr T ≠ -1) {k : Nat} (hk : k ≤ (s.cl T (s.ldr T)).length) : tAt (s.ldl T) k = tAt (s.cl T (s.ldr T)) k := tAt_grow (h.lGrow T hT) hk
theorem Inv.ldT (h : Inv s) {T : Int} (hT : s.ldr T ≠ -1) {k : Nat} (h1 : 1 ≤ k) (h2 : k ≤ (s.ldl T).length) : tAt (s.ldl T) k ≤ T := by
  by_cases hk : k ≤ (s.cl T (s.ldr T)).length
  · rw [h.clLd hT hk]
    exact Int.le_of_lt (h.clT T _ k (h.lId T hT) (h.lQ T hT).1 h1 hk)
  · exact Int.le_of_eq (h.lNew T k hT (by omega) h2)
/-- A log that is up to date with another one has the entries that count of it. -/
theorem Inv.uptodate (h : Inv s) {L C : List Rec} (okL : OkL s L) (okC : OkL s C) {T0 : Int} {n : Nat} (hl : s.ldr T0 ≠ -1) (h1 : 1 ≤ n) (ht : tAt (s.ldl T0) n = T0) (hp : Pre L (s.ldl T0) n) (hu : lastT L < lastT C ∨ (lastT L = lastT C ∧ L.length ≤ C.length)) : Pre C (s.ldl T0) n ∨ dead s T0 n := by
  have hLn : n ≤ L.length := hp.1
  obtain ⟨a1, a2, a3, a4⟩ := okL L.length (by omega) (Nat.le_refl _)
  have hTL : T0 ≤ lastT L := by
    have := a4 n h1 hLn
    rw [hp.tAt (Nat.le_refl _), ht] at this
    exact this
  have hL1 : 1 ≤ lastT L := a1
  have hC1 : 1 ≤ lastT C := by omega
  have hC0 : 1 ≤ C.length := by
    rcases Nat.eq_zero_or_pos C.length with e | e
    · unfold lastT at hC1; rw [e, tAt_zero] at hC1; omega
    · exact e
  obtain ⟨b1, b2, b3, b4⟩ := okC C.length hC0 (Nat.le_refl _)
  by_cases e : T0 = lastT C
  · have hlen : L.length ≤ C.length := by
      rcases hu with hu | hu
      · omega
      · exact hu.2
    have e' : tAt C C.length = T0 := e.symm
    rw [e'] at b3
    exact Or.inl (b3.mono (by omega))
  · have hlt : T0 < lastT C := by omega
    have hnl : n ≤ (s.ldl T0).length := hp.2.1
    rcases h.lc T0 (lastT C) n hlt hl b2 h1 hnl ht with k | k
    · refine Or.inl ?_
      have hcl : (s.cl (lastT C) (s.ldr (lastT C))).length < C.length := by
        rcases Nat.lt_or_ge (s.cl (lastT C) (s.ldr (lastT C))).length C.length with q | q
        · exact q
        · exfalso
          have q1 := h.clLd b2 q
          have q2 := h.clT _ _ C.length (h.lId _ b2) (h.lQ _ b2).1 hC0 q
          have q3 := b3.tAt (Nat.le_refl C.length)
          rw [← q1, ← q3] at q2
          exact Int.lt_irrefl _ q2
      have hn2 : n ≤ C.length := by have := k.1; omega
      exact (b3.mono hn2).trans ((k.symm.grow (h.lGrow _ b2)).symm)
    · exact Or.inr k

/-! ### A vote -/
def grant (s : St) (i c : Int) : St := { s with vote := upd s.vote i c, V := fun a T => if a = i ∧ T = s.term i then c else s.V a T }
theorem grant_ext (h : Inv s) {i c : Int} (hi : isId i) (hv : s.vote i = -1 ∨ s.vote i = c) : Ext s (grant s i c) := by
  refine ⟨fun _ => Int.le_refl _, fun a T hv' => ?_, fun _ _ _ _ => rfl, fun _ _ => rfl, fun _ _ => List.prefix_refl _, fun _ _ => Nat.le_refl _, fun _ _ _ _ _ _ h => h⟩
  by_cases cc : a = i ∧ T = s.term i
  · obtain ⟨rfl, rfl⟩ := cc
    have : (grant s a c).V a (s.term a) = c := if_pos ⟨rfl, rfl⟩
    rw [this]
    rw [h.vNow a hi] at hv' ⊢
    rcases hv with q | q
    · exact absurd q hv'
    · exact q.symm
  · exact if_neg cc
theorem Inv.grant (h : Inv s) {i c : Int} (hi : isId i) (hc : isId c) (hv : s.vote i = -1 ∨ s.vote i = c) (hcand : s.V c (s.term i) = c)
    (hu : lastT (s.log i) < lastT (s.cl (s.term i) c) ∨ (lastT (s.log i) = lastT (s.cl (s.term i) c) ∧ (s.log i).length ≤ (s.cl (s.term i) c).length)) : Inv (grant s i c) := by
  have e := grant_ext h hi hv
  have hc' : c ≠ -1 := by unfold isId at hc; omega
  have hi' : i ≠ -1 := by unfold isId at hi; omega
  have hV : ∀ a T, (Rp.grant s i c).V a T ≠ -1 → (a = i ∧ T = s.term i ∧ (Rp.grant s i c).V a T = c) ∨ (¬ (a = i ∧ T = s.term i) ∧ s.V a T ≠ -1 ∧ (Rp.grant s i c).V a T = s.V a T) := fun a T hv => by
    by_cases cc : a = i ∧ T = s.term i
    · exact Or.inl ⟨cc.1, cc.2, if_pos cc⟩
    · have e1 : (Rp.grant s i c).V a T = s.V a T := if_neg cc
      exact Or.inr ⟨cc, by rw [← e1]; exact hv, e1⟩
  have hself : ∀ T d, isId d → (Rp.grant s i c).V d T = d → s.V d T = d := fun T d hd hv => by
    rcases hV d T (by rw [hv]; unfold isId at hd; omega) with ⟨rfl, rfl, q⟩ | ⟨_, _, q⟩
    · rw [q] at hv; subst hv; exact hcand
    · rw [← q]; exact hv
  exact
  { t0 := h.t0
    vId := fun a T hv => by
      rcases hV a T hv with ⟨rfl, _, h2⟩ | ⟨_, h2, h3⟩
      · rw [h2]; exact ⟨hi, hc⟩
      · rw [h3]; exact h.vId a T h2
    vT := fun a T hv => by
      rcases hV a T hv with ⟨rfl, h1, _⟩ | ⟨_, h2, _⟩
      · rw [h1]; exact Int.le_refl _
      · exact h.vT a T h2
    vNow := fun j hj => by
      by_cases ej : j = i
      · subst ej
        show (if j = j ∧ s.term j = s.term j then c else _) = upd s.vote j c j
        rw [if_pos ⟨rfl, rfl⟩, upd_same]
      · show (if j = i ∧ _ then c else s.V j (s.term j)) = upd s.vote i c j
        rw [if_neg (fun q => ej q.1), upd_ne _ _ ej]
        exact h.vNow j hj
    vC := fun a T hv => by
      rcases hV a T hv with ⟨rfl, rfl, h2⟩ | ⟨_, h2, h3⟩
      · rw [h2, e.V _ _ (by rw [hcand]; exact hc')]; exact hcand
      · rw [h3]
        have := h.vC a T h2
        rw [e.V _ _ (by rw [this]; exact h2)]
        exact this
    vPos := fun a T hv => by
      rcases hV a T hv with ⟨rfl, rfl, _⟩ | ⟨_, h2, _⟩
      · exact h.vPos c _ (by rw [hcand]; exact hc')
      · exact h.vPos a T h2
    lId := h.lId
    lQ := fun T hT => by
      obtain ⟨h1, v, h2, h3⟩ := h.lQ T hT
      exact ⟨by show (Rp.grant s i c).V (s.ldr T) T = s.ldr T; rw [e.V _ _ (by rw [h1]; exact hT)]; exact h1, v, h2, by show (Rp.grant s i c).V v T = s.ldr T; rw [e.V _ _ (by rw [h3]; exact hT)]; exact h3⟩
    lGrow := h.lGrow, lNew := h.lNew
    clT := fun T d k hd hv => h.clT T d k hd (hself T d hd hv)
    logT := h.logT, okLog := h.okLog
    okCl := fun T d hd hv => h.okCl T d hd (hself T d hd hv)
    okLd := h.okLd
    r1 := fun j hj hr => by
      obtain ⟨a, b, c', d⟩ := h.r1 j hj hr
      have hj' : j ≠ -1 := by unfold isId at hj; omega
      refine ⟨by show (Rp.grant s i c).V j (s.term j) = j; rw [e.V _ _ (by rw [a]; exact hj')]; exact a, b, c', fun v hv => ?_⟩
      have := d v hv
      show (Rp.grant s i c).V v (s.term j) = j
      rw [e.V _ _ (by rw [this]; exact hj')]; exact this
    r2 := h.r2, accL := h.accL, an := h.an, hasP := h.hasP, lc := h.lc
    vt := fun v T2 T1 n h1 h2 h3 h4 h5 => by
      rcases hV v T2 h2 with ⟨rfl, rfl, q⟩ | ⟨_, q1, q2⟩
      · rw [q]
        rcases h.hasP v T1 n h3 h4 h5 with k | k
        · exact h.uptodate (h.okLog v hi) (h.okCl _ c hc hcand) h4.1 h3 h5 k hu
        · exact Or.inr k
      · rw [q2]
        exact h.vt v T2 T1 n h1 q1 h3 h4 h5
    cm := h.cm }

/-! ### A leader -/
def lead (s : St) (i : Int) : St :=
  { s with role := upd s.role i 2, mat := upd s.mat i (fun _ => 0), nxt := upd s.nxt i (fun _ => (s.log i).length + 1)
           ldr := upd s.ldr (s.term i) i, ldl := upd s.ldl (s.term i) (s.log i) }
theorem Inv.noLeader (h : Inv s) {i a b : Int} (hi : isId i) (hr : s.role i = 1) (hab : a ≠ b) (ha : s.V a (s.term i) = i) (hb : s.V b (s.term i) = i) : s.ldr (s.term i) = -1 := by
  by_cases e : s.ldr (s.term i) = -1
  · exact e
  · exfalso
    have hi' : i ≠ -1 := by unfold isId at hi; omega
    obtain ⟨h1, v, h2, h3⟩ := h.lQ _ e
    have ia := (h.vId a _ (by rw [ha]; exact hi')).1
    have ib := (h.vId b _ (by rw [hb]; exact hi')).1
    have iv := (h.vId v _ (by rw [h3]; exact e)).1
    have hne := (h.r1 i hi hr).2.2.1
    rcases meet ia ib (h.lId _ e) iv hab (fun q => h2 q.symm) with q | q | q | q
    · rw [← q, ha] at h1; exact hne (q.symm.trans h1.symm)
    · rw [← q, ha] at h3; exact hne h3.symm
    · rw [← q, hb] at h1; exact hne (q.symm.trans h1.symm)
    · rw [← q, hb] at h3; exact hne h3.symm
theorem Inv.noAcc (h : Inv s) {T : Int} (hT : s.ldr T = -1) (a : Int) : s.acc a T = 0 := by
  by_cases e : s.acc a T = 0
  · exact e
  · exact absurd hT (h.accL a T e).1
theorem lead_ext (h : Inv s) {i : Int} (hn : s.ldr (s.term i) = -1) : Ext s (lead s i) := by
  have hT : ∀ T, s.ldr T ≠ -1 → T ≠ s.term i := fun T q e => by rw [e] at q; exact q hn
  refine ⟨fun _ => Int.le_refl _, fun _ _ _ => rfl, fun _ _ _ _ => rfl, fun T q => upd_ne _ _ (hT T q), fun T q => ?_, fun _ _ => Nat.le_refl _, fun a T n ha h1 hlt hh => ?_⟩
  · have : (lead s i).ldl T = s.ldl T := upd_ne _ _ (hT T q)
    rw [this]
    exact List.prefix_refl _
  · by_cases e : T = s.term i
    · subst e
      obtain ⟨_, ⟨q, _⟩ | q⟩ := hh
      · have q : a = upd s.ldr (s.term i) i (s.term i) := q
        rw [upd_same] at q
        subst q
        omega
      · have q : n ≤ s.acc a (s.term i) := q
        rw [h.noAcc hn a] at q
        omega
    · have e1 : (lead s i).ldr T = s.ldr T := upd_ne _ _ e
      have e2 : (lead s i).ldl T = s.ldl T := upd_ne _ _ e
      unfold has at hh ⊢
      rw [e1, e2] at hh
      exact hh
theorem Inv.lead (h : Inv s) {i a b : Int} (hi : isId i) (hr : s.role i = 1) (hab : a ≠ b) (ha : s.V a (s.term i) = i) (hb : s.V b (s.term i) = i) : Inv (lead s i) := by
  have hn := h.noLeader hi hr hab ha hb
  have e := lead_ext h hn
  have hi' : i ≠ -1 := by unfold isId at hi; omega
  obtain ⟨r1a, r1b, r1c, r1d⟩ := h.r1 i hi hr
  have el : (Rp.lead s i).ldr (s.term i) = i := upd_same _ _ _
  have ell : (Rp.lead s i).ldl (s.term i) = s.log i := upd_same _ _ _
  have eo : ∀ T, T ≠ s.term i → (Rp.lead s i).ldr T = s.ldr T ∧ (Rp.lead s i).ldl T = s.ldl T := fun T hT => ⟨upd_ne _ _ hT, upd_ne _ _ hT⟩
  have hold : ∀ T a n, T ≠ s.term i → has (Rp.lead s i) a T n → has s a T n := fun T a n hT hh => by
    unfold has at hh ⊢
    rw [(eo T hT).1, (eo T hT).2] at hh
    exact hh
  -- no entry of the log is of this term
  have hno : ∀ k, 1 ≤ k → k ≤ (s.log i).length → tAt (s.log i) k ≠ s.term i := fun k h1 h2 q => by
    have := h.clT (s.term i) i k hi r1a h1 (by rw [r1b]; exact h2)
    rw [r1b] at this
    omega
  have hnew : ∀ a n, 1 ≤ n → has (Rp.lead s i) a (s.term i) n → n ≤ (s.log i).length := fun a n h1 hh => by
    obtain ⟨_, ⟨_, q⟩ | q⟩ := hh
    · rw [ell] at q; exact q
    · have q : n ≤ s.acc a (s.term i) := q
      rw [h.noAcc hn a] at q
      omega
  exact
  { t0 := h.t0, vId := h.vId, vT := h.vT, vNow := h.vNow, vC := h.vC, vPos := h.vPos
    lId := fun T hT => by
      by_cases q : T = s.term i
      · rw [q, el]; exact hi
      · rw [(eo T q).1] at hT ⊢; exact h.lId T hT
    lQ := fun T hT => by
      by_cases q : T = s.term i
      · subst q
        rw [el]
        refine ⟨r1a, ?_⟩
        by_cases qa : a = i
        · exact ⟨b, fun q => hab (qa.trans q.symm), hb⟩
        · exact ⟨a, qa, ha⟩
      · rw [(eo T q).1] at hT ⊢; exact h.lQ T hT
    lGrow := fun T hT => by
      by_cases q : T = s.term i
      · subst q
        rw [el, ell]
        show s.cl (s.term i) i <+: s.log i
        rw [r1b]
        exact List.prefix_refl _
      · rw [(eo T q).1] at hT ⊢
        rw [(eo T q).2]
        exact h.lGrow T hT
    lNew := fun T k hT h1 h2 => by
      by_cases q : T = s.term i
      · subst q
        rw [el] at h1
        rw [ell] at h2
        have h1 : (s.cl (s.term i) i).length < k := h1
        rw [r1b] at h1
        omega
      · rw [(eo T q).1] at hT h1
        rw [(eo T q).2] at h2 ⊢
        exact h.lNew T k hT h1 h2
    clT := h.clT, logT := h.logT
    okLog := fun j hj => e.okL (h.okLog j hj)
    okCl := fun T c hc hv => e.okL (h.okCl T c hc hv)
    okLd := fun T hT => by
      by_cases q : T = s.term i
      · rw [q, ell]; exact e.okL (h.okLog i hi)
      · rw [(eo T q).1] at hT
        rw [(eo T q).2]
        exact e.okL (h.okLd T hT)
    r1 := fun j hj hr' => by
      by_cases ej : j = i
      · subst ej
        have q : upd s.role j 2 j = 2 := upd_same _ _ _
        have hr' : upd s.role j 2 j = 1 := hr'
        omega
      · have q : s.role j = 1 := by rw [← hr']; exact (upd_ne _ _ ej).symm
        obtain ⟨c1, c2, c3, c4⟩ := h.r1 j hj q
        refine ⟨c1, c2, fun w => ?_, c4⟩
        have w : (Rp.lead s i).ldr (s.term j) = j := w
        by_cases q : s.term j = s.term i
        · rw [q, el] at w; exact ej w.symm
        · rw [(eo _ q).1] at w; exact c3 w
    r2 := fun j hj hr' => by
      by_cases ej : j = i
      · subst ej
        refine ⟨el, ell, fun v hv hvj => ?_⟩
        show upd s.mat j (fun _ => 0) j v ≤ _ ∧ 1 ≤ upd s.nxt j (fun _ => (s.log j).length + 1) j v ∧ upd s.nxt j (fun _ => (s.log j).length + 1) j v ≤ _
        rw [upd_same, upd_same]
        exact ⟨Nat.zero_le _, Nat.succ_pos _, Nat.le_refl _⟩
      · have q : s.role j = 2 := by rw [← hr']; exact (upd_ne _ _ ej).symm
        obtain ⟨c1, c2, c3⟩ := h.r2 j hj q
        have hj' : j ≠ -1 := by unfold isId at hj; omega
        have qt : s.term j ≠ s.term i := fun w => by rw [w, hn] at c1; exact hj' c1.symm
        refine ⟨by show (Rp.lead s i).ldr (s.term j) = j; rw [(eo _ qt).1]; exact c1, by show (Rp.lead s i).ldl (s.term j) = _; rw [(eo _ qt).2]; exact c2, fun v hv hvj => ?_⟩
        have m1 : upd s.mat i (fun _ => 0) j = s.mat j := upd_ne _ _ ej
        have m2 : upd s.nxt i (fun _ => (s.log i).length + 1) j = s.nxt j := upd_ne _ _ ej
        show upd s.mat i (fun _ => 0) j v ≤ _ ∧ 1 ≤ upd s.nxt i (fun _ => (s.log i).length + 1) j v ∧ upd s.nxt i (fun _ => (s.log i).length + 1) j v ≤ _
        rw [m1, m2]
        exact c3 v hv hvj
    accL := fun j T ha => by
      obtain ⟨q1, q2, q3, q4⟩ := h.accL j T ha
      have qt : T ≠ s.term i := fun w => by rw [w] at q1; exact q1 hn
      rw [(eo T qt).1, (eo T qt).2]
      exact ⟨q1, q2, q3, q4⟩
    hasP := fun j T n h1 hh ht => by
      by_cases q : T = s.term i
      · subst q
        rw [ell] at ht
        exact absurd ht (hno n h1 (hnew j n h1 hh))
      · have hh' := hold T j n q hh
        rw [(eo T q).2] at ht ⊢
        exact (h.hasP j T n h1 hh' ht).imp id (e.dead h1)
    lc := fun T T' n hlt hT hT' h1 h2 ht => by
      by_cases q : T = s.term i
      · subst q
        rw [ell] at ht h2
        exact absurd ht (hno n h1 h2)
      · rw [(eo T q).1] at hT
        rw [(eo T q).2] at h2 ht ⊢
        by_cases q' : T' = s.term i
        · subst q'
          rw [el]
          show Pre (s.cl (s.term i) i) (s.ldl T) n ∨ _
          by_cases va : has s a T n
          · have := h.vt a _ T n hlt (by rw [ha]; exact hi') h1 va ht
            rw [ha] at this
            exact this.imp id (e.dead h1)
          · by_cases vb : has s b T n
            · have := h.vt b _ T n hlt (by rw [hb]; exact hi') h1 vb ht
              rw [hb] at this
              exact this.imp id (e.dead h1)
            · refine Or.inr (e.dead h1 ⟨a, b, (h.vId a _ (by rw [ha]; exact hi')).1, (h.vId b _ (by rw [hb]; exact hi')).1, hab, ?_, ?_, va, vb⟩)
              · exact Int.lt_of_lt_of_le hlt (h.vT a _ (by rw [ha]; exact hi'))
              · exact Int.lt_of_lt_of_le hlt (h.vT b _ (by rw [hb]; exact hi'))
        · rw [(eo T' q').1] at hT' ⊢
          exact (h.lc T T' n hlt hT hT' h1 h2 ht).imp id (e.dead h1)
    vt := fun v T' T n hlt hv h1 hh ht => by
      by_cases q : T = s.term i
      · subst q
        rw [ell] at ht
        exact absurd ht (hno n h1 (hnew v n h1 hh))
      · have hh' := hold T v n q hh
        rw [(eo T q).2] at ht ⊢
        exact (h.vt v T' T n hlt hv h1 hh' ht).imp id (e.dead h1)
    an := fun j hj => by
      show Pre (s.log j) ((Rp.lead s i).ldl (s.term j)) (s.acc j (s.term j))
      by_cases q : s.term j = s.term i
      · rw [q, h.noAcc hn j]; exact Pre.zero _ _
      · rw [(eo _ q).2]; exact h.an j hj
    cm := fun j hj => by
      rcases h.cm j hj with q | ⟨T, n, q1, q2, q3, q4⟩
      · exact Or.inl q
      · exact Or.inr ⟨T, n, e.comtd q1, q2, q3, q4.grow (e.ldl T q1.1)⟩ }
end Rp
end Go.Proofs.YtkmojcpiadpbaaaGreatDoor
