/-
  Steps of the replicated log that keep what holds: a later term, a candidate, a vote, the change of what is not stored.
-/
import Derived.Test.YtkmojcpiadpbaaaGreatDoorRState
namespace Go.Proofs.YtkmojcpiadpbaaaGreatDoor
namespace Rp
variable {s s' : St}

/-! ### What is not stored -/
def vol (s : St) (i r : Int) (c : Nat) (vs : Int → Bool) (m x : Int → Nat) : St :=
  { s with role := upd s.role i r, comm := upd s.comm i c, votes := upd s.votes i vs, mat := upd s.mat i m, nxt := upd s.nxt i x }
theorem vol_ext (s : St) (i r : Int) (c : Nat) (vs : Int → Bool) (m x : Int → Nat) : Ext s (vol s i r c vs m x) := ⟨fun _ => Int.le_refl _, fun _ _ _ => rfl, fun _ _ _ _ => rfl, fun _ _ => rfl, fun _ _ => List.prefix_refl _, fun _ _ => Nat.le_refl _, fun _ _ _ _ _ _ h => h⟩
theorem Inv.vol (h : Inv s) (i r : Int) (c : Nat) (vs : Int → Bool) (m x : Int → Nat)
    (h1 : r = 1 → s.V i (s.term i) = i ∧ s.cl (s.term i) i = s.log i ∧ s.ldr (s.term i) ≠ i ∧ ∀ v, vs v = true → s.V v (s.term i) = i)
    (h2 : r = 2 → s.ldr (s.term i) = i ∧ s.ldl (s.term i) = s.log i ∧ ∀ v, isId v → v ≠ i → m v ≤ s.acc v (s.term i) ∧ 1 ≤ x v ∧ x v ≤ (s.log i).length + 1)
    (h3 : c = 0 ∨ ∃ T n, Comtd s T n ∧ c ≤ n ∧ T ≤ s.term i ∧ Pre (s.log i) (s.ldl T) c) : Inv (vol s i r c vs m x) :=
  { t0 := h.t0, vId := h.vId, vT := h.vT, vNow := h.vNow, vC := h.vC, vPos := h.vPos, lId := h.lId, lQ := h.lQ, lGrow := h.lGrow, lNew := h.lNew, clT := h.clT, logT := h.logT, okLog := h.okLog, okCl := h.okCl, okLd := h.okLd
    r1 := fun j hj hr => by
      by_cases e : j = i
      · subst e
        have : upd s.votes j vs j = vs := upd_same _ _ _
        have hr' : r = 1 := by rw [← hr]; exact (upd_same _ _ _).symm
        obtain ⟨a, b, c', d⟩ := h1 hr'
        refine ⟨a, b, c', fun v hv => d v ?_⟩
        rw [← this]; exact hv
      · have hr' : s.role j = 1 := by rw [← hr]; exact (upd_ne _ _ e).symm
        obtain ⟨a, b, c', d⟩ := h.r1 j hj hr'
        refine ⟨a, b, c', fun v hv => d v ?_⟩
        have : upd s.votes i vs j = s.votes j := upd_ne _ _ e
        rw [← this]; exact hv
    r2 := fun j hj hr => by
      by_cases e : j = i
      · subst e
        have hr' : r = 2 := by rw [← hr]; exact (upd_same _ _ _).symm
        obtain ⟨a, b, d⟩ := h2 hr'
        refine ⟨a, b, fun v hv hvi => ?_⟩
        have e1 : upd s.mat j m j = m := upd_same _ _ _
        have e2 : upd s.nxt j x j = x := upd_same _ _ _
        show upd s.mat j m j v ≤ _ ∧ 1 ≤ upd s.nxt j x j v ∧ upd s.nxt j x j v ≤ _
        rw [e1, e2]
        exact d v hv hvi
      · have hr' : s.role j = 2 := by rw [← hr]; exact (upd_ne _ _ e).symm
        obtain ⟨a, b, d⟩ := h.r2 j hj hr'
        refine ⟨a, b, fun v hv hvi => ?_⟩
        have e1 : upd s.mat i m j = s.mat j := upd_ne _ _ e
        have e2 : upd s.nxt i x j = s.nxt j := upd_ne _ _ e
        show upd s.mat i m j v ≤ _ ∧ 1 ≤ upd s.nxt i x j v ∧ upd s.nxt i x j v ≤ _
        rw [e1, e2]
        exact d v hv hvi
    accL := h.accL, an := h.an, hasP := h.hasP, lc := h.lc, vt := h.vt
    cm := fun j hj => by
      by_cases e : j = i
      · subst e
        show upd s.comm j c j = 0 ∨ ∃ T n, Comtd s T n ∧ upd s.comm j c j ≤ n ∧ T ≤ s.term j ∧ Pre (s.log j) (s.ldl T) (upd s.comm j c j)
        rw [upd_same]
        exact h3
      · show upd s.comm i c j = 0 ∨ ∃ T n, Comtd s T n ∧ upd s.comm i c j ≤ n ∧ T ≤ s.term j ∧ Pre (s.log j) (s.ldl T) (upd s.comm i c j)
        rw [upd_ne _ _ e]
        exact h.cm j hj }

/-! ### A later term -/
def bump (s : St) (i T : Int) : St := { s with term := upd s.term i T, vote := upd s.vote i (-1), role := upd s.role i 0 }
theorem upd_le {f : Int → Int} {i T : Int} (h : f i ≤ T) (j : Int) : f j ≤ upd f i T j := by
  unfold upd
  split
  · next e => subst e; exact h
  · exact Int.le_refl _
theorem bump_ext (s : St) {i T : Int} (hT : s.term i < T) : Ext s (bump s i T) := ⟨upd_le (Int.le_of_lt hT), fun _ _ _ => rfl, fun _ _ _ _ => rfl, fun _ _ => rfl, fun _ _ => List.prefix_refl _, fun _ _ => Nat.le_refl _, fun _ _ _ _ _ _ h => h⟩
theorem Inv.noV (h : Inv s) {i T : Int} (hT : s.term i < T) : s.V i T = -1 := by
  by_cases e : s.V i T = -1
  · exact e
  · have := h.vT i T e; omega
theorem Inv.bump (h : Inv s) {i T : Int} (hT : s.term i < T) : Inv (bump s i T) := by
  have e := bump_ext s hT
  exact
  { t0 := fun j => Int.le_trans (h.t0 j) (e.term j), vId := h.vId, vT := fun j T' hv => Int.le_trans (h.vT j T' hv) (e.term j)
    vNow := fun j hj => by
      show s.V j (upd s.term i T j) = upd s.vote i (-1) j
      by_cases ej : j = i
      · subst ej; rw [upd_same, upd_same]; exact h.noV hT
      · rw [upd_ne _ _ ej, upd_ne _ _ ej]; exact h.vNow j hj
    vC := h.vC, vPos := h.vPos, lId := h.lId, lQ := h.lQ, lGrow := h.lGrow, lNew := h.lNew, clT := h.clT
    logT := fun j k hj h1 h2 => Int.le_trans (h.logT j k hj h1 h2) (e.term j)
    okLog := h.okLog, okCl := h.okCl, okLd := h.okLd
    r1 := fun j hj hr => by
      by_cases ej : j = i
      · subst ej
        have : upd s.role j 0 j = 0 := upd_same _ _ _
        have hr : upd s.role j 0 j = 1 := hr
        omega
      · have hr' : s.role j = 1 := by rw [← hr]; exact (upd_ne _ _ ej).symm
        have ht : upd s.term i T j = s.term j := upd_ne _ _ ej
        have := h.r1 j hj hr'
        rw [← ht] at this
        exact this
    r2 := fun j hj hr => by
      by_cases ej : j = i
      · subst ej
        have : upd s.role j 0 j = 0 := upd_same _ _ _
        have hr : upd s.role j 0 j = 2 := hr
        omega
      · have hr' : s.role j = 2 := by rw [← hr]; exact (upd_ne _ _ ej).symm
        have ht : upd s.term i T j = s.term j := upd_ne _ _ ej
        have := h.r2 j hj hr'
        rw [← ht] at this
        exact this
    accL := fun j T' ha => by
      obtain ⟨a, b, c⟩ := h.accL j T' ha
      exact ⟨a, Int.le_trans b (e.term j), c⟩
    hasP := fun j T' n hn hh ht => (h.hasP j T' n hn hh ht).imp id (e.dead hn)
    lc := fun T1 T2 n h1 h2 h3 h4 h5 h6 => (h.lc T1 T2 n h1 h2 h3 h4 h5 h6).imp id (e.dead h4)
    vt := fun v T2 T1 n h1 h2 h3 h4 h5 => (h.vt v T2 T1 n h1 h2 h3 h4 h5).imp id (e.dead h3)
    an := fun j hj => by
      by_cases ej : j = i
      · subst ej
        have e0 : (Rp.bump s j T).term j = T := upd_same _ _ _
        rw [e0]
        have : s.acc j T = 0 := by
          by_cases q : s.acc j T = 0
          · exact q
          · have := (h.accL j T q).2.1; omega
        show Pre (s.log j) (s.ldl T) (s.acc j T)
        rw [this]; exact Pre.zero _ _
      · have e0 : (Rp.bump s i T).term j = s.term j := upd_ne _ _ ej
        rw [e0]; exact h.an j hj
    cm := fun j hj => by
      rcases h.cm j hj with a | ⟨T1, n, a, b, c, d⟩
      · exact Or.inl a
      · exact Or.inr ⟨T1, n, e.comtd a, b, Int.le_trans c (e.term j), d⟩ }

/-! ### A candidate -/
def tick (s : St) (i : Int) : St :=
  { s with term := upd s.term i (s.term i + 1), vote := upd s.vote i i, role := upd s.role i 1, votes := upd s.votes i (fun v => decide (v = i))
           V := fun a T => if a = i ∧ T = s.term i + 1 then i else s.V a T, cl := fun T c => if T = s.term i + 1 ∧ c = i then s.log i else s.cl T c }
theorem tick_ext (h : Inv s) (i : Int) : Ext s (tick s i) := by
  have h0 : s.V i (s.term i + 1) = -1 := h.noV (by omega)
  refine ⟨upd_le (by omega), fun a T hv => if_neg fun e => ?_, fun T c hc hv => if_neg fun e => ?_, fun _ _ => rfl, fun _ _ => List.prefix_refl _, fun _ _ => Nat.le_refl _, fun _ _ _ _ _ _ h => h⟩
  · obtain ⟨rfl, rfl⟩ := e; exact hv h0
  · obtain ⟨rfl, rfl⟩ := e; unfold isId at hc; omega
theorem Inv.tick (h : Inv s) {i : Int} (hi : isId i) : Inv (tick s i) := by
  have h0 : s.V i (s.term i + 1) = -1 := h.noV (by omega)
  have hi' : i ≠ -1 := by unfold isId at hi; omega
  have e := tick_ext h i
  have hl : ∀ T, s.ldr T ≠ -1 → (Rp.tick s i).cl T (s.ldr T) = s.cl T (s.ldr T) := fun T hT => e.cl T _ (h.lId T hT) (h.lQ T hT).1
  -- whom a replica voted for
  have hV : ∀ a T, (Rp.tick s i).V a T ≠ -1 → (a = i ∧ T = s.term i + 1 ∧ (Rp.tick s i).V a T = i) ∨ (¬ (a = i ∧ T = s.term i + 1) ∧ s.V a T ≠ -1 ∧ (Rp.tick s i).V a T = s.V a T) := fun a T hv => by
    by_cases c : a = i ∧ T = s.term i + 1
    · exact Or.inl ⟨c.1, c.2, if_pos c⟩
    · have e1 : (Rp.tick s i).V a T = s.V a T := if_neg c
      exact Or.inr ⟨c, by rw [← e1]; exact hv, e1⟩
  have hti : (Rp.tick s i).term i = s.term i + 1 := upd_same _ _ _
  have htj : ∀ j, j ≠ i → (Rp.tick s i).term j = s.term j := fun j hj => upd_ne _ _ hj
  exact
  { t0 := fun j => Int.le_trans (h.t0 j) (e.term j)
    vId := fun a T hv => by
      rcases hV a T hv with ⟨rfl, _, h2⟩ | ⟨_, h2, h3⟩
      · rw [h2]; exact ⟨hi, hi⟩
      · rw [h3]; exact h.vId a T h2
    vT := fun a T hv => by
      rcases hV a T hv with ⟨rfl, h1, _⟩ | ⟨_, h2, _⟩
      · rw [hti]; omega
      · exact Int.le_trans (h.vT a T h2) (e.term a)
    vNow := fun j hj => by
      by_cases ej : j = i
      · subst ej
        rw [hti]
        show (if j = j ∧ s.term j + 1 = s.term j + 1 then j else _) = upd s.vote j j j
        rw [if_pos ⟨rfl, rfl⟩, upd_same]
      · rw [htj j ej]
        show (if j = i ∧ _ then i else s.V j (s.term j)) = upd s.vote i i j
        rw [if_neg (fun c => ej c.1), upd_ne _ _ ej]
        exact h.vNow j hj
    vC := fun a T hv => by
      rcases hV a T hv with ⟨rfl, rfl, h2⟩ | ⟨_, h2, h3⟩
      · rw [h2]; exact if_pos ⟨rfl, rfl⟩
      · rw [h3]
        have := h.vC a T h2
        rw [e.V _ _ (by rw [this]; exact h2)]
        exact this
    vPos := fun a T hv => by
      rcases hV a T hv with ⟨rfl, rfl, _⟩ | ⟨_, h2, _⟩
      · have := h.t0 a; omega
      · exact h.vPos a T h2
    lId := h.lId
    lQ := fun T hT => by
      obtain ⟨h1, v, h2, h3⟩ := h.lQ T hT
      exact ⟨by show (Rp.tick s i).V (s.ldr T) T = s.ldr T; rw [e.V _ _ (by rw [h1]; exact hT)]; exact h1, v, h2, by show (Rp.tick s i).V v T = s.ldr T; rw [e.V _ _ (by rw [h3]; exact hT)]; exact h3⟩
    lGrow := fun T hT => by
      show (Rp.tick s i).cl T (s.ldr T) <+: s.ldl T
      rw [hl T hT]; exact h.lGrow T hT
    lNew := fun T k hT h1 h2 => h.lNew T k hT (by rw [← hl T hT]; exact h1) h2
    clT := fun T c k hc hv h1 h2 => by
      by_cases cc : T = s.term i + 1 ∧ c = i
      · have ec : (Rp.tick s i).cl T c = s.log i := if_pos cc
        rw [ec] at h2 ⊢
        have := h.logT i k hi h1 h2
        omega
      · have ec : (Rp.tick s i).cl T c = s.cl T c := if_neg cc
        have ev : (Rp.tick s i).V c T = s.V c T := if_neg (fun q => cc ⟨q.2, q.1⟩)
        rw [ec] at h2 ⊢
        rw [ev] at hv
        exact h.clT T c k hc hv h1 h2
    logT := fun j k hj h1 h2 => Int.le_trans (h.logT j k hj h1 h2) (e.term j)
    okLog := h.okLog
    okCl := fun T c hc hv => by
      by_cases cc : T = s.term i + 1 ∧ c = i
      · have ec : (Rp.tick s i).cl T c = s.log i := if_pos cc
        rw [ec]; exact h.okLog i hi
      · have ec : (Rp.tick s i).cl T c = s.cl T c := if_neg cc
        have ev : (Rp.tick s i).V c T = s.V c T := if_neg (fun q => cc ⟨q.2, q.1⟩)
        rw [ec]
        rw [ev] at hv
        exact h.okCl T c hc hv
    okLd := h.okLd
    r1 := fun j hj hr => by
      by_cases ej : j = i
      · subst ej
        rw [hti]
        refine ⟨if_pos ⟨rfl, rfl⟩, if_pos ⟨rfl, rfl⟩, fun q => ?_, fun v hv => ?_⟩
        · have q : s.ldr (s.term j + 1) = j := q
          have := (h.lQ _ (by rw [q]; exact hi')).1
          rw [q, h0] at this
          exact hi' this.symm
        · have hv : upd s.votes j (fun v => decide (v = j)) j v = true := hv
          rw [upd_same] at hv
          have : v = j := by simpa using hv
          subst this
          exact if_pos ⟨rfl, rfl⟩
      · have hr' : s.role j = 1 := by rw [← hr]; exact (upd_ne _ _ ej).symm
        obtain ⟨a, b, c, d⟩ := h.r1 j hj hr'
        have hj' : j ≠ -1 := by unfold isId at hj; omega
        rw [htj j ej]
        refine ⟨by rw [e.V _ _ (by rw [a]; exact hj')]; exact a, by rw [e.cl _ _ hj a]; exact b, c, fun v hv => ?_⟩
        have hv' : s.votes j v = true := by
          have q : upd s.votes i (fun v => decide (v = i)) j = s.votes j := upd_ne _ _ ej
          rw [← q]; exact hv
        have := d v hv'
        rw [e.V _ _ (by rw [this]; exact hj')]; exact this
    r2 := fun j hj hr => by
      by_cases ej : j = i
      · subst ej
        have q : upd s.role j 1 j = 1 := upd_same _ _ _
        have hr : upd s.role j 1 j = 2 := hr
        omega
      · have hr' : s.role j = 2 := by rw [← hr]; exact (upd_ne _ _ ej).symm
        rw [htj j ej]
        exact h.r2 j hj hr'
    accL := fun j T' ha => by
      obtain ⟨a, b, c⟩ := h.accL j T' ha
      exact ⟨a, Int.le_trans b (e.term j), c⟩
    hasP := fun j T' n hn hh ht => (h.hasP j T' n hn hh ht).imp id (e.dead hn)
    lc := fun T1 T2 n h1 h2 h3 h4 h5 h6 => by
      have := (h.lc T1 T2 n h1 h2 h3 h4 h5 h6).imp id (e.dead h4)
      rw [← hl T2 h3] at this
      exact this
    vt := fun v T2 T1 n h1 h2 h3 h4 h5 => by
      rcases hV v T2 h2 with ⟨rfl, rfl, q⟩ | ⟨_, q1, q2⟩
      · rw [q]
        have ec : (Rp.tick s v).cl (s.term v + 1) v = s.log v := if_pos ⟨rfl, rfl⟩
        rw [ec]
        exact (h.hasP v T1 n h3 h4 h5).imp id (e.dead h3)
      · rw [q2]
        have := h.vC v T2 q1
        rw [e.cl _ _ (h.vId v T2 q1).2 this]
        exact (h.vt v T2 T1 n h1 q1 h3 h4 h5).imp id (e.dead h3)
    an := fun j hj => by
      by_cases ej : j = i
      · subst ej
        have e0 : (Rp.tick s j).term j = s.term j + 1 := upd_same _ _ _
        rw [e0]
        have : s.acc j (s.term j + 1) = 0 := by
          by_cases q : s.acc j (s.term j + 1) = 0
          · exact q
          · have := (h.accL j _ q).2.1; omega
        show Pre (s.log j) (s.ldl (s.term j + 1)) (s.acc j (s.term j + 1))
        rw [this]; exact Pre.zero _ _
      · have e0 : (Rp.tick s i).term j = s.term j := upd_ne _ _ ej
        rw [e0]; exact h.an j hj
    cm := fun j hj => by
      rcases h.cm j hj with a | ⟨T1, n, a, b, c, d⟩
      · exact Or.inl a
      · exact Or.inr ⟨T1, n, e.comtd a, b, Int.le_trans c (e.term j), d⟩ }
end Rp
end Go.Proofs.YtkmojcpiadpbaaaGreatDoor
