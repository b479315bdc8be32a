/-
  Steps of the replicated log that keep what holds: a proposal; entries that are accepted.
-/
import Derived.Test.YtkmojcpiadpbaaaGreatDoorRVote
namespace Go.Proofs.YtkmojcpiadpbaaaGreatDoor
namespace Rp
variable {s s' : St}

/-! ### A proposal -/
theorem snoc_prefix (L : List Rec) (x : Rec) : L <+: L ++ [x] := List.prefix_append _ _
theorem tAt_snoc (L : List Rec) (x : Rec) : tAt (L ++ [x]) (L.length + 1) = x.t := by simp [tAt]
def prop (s : St) (i : Int) (d : List UInt8) : St :=
  { s with log := upd s.log i (s.log i ++ [⟨s.term i, d⟩]), ldl := upd s.ldl (s.term i) (s.log i ++ [⟨s.term i, d⟩]) }
theorem prop_ext (h : Inv s) {i : Int} (hi : isId i) (hr : s.role i = 2) (d : List UInt8) : Ext s (prop s i d) := by
  obtain ⟨r1, r2, _⟩ := h.r2 i hi hr
  refine ⟨fun _ => Int.le_refl _, fun _ _ _ => rfl, fun _ _ _ _ => rfl, fun _ _ => rfl, fun T hT => ?_, fun _ _ => Nat.le_refl _, fun a T n ha h1 hlt hh => ?_⟩
  · by_cases e : T = s.term i
    · subst e
      have : (prop s i d).ldl (s.term i) = s.log i ++ [⟨s.term i, d⟩] := upd_same _ _ _
      rw [this, r2]
      exact snoc_prefix _ _
    · have : (prop s i d).ldl T = s.ldl T := upd_ne _ _ e
      rw [this]
      exact List.prefix_refl _
  · by_cases e : T = s.term i
    · subst e
      obtain ⟨q0, ⟨q, _⟩ | q⟩ := hh
      · have q : a = s.ldr (s.term i) := q
        rw [r1] at q
        subst q
        omega
      · exact ⟨q0, Or.inr q⟩
    · have : (prop s i d).ldl T = s.ldl T := upd_ne _ _ e
      unfold has at hh ⊢
      rw [this] at hh
      exact hh
theorem Inv.prop (h : Inv s) {i : Int} (hi : isId i) (hr : s.role i = 2) (d : List UInt8) : Inv (prop s i d) := by
  have e := prop_ext h hi hr d
  obtain ⟨r1, r2, r3⟩ := h.r2 i hi hr
  have hi' : i ≠ -1 := by unfold isId at hi; omega
  have hlT : s.ldr (s.term i) ≠ -1 := by rw [r1]; exact hi'
  obtain ⟨L, hL⟩ : ∃ L, s.log i = L := ⟨_, rfl⟩
  obtain ⟨x, hx⟩ : ∃ x : Rec, x = ⟨s.term i, d⟩ := ⟨_, rfl⟩
  have hxt : x.t = s.term i := by rw [hx]
  have el : (Rp.prop s i d).log i = L ++ [x] := by rw [← hL, hx]; exact upd_same _ _ _
  have eln : ∀ j, j ≠ i → (Rp.prop s i d).log j = s.log j := fun j hj => upd_ne _ _ hj
  have ell : (Rp.prop s i d).ldl (s.term i) = L ++ [x] := by rw [← hL, hx]; exact upd_same _ _ _
  have elln : ∀ T, T ≠ s.term i → (Rp.prop s i d).ldl T = s.ldl T := fun T hT => upd_ne _ _ hT
  rw [hL] at r2
  have hterm : 1 ≤ s.term i := h.vPos i _ (by have := (h.lQ _ hlT).1; rw [r1] at this; rw [this]; exact hi')
  have hLt : ∀ k, 1 ≤ k → k ≤ L.length → tAt L k ≤ s.term i := fun k h1 h2 => by have := h.logT i k hi h1 (by rw [hL]; exact h2); rw [hL] at this; exact this
  have hlen : (L ++ [x]).length = L.length + 1 := by simp
  have hg : L <+: L ++ [x] := snoc_prefix _ _
  have hok : OkL (Rp.prop s i d) (L ++ [x]) := by
    have h0 := e.okL (h.okLog i hi)
    rw [hL] at h0
    intro k h1 h2
    by_cases hk : k ≤ L.length
    · obtain ⟨a1, a2, a3, a4⟩ := h0 k h1 hk
      rw [tAt_grow hg hk]
      exact ⟨a1, a2, (a3.symm.grow hg).symm, fun j j1 j2 => by rw [tAt_grow hg (by omega)]; exact a4 j j1 j2⟩
    · obtain rfl : k = L.length + 1 := by omega
      rw [tAt_snoc, hxt]
      refine ⟨hterm, hlT, by rw [ell]; exact Pre.refl (by omega), fun j j1 j2 => ?_⟩
      by_cases hj : j ≤ L.length
      · rw [tAt_grow hg hj]; exact hLt j j1 hj
      · obtain rfl : j = L.length + 1 := by omega
        rw [tAt_snoc, hxt]; exact Int.le_refl _
  have hlogPre : ∀ j n M, Pre (s.log j) M n → Pre ((Rp.prop s i d).log j) M n := fun j n M hp => by
    by_cases ej : j = i
    · subst ej
      rw [el]
      rw [hL] at hp
      exact (hp.symm.grow hg).symm
    · rw [eln j ej]; exact hp
  exact
  { t0 := h.t0, vId := h.vId, vT := h.vT, vNow := h.vNow, vC := h.vC, vPos := h.vPos, lId := h.lId, lQ := h.lQ
    lGrow := fun T hT => (h.lGrow T hT).trans (e.ldl T hT)
    lNew := fun T k hT h1 h2 => by
      by_cases q : T = s.term i
      · subst q
        rw [ell] at h2 ⊢
        by_cases hk : k ≤ L.length
        · rw [tAt_grow hg hk]
          have := h.lNew _ k hT h1 (by rw [r2]; exact hk)
          rw [r2] at this
          exact this
        · obtain rfl : k = L.length + 1 := by omega
          rw [tAt_snoc, hxt]
      · rw [elln T q] at h2 ⊢
        exact h.lNew T k hT h1 h2
    clT := h.clT
    logT := fun j k hj h1 h2 => by
      by_cases ej : j = i
      · subst ej
        rw [el] at h2 ⊢
        by_cases hk : k ≤ L.length
        · rw [tAt_grow hg hk]; exact hLt k h1 hk
        · obtain rfl : k = L.length + 1 := by omega
          rw [tAt_snoc, hxt]; exact Int.le_refl _
      · rw [eln j ej] at h2 ⊢
        exact h.logT j k hj h1 h2
    okLog := fun j hj => by
      by_cases ej : j = i
      · subst ej; rw [el]; exact hok
      · rw [eln j ej]; exact e.okL (h.okLog j hj)
    okCl := fun T c hc hv => e.okL (h.okCl T c hc hv)
    okLd := fun T hT => by
      by_cases q : T = s.term i
      · rw [q, ell]; exact hok
      · rw [elln T q]; exact e.okL (h.okLd T hT)
    r1 := fun j hj hr' => by
      obtain ⟨a, b, c, d'⟩ := h.r1 j hj hr'
      have ej : j ≠ i := fun q => by rw [q] at hr'; have : s.role i = 1 := hr'; omega
      exact ⟨a, by rw [eln j ej]; exact b, c, d'⟩
    r2 := fun j hj hr' => by
      by_cases ej : j = i
      · subst ej
        refine ⟨r1, by rw [el]; exact ell, fun v hv hvj => ?_⟩
        obtain ⟨a, b, c⟩ := r3 v hv hvj
        rw [hL] at c
        exact ⟨a, b, by rw [el, hlen]; exact Nat.le_succ_of_le c⟩
      · obtain ⟨a, b, c⟩ := h.r2 j hj hr'
        have qt : s.term j ≠ s.term i := fun w => by rw [w, r1] at a; exact ej a.symm
        refine ⟨a, by show (Rp.prop s i d).ldl (s.term j) = _; rw [elln _ qt, eln j ej]; exact b, fun v hv hvj => ?_⟩
        rw [eln j ej]
        exact c v hv hvj
    accL := fun j T ha => by
      obtain ⟨a, b, c, d'⟩ := h.accL j T ha
      exact ⟨a, b, Nat.le_trans c (e.ldl T a).length_le, d'⟩
    hasP := fun j T n h1 hh ht => by
      by_cases q : T = s.term i
      · subst q
        by_cases hn : n ≤ L.length
        · have hh' : has s j (s.term i) n := by
            obtain ⟨q0, ⟨q, _⟩ | q⟩ := hh
            · exact ⟨hlT, Or.inl ⟨q, by rw [r2]; exact hn⟩⟩
            · exact ⟨hlT, Or.inr q⟩
          have ht' : tAt (s.ldl (s.term i)) n = s.term i := by rw [ell, tAt_grow hg hn] at ht; rw [r2]; exact ht
          rcases h.hasP j _ n h1 hh' ht' with k | k
          · exact Or.inl (hlogPre j n _ (k.grow (e.ldl _ hlT)))
          · exact Or.inr (e.dead h1 k)
        · obtain ⟨_, ⟨q, q'⟩ | q⟩ := hh
          · have q : j = s.ldr (s.term i) := q
            rw [r1] at q
            subst q
            rw [el, ell]
            rw [ell] at q'
            exact Or.inl (Pre.refl q')
          · have q : n ≤ s.acc j (s.term i) := q
            have := (h.accL j (s.term i) (by omega)).2.2.1
            rw [r2] at this
            omega
      · have hh' : has s j T n := by
          unfold has at hh ⊢
          rw [elln T q] at hh
          exact hh
        rw [elln T q] at ht ⊢
        exact (h.hasP j T n h1 hh' ht).imp (hlogPre j n _) (e.dead h1)
    lc := fun T T' n hlt hT hT' h1 h2 ht => by
      by_cases q : T = s.term i
      · subst q
        by_cases hn : n ≤ L.length
        · have ht' : tAt (s.ldl (s.term i)) n = s.term i := by rw [ell, tAt_grow hg hn] at ht; rw [r2]; exact ht
          exact e.pod hT h1 (h.lc _ T' n hlt hT hT' h1 (by rw [r2]; exact hn) ht')
        · refine Or.inr ?_
          obtain ⟨v1, v, hv, v2⟩ := h.lQ T' hT'
          have hnot : ∀ y, s.V y T' ≠ -1 → s.term i < s.term y ∧ ¬ has (Rp.prop s i d) y (s.term i) n := fun y hy => by
            have hyt := h.vT y T' hy
            refine ⟨by omega, ?_⟩
            rintro ⟨_, ⟨w, _⟩ | w⟩
            · have w : y = s.ldr (s.term i) := w
              rw [r1] at w
              subst w
              omega
            · have w : n ≤ s.acc y (s.term i) := w
              have := (h.accL y (s.term i) (by omega)).2.2.1
              rw [r2] at this
              omega
          have k1 := hnot (s.ldr T') (by rw [v1]; exact hT')
          have k2 := hnot v (by rw [v2]; exact hT')
          exact ⟨s.ldr T', v, h.lId T' hT', (h.vId v T' (by rw [v2]; exact hT')).1, fun w => hv w.symm, k1.1, k2.1, k1.2, k2.2⟩
      · rw [elln T q] at h2 ht ⊢
        exact (h.lc T T' n hlt hT hT' h1 h2 ht).imp id (e.dead h1)
    vt := fun v T' T n hlt hv h1 hh ht => by
      by_cases q : T = s.term i
      · subst q
        have hne : v ≠ i := fun w => by
          rw [w] at hv
          have := h.vT i T' hv
          omega
        have hh' : has s v (s.term i) n := by
          obtain ⟨q0, ⟨q, _⟩ | q⟩ := hh
          · have q : v = s.ldr (s.term i) := q
            rw [r1] at q
            exact absurd q hne
          · exact ⟨hlT, Or.inr q⟩
        have hn : n ≤ L.length := by
          have := (has_pos h h1 hh').2.1
          rw [r2] at this
          exact this
        have ht' : tAt (s.ldl (s.term i)) n = s.term i := by rw [ell, tAt_grow hg hn] at ht; rw [r2]; exact ht
        exact e.pod hlT h1 (h.vt v T' _ n hlt hv h1 hh' ht')
      · have hh' : has s v T n := by
          unfold has at hh ⊢
          rw [elln T q] at hh
          exact hh
        rw [elln T q] at ht ⊢
        exact (h.vt v T' T n hlt hv h1 hh' ht).imp id (e.dead h1)
    an := fun j hj => by
      have := h.an j hj
      show Pre ((Rp.prop s i d).log j) ((Rp.prop s i d).ldl (s.term j)) (s.acc j (s.term j))
      by_cases q : s.ldr (s.term j) = -1
      · rw [h.noAcc q j]; exact Pre.zero _ _
      · exact hlogPre j _ _ (this.grow (e.ldl _ q))
    cm := fun j hj => by
      rcases h.cm j hj with q | ⟨T, n, q1, q2, q3, q4⟩
      · exact Or.inl q
      · exact Or.inr ⟨T, n, e.comtd q1, q2, q3, hlogPre j _ _ (q4.grow (e.ldl T q1.1))⟩ }

/-! ### Entries that are accepted -/
theorem okL_take {L : List Rec} (h : OkL s L) (q : Nat) : OkL s (L.take q) := by
  have hg : L.take q <+: L := List.take_prefix _ _
  intro k h1 h2
  have hk : k ≤ L.length := Nat.le_trans h2 hg.length_le
  obtain ⟨a, b, c, d⟩ := h k h1 hk
  have ht : tAt (L.take q) k = tAt L k := (tAt_grow hg h2).symm
  rw [ht]
  refine ⟨a, b, ((Pre.of_prefix hg).mono h2).trans c, fun j j1 j2 => ?_⟩
  rw [← tAt_grow hg (by omega)]
  exact d j j1 j2
def accept (s : St) (i : Int) (L' : List Rec) (q c : Nat) : St :=
  { s with role := upd s.role i 0, log := upd s.log i L', comm := upd s.comm i c, acc := fun a T => if a = i ∧ T = s.term i then max (s.acc a T) q else s.acc a T }
/-- What a leader's list M of the term makes of the log L, up to its entry q. -/
structure Takes (M L L' : List Rec) (q cm : Nat) : Prop where
  len : q ≤ M.length
  pre : Pre L' M q
  how : L' = L ∨ (L' = M.take q ∧ ∃ k, 1 ≤ k ∧ k ≤ q ∧ cm < k ∧ Pre L M (k - 1) ∧ (L.length < k ∨ tAt L k ≠ tAt M k))
theorem accept_ext (s : St) (i : Int) (L' : List Rec) (q c : Nat) : Ext s (accept s i L' q c) := by
  refine ⟨fun _ => Int.le_refl _, fun _ _ _ => rfl, fun _ _ _ _ => rfl, fun _ _ => rfl, fun _ _ => List.prefix_refl _, fun a T => ?_, fun a T n ha h1 hlt hh => ?_⟩
  · show s.acc a T ≤ if a = i ∧ T = s.term i then max (s.acc a T) q else s.acc a T
    split
    · exact Nat.le_max_left _ _
    · exact Nat.le_refl _
  · obtain ⟨q0, w | w⟩ := hh
    · exact ⟨q0, Or.inl w⟩
    · have w : n ≤ if a = i ∧ T = s.term i then max (s.acc a T) q else s.acc a T := w
      rw [if_neg (fun cc => by obtain ⟨rfl, rfl⟩ := cc; omega)] at w
      exact ⟨q0, Or.inr w⟩
theorem Inv.accept (h : Inv s) {i : Int} (hi : isId i) {L' : List Rec} {q c : Nat} (hl : s.ldr (s.term i) ≠ -1) (hne : s.ldr (s.term i) ≠ i) (ht : Takes (s.ldl (s.term i)) (s.log i) L' q (s.comm i))
    (hc : c = s.comm i ∨ (c ≤ q ∧ ∃ T n, Comtd s T n ∧ c ≤ n ∧ T ≤ s.term i ∧ Pre (s.ldl (s.term i)) (s.ldl T) c)) : Inv (accept s i L' q c) := by
  have e := accept_ext s i L' q c
  obtain ⟨hqM, hpre, how⟩ := ht
  have el : (Rp.accept s i L' q c).log i = L' := upd_same _ _ _
  have eln : ∀ j, j ≠ i → (Rp.accept s i L' q c).log j = s.log j := fun j hj => upd_ne _ _ hj
  have hacc : ∀ a T, ¬ (a = i ∧ T = s.term i) → (Rp.accept s i L' q c).acc a T = s.acc a T := fun a T hn => if_neg hn
  have hacci : (Rp.accept s i L' q c).acc i (s.term i) = max (s.acc i (s.term i)) q := if_pos ⟨rfl, rfl⟩
  have hold : ∀ a T n, ¬ (a = i ∧ T = s.term i) → has (Rp.accept s i L' q c) a T n → has s a T n := fun a T n hn hh => by
    obtain ⟨q0, w | w⟩ := hh
    · exact ⟨q0, Or.inl w⟩
    · rw [hacc a T hn] at w; exact ⟨q0, Or.inr w⟩
  -- what is kept of the log
  have hcut : ∀ n K, (L' = s.log i ∨ n ≤ s.comm i ∨ Pre (s.log i) (s.ldl (s.term i)) n) → Pre (s.log i) K n → Pre L' K n := fun n K hn hp => by
    rcases how with w | ⟨w, k, k1, k2, k3, k4, k5⟩
    · rw [w]; exact hp
    · rcases hn with hn | hn | hn
      · rw [hn]; exact hp
      · have := (k4.mono (show n ≤ k - 1 by omega))
        exact ((hpre.mono (show n ≤ q by omega)).trans this.symm).trans hp
      · have hnk : n < k := by
          rcases Nat.lt_or_ge n k with r | r
          · exact r
          · exfalso
            rcases k5 with k5 | k5
            · have := hn.1; omega
            · exact k5 (hn.tAt r)
        exact ((hpre.mono (show n ≤ q by omega)).trans hn.symm).trans hp
  have hokL : OkL s L' := by
    rcases how with w | ⟨w, _⟩
    · rw [w]; exact h.okLog i hi
    · rw [w]; exact okL_take (h.okLd _ hl) q
  exact
  { t0 := h.t0, vId := h.vId, vT := h.vT, vNow := h.vNow, vC := h.vC, vPos := h.vPos, lId := h.lId, lQ := h.lQ, lGrow := h.lGrow, lNew := h.lNew, clT := h.clT
    logT := fun j k hj h1 h2 => by
      by_cases ej : j = i
      · subst ej
        rw [el] at h2 ⊢
        rcases how with w | ⟨w, _⟩
        · rw [w] at h2 ⊢; exact h.logT j k hj h1 h2
        · have hg : L' <+: s.ldl (s.term j) := by rw [w]; exact List.take_prefix _ _
          rw [← tAt_grow hg h2]
          exact h.ldT hl h1 (Nat.le_trans h2 hg.length_le)
      · rw [eln j ej] at h2 ⊢
        exact h.logT j k hj h1 h2
    okLog := fun j hj => by
      by_cases ej : j = i
      · subst ej; rw [el]; exact e.okL hokL
      · rw [eln j ej]; exact e.okL (h.okLog j hj)
    okCl := fun T d hd hv => e.okL (h.okCl T d hd hv)
    okLd := fun T hT => e.okL (h.okLd T hT)
    r1 := fun j hj hr' => by
      by_cases ej : j = i
      · subst ej
        have w : upd s.role j 0 j = 0 := upd_same _ _ _
        have hr' : upd s.role j 0 j = 1 := hr'
        omega
      · have w : s.role j = 1 := by rw [← hr']; exact (upd_ne _ _ ej).symm
        obtain ⟨a, b, c', d⟩ := h.r1 j hj w
        exact ⟨a, by rw [eln j ej]; exact b, c', d⟩
    r2 := fun j hj hr' => by
      by_cases ej : j = i
      · subst ej
        have w : upd s.role j 0 j = 0 := upd_same _ _ _
        have hr' : upd s.role j 0 j = 2 := hr'
        omega
      · have w : s.role j = 2 := by rw [← hr']; exact (upd_ne _ _ ej).symm
        obtain ⟨a, b, d⟩ := h.r2 j hj w
        refine ⟨a, by rw [eln j ej]; exact b, fun v hv hvj => ?_⟩
        obtain ⟨m1, m2, m3⟩ := d v hv hvj
        rw [eln j ej]
        exact ⟨Nat.le_trans m1 (e.acc v _), m2, m3⟩
    accL := fun j T ha => by
      by_cases cc : j = i ∧ T = s.term i
      · obtain ⟨rfl, rfl⟩ := cc
        rw [hacci]
        refine ⟨hl, Int.le_refl _, ?_, hi⟩
        show max (s.acc j (s.term j)) q ≤ (s.ldl (s.term j)).length
        by_cases q0 : s.acc j (s.term j) = 0
        · rw [q0]; omega
        · have := (h.accL j _ q0).2.2.1; omega
      · rw [hacc j T cc] at ha ⊢
        exact h.accL j T ha
    hasP := fun j T n h1 hh ht => by
      by_cases ej : j = i
      · subst ej
        rw [el]
        by_cases cc : T = s.term j ∧ n ≤ q
        · obtain ⟨rfl, hnq⟩ := cc
          exact Or.inl (hpre.mono hnq)
        · have hh' : has s j T n := by
            obtain ⟨q0, w | w⟩ := hh
            · exact ⟨q0, Or.inl w⟩
            · refine ⟨q0, Or.inr ?_⟩
              by_cases qt : T = s.term j
              · subst qt
                rw [hacci] at w
                have : ¬ n ≤ q := fun r => cc ⟨rfl, r⟩
                omega
              · rw [hacc j T (fun r => qt r.2)] at w; exact w
          obtain ⟨p1, p2, p3, _⟩ := has_pos h h1 hh'
          rcases h.hasP j T n h1 hh' ht with k | k
          · by_cases qt : T = s.term j
            · subst qt
              exact Or.inl (hcut n _ (Or.inr (Or.inr k)) k)
            · rcases h.lc T (s.term j) n (by omega) p1 hl h1 p2 ht with r | r
              · have hM : Pre (s.ldl (s.term j)) (s.ldl T) n := (r.symm.grow (h.lGrow _ hl)).symm
                exact Or.inl (hcut n _ (Or.inr (Or.inr (k.trans hM.symm))) k)
              · exact Or.inr (e.dead h1 r)
          · exact Or.inr (e.dead h1 k)
      · rw [eln j ej]
        exact (h.hasP j T n h1 (hold j T n (fun r => ej r.1) hh) ht).imp id (e.dead h1)
    lc := fun T T' n hlt hT hT' h1 h2 ht => (h.lc T T' n hlt hT hT' h1 h2 ht).imp id (e.dead h1)
    vt := fun v T' T n hlt hv h1 hh ht => by
      have hn : ¬ (v = i ∧ T = s.term i) := fun r => by
        obtain ⟨rfl, rfl⟩ := r
        have := h.vT v T' hv
        omega
      exact (h.vt v T' T n hlt hv h1 (hold v T n hn hh) ht).imp id (e.dead h1)
    an := fun j hj => by
      have k := h.an j hj
      by_cases ej : j = i
      · subst ej
        show Pre ((Rp.accept s j L' q c).log j) (s.ldl (s.term j)) ((Rp.accept s j L' q c).acc j (s.term j))
        rw [el, hacci]
        rcases Nat.le_total (s.acc j (s.term j)) q with w | w
        · rw [Nat.max_eq_right w]; exact hpre
        · rw [Nat.max_eq_left w]; exact hcut _ _ (Or.inr (Or.inr k)) k
      · show Pre ((Rp.accept s i L' q c).log j) (s.ldl (s.term j)) ((Rp.accept s i L' q c).acc j (s.term j))
        rw [eln j ej, hacc j _ (fun r => ej r.1)]
        exact k
    cm := fun j hj => by
      by_cases ej : j = i
      · subst ej
        have ec : (Rp.accept s j L' q c).comm j = c := upd_same _ _ _
        rw [ec, el]
        rcases hc with hc | ⟨hcq, T, n, c1, c2, c3, c4⟩
        · rw [hc]
          rcases h.cm j hj with w | ⟨T, n, c1, c2, c3, c4⟩
          · exact Or.inl w
          · exact Or.inr ⟨T, n, e.comtd c1, c2, c3, hcut _ _ (Or.inr (Or.inl (Nat.le_refl _))) c4⟩
        · exact Or.inr ⟨T, n, e.comtd c1, c2, c3, (hpre.mono hcq).trans c4⟩
      · have ec : (Rp.accept s i L' q c).comm j = s.comm j := upd_ne _ _ ej
        rw [ec, eln j ej]
        rcases h.cm j hj with w | ⟨T, n, c1, c2, c3, c4⟩
        · exact Or.inl w
        · exact Or.inr ⟨T, n, e.comtd c1, c2, c3, c4⟩ }
end Rp
end Go.Proofs.YtkmojcpiadpbaaaGreatDoor
