/-
  A partition of chapter 11 as functions: what an entry comes to, and what always holds. The counts are a list of times above Closed with their numbers, ascending. Nothing of the program stands here. No condition.
-/
import Derived.Test.YtmgpfkckafdbmaaQOnce
namespace Go.Proofs.Ytmgpfkckafdbmaa
namespace In
open Pq (inB)

/-- What of a configuration counts. -/
structure C where
  delay : Int
  late : Int
  ahead : Int
  rate : Int
deriving DecidableEq
def C.right (c : C) : Prop := 0 ≤ c.delay ∧ c.delay ≤ c.late ∧ c.late ≤ 10000 ∧ 0 ≤ c.ahead ∧ c.ahead ≤ 10000 ∧ 1 ≤ c.rate ∧ c.rate ≤ 20
instance (c : C) : Decidable c.right := inferInstanceAs (Decidable (_ ∧ _))
structure St where
  now : Int
  top : Int
  next : Int
  refused : Int
  tab : List Pq.P
  cs : List (Int × Int)
/-- An entry: its kind, its producer, epoch and number, its time; and what its row is to the known columns: there are none, or it fits or not. -/
structure En where
  kd : Int
  pr : Int
  ep : Int
  sq : Int
  tm : Int
  sh : Option Bool
def new : St := ⟨0, -1, 0, 0, [], []⟩
def closed (c : C) (s : St) : Int := max (-1) (s.top - c.late - 1)
def mark (c : C) (s : St) : Int := max (-1) (s.top - c.delay - 1)
def cnt : List (Int × Int) → Int → Int
  | [], _ => 0
  | p :: l, t => if p.1 = t then p.2 else cnt l t
def bump : List (Int × Int) → Int → List (Int × Int)
  | [], t => [(t, 1)]
  | p :: l, t => if t < p.1 then (t, 1) :: p :: l else if p.1 = t then (t, p.2 + 1) :: l else p :: bump l t
/-- What a record comes to. -/
def look (c : C) (s : St) (e : En) : Int × Int :=
  if (Pq.look s.tab e.pr e.ep e.sq).2 ≠ 0 then Pq.look s.tab e.pr e.ep e.sq
  else if ¬ inB e.tm then (0, 3)
  else if e.sh = none then (0, 17)
  else if e.sh = some false then (0, 16)
  else if e.tm ≤ closed c s then (0, 20)
  else if s.now + c.ahead < e.tm then (0, 21)
  else if c.rate ≤ cnt s.cs e.tm then (0, 22)
  else (s.next, 0)
def raise (c : C) (s : St) (t : Int) : St :=
  { s with top := max s.top t, cs := s.cs.filter (fun p => decide (max (-1) (max s.top t - c.late - 1) < p.1)) }
def take (c : C) (s : St) (e : En) : St := raise c { s with tab := Pq.put s.tab e.pr e.ep e.sq s.next, next := s.next + 1, cs := bump s.cs e.tm } e.tm
def apply (c : C) (s : St) (e : En) : St × (Int × Int) :=
  if e.kd = 0 then
    if (look c s e).2 = 0 then (take c s e, look c s e)
    else if (look c s e).2 = 5 then (s, look c s e)
    else ({ s with refused := s.refused + 1 }, look c s e)
  else if e.kd = 1 then
    match Pq.fence s.tab e.pr with
    | (some (t, ep), z) => ({ s with tab := t }, (ep, z))
    | (none, z) => (s, (0, z))
  else if e.kd = 2 then
    if ¬ inB e.tm then (s, (0, 3)) else if s.now + c.ahead < e.tm then (s, (0, 21)) else (raise c s e.tm, (0, 0))
  else if e.kd = 3 then
    if ¬ inB e.tm then (s, (0, 3)) else ({ s with now := max s.now e.tm }, (0, 0))
  else (s, (0, 1))

/-! ### Counts -/
/-- Times that ascend from behind a number, each with a number from 1 to a greatest. -/
def Up (r : Int) : Int → List (Int × Int) → Prop
  | _, [] => True
  | m, p :: l => m < p.1 ∧ 1 ≤ p.2 ∧ p.2 ≤ r ∧ Up r p.1 l
theorem Up.low {r : Int} : ∀ {m m' : Int} {l : List (Int × Int)}, Up r m l → m' ≤ m → Up r m' l
  | _, _, [], _, _ => trivial
  | _, _, _ :: _, h, hm => ⟨Int.lt_of_le_of_lt hm h.1, h.2⟩
theorem cnt_low {r : Int} : ∀ {m : Int} {l : List (Int × Int)} {t : Int}, Up r m l → t ≤ m → cnt l t = 0
  | _, [], _, _, _ => rfl
  | m, p :: l, t, h, ht => by
    obtain ⟨h1, h2, h3, h4⟩ := h
    unfold cnt
    rw [if_neg (by omega)]
    exact cnt_low h4 (by omega)
theorem cnt_nonneg {r : Int} : ∀ {m : Int} {l : List (Int × Int)} (t : Int), Up r m l → 0 ≤ cnt l t
  | _, [], _, _ => Int.le_refl _
  | m, p :: l, t, h => by
    obtain ⟨h1, h2, h3, h4⟩ := h
    unfold cnt
    split
    · omega
    · exact cnt_nonneg t h4
theorem up_bump {r : Int} (hr : 1 ≤ r) : ∀ {m : Int} {l : List (Int × Int)} {t : Int}, Up r m l → m < t → cnt l t < r → Up r m (bump l t)
  | m, [], t, _, ht, hc => ⟨ht, Int.le_refl _, hr, trivial⟩
  | m, p :: l, t, h, ht, hc => by
    obtain ⟨h1, h2, h3, h4⟩ := h
    unfold bump
    split
    · next k => exact ⟨ht, Int.le_refl _, hr, k, h2, h3, h4⟩
    · next k =>
      unfold cnt at hc
      split
      · next k2 =>
        rw [if_pos k2] at hc
        exact ⟨ht, by show 1 ≤ p.2 + 1; omega, by show p.2 + 1 ≤ r; omega, by rw [← k2]; exact h4⟩
      · next k2 =>
        rw [if_neg k2] at hc
        exact ⟨h1, h2, h3, up_bump hr h4 (by omega) hc⟩
theorem cnt_bump : ∀ (l : List (Int × Int)) (t u : Int) {r m : Int}, Up r m l → cnt (bump l t) u = if u = t then cnt l t + 1 else cnt l u
  | [], t, u, _, _, _ => by
    unfold bump cnt
    by_cases h : u = t
    · rw [if_pos h.symm, if_pos h]; rfl
    · rw [if_neg (fun k => h k.symm), if_neg h]
      rfl
  | p :: l, t, u, r, m, h => by
    obtain ⟨h1, h2, h3, h4⟩ := h
    unfold bump
    split
    · next k =>
      have e0 : cnt (p :: l) t = 0 := cnt_low (r := r) (m := p.1 - 1) ⟨by omega, h2, h3, h4⟩ (by omega)
      rw [e0]
      conv => lhs; unfold cnt
      by_cases q : u = t
      · rw [if_pos q.symm, if_pos q]; rfl
      · rw [if_neg (fun f => q f.symm), if_neg q]
    · next k =>
      split
      · next k2 =>
        by_cases q : u = t
        · rw [if_pos q]
          unfold cnt
          rw [if_pos q.symm, if_pos k2]
        · rw [if_neg q]
          unfold cnt
          rw [if_neg (fun f => q f.symm), if_neg (fun f => q (by rw [← f, k2]))]
      · next k2 =>
        conv => lhs; unfold cnt
        by_cases q : u = t
        · rw [if_pos q, if_neg (by rw [q]; exact k2), cnt_bump l t u h4, if_pos q]
          conv => rhs; unfold cnt
          rw [if_neg k2]
        · rw [if_neg q]
          conv => rhs; unfold cnt
          split
          · rfl
          · rw [cnt_bump l t u h4, if_neg q]
theorem up_filter {r : Int} : ∀ {m : Int} (m' : Int) {l : List (Int × Int)}, Up r m l → m ≤ m' → Up r m' (l.filter (fun p => decide (m' < p.1)))
  | _, _, [], _, _ => trivial
  | m, m', p :: l, h, hm => by
    obtain ⟨h1, h2, h3, h4⟩ := h
    rw [List.filter_cons]
    split
    · next k =>
      have k : m' < p.1 := by simpa using k
      refine ⟨k, h2, h3, ?_⟩
      have : l.filter (fun p => decide (m' < p.1)) = l := by
        have key : ∀ {m : Int} {l : List (Int × Int)}, Up r m l → m' < m → l.filter (fun p => decide (m' < p.1)) = l := by
          intro m l
          induction l generalizing m with
          | nil => intro _ _; rfl
          | cons q l ih =>
            intro g gm
            obtain ⟨g1, g2, g3, g4⟩ := g
            rw [List.filter_cons, if_pos (by simp; omega), ih g4 (by omega)]
        exact key h4 k
      rw [this]
      exact h4
    · next k =>
      have k : ¬ m' < p.1 := by simpa using k
      exact up_filter m' h4 (by omega)
theorem cnt_filter : ∀ (l : List (Int × Int)) (m t : Int), cnt (l.filter (fun p => decide (m < p.1))) t = if m < t then cnt l t else 0
  | [], _, _ => by unfold cnt; simp
  | p :: l, m, t => by
    rw [List.filter_cons]
    split
    · next k =>
      have k : m < p.1 := by simpa using k
      unfold cnt
      split
      · next q => rw [if_pos (by omega)]
      · exact cnt_filter l m t
    · next k =>
      have k : ¬ m < p.1 := by simpa using k
      rw [cnt_filter l m t]
      split
      · next q =>
        conv => rhs; unfold cnt
        rw [if_neg (by omega)]
      · rfl
theorem up_mem {r : Int} : ∀ {m : Int} {l : List (Int × Int)} {p : Int × Int}, Up r m l → p ∈ l → m < p.1 ∧ 1 ≤ p.2 ∧ p.2 ≤ r ∧ cnt l p.1 = p.2
  | m, q :: l, p, h, hp => by
    obtain ⟨h1, h2, h3, h4⟩ := h
    rcases List.mem_cons.1 hp with e | e
    · rw [e]
      exact ⟨h1, h2, h3, by unfold cnt; rw [if_pos rfl]⟩
    · obtain ⟨g1, g2, g3, g4⟩ := up_mem h4 e
      refine ⟨Int.lt_trans h1 g1, g2, g3, ?_⟩
      unfold cnt
      rw [if_neg (by omega)]
      exact g4
theorem cnt_mem : ∀ {l : List (Int × Int)} {t : Int}, cnt l t ≠ 0 → (t, cnt l t) ∈ l
  | [], _, h => absurd rfl h
  | p :: l, t, h => by
    unfold cnt at h ⊢
    split
    · next k =>
      rw [← k]
      exact List.mem_cons_self ..
    · next k =>
      rw [if_neg k] at h
      exact List.mem_cons_of_mem _ (cnt_mem h)
/-- Counts are what they say of each time. -/
theorem up_ext {r : Int} : ∀ {m : Int} {l k : List (Int × Int)}, Up r m l → Up r m k → (∀ t, cnt l t = cnt k t) → l = k
  | _, [], [], _, _, _ => rfl
  | m, [], q :: k, _, h2, h => by
    have := h q.1
    obtain ⟨g1, g2, g3, g4⟩ := h2
    unfold cnt at this
    rw [if_pos rfl] at this
    omega
  | m, p :: l, [], h1, _, h => by
    have := h p.1
    obtain ⟨g1, g2, g3, g4⟩ := h1
    unfold cnt at this
    rw [if_pos rfl] at this
    omega
  | m, p :: l, q :: k, h1, h2, h => by
    obtain ⟨a1, a2, a3, a4⟩ := h1
    obtain ⟨b1, b2, b3, b4⟩ := h2
    have hp : p.1 = q.1 := by
      rcases Int.lt_trichotomy p.1 q.1 with f | f | f
      · have e := h p.1
        have e2 : cnt (q :: k) p.1 = 0 := cnt_low (r := r) (m := q.1 - 1) ⟨by omega, b2, b3, b4⟩ (by omega)
        rw [e2] at e
        unfold cnt at e
        rw [if_pos rfl] at e
        omega
      · exact f
      · have e := h q.1
        have e2 : cnt (p :: l) q.1 = 0 := cnt_low (r := r) (m := p.1 - 1) ⟨by omega, a2, a3, a4⟩ (by omega)
        rw [e2] at e
        unfold cnt at e
        rw [if_pos rfl] at e
        omega
    have hq : p.2 = q.2 := by
      have e := h p.1
      unfold cnt at e
      rw [if_pos rfl, if_pos hp.symm] at e
      exact e
    have hpq : p = q := Prod.ext hp hq
    rw [hpq] at a4 h ⊢
    rw [up_ext a4 b4 (fun t => ?_)]
    by_cases f : q.1 = t
    · rw [← f, cnt_low a4 (Int.le_refl _), cnt_low b4 (Int.le_refl _)]
    · have e := h t
      unfold cnt at e
      rw [if_neg f, if_neg f] at e
      exact e

/-! ### What always holds -/
structure Ok (c : C) (s : St) : Prop where
  now : inB s.now
  top : -1 ≤ s.top ∧ s.top ≤ 1099511627776
  tab : Pq.Right s.tab
  up : Up c.rate (closed c s) s.cs
  le : ∀ p ∈ s.cs, p.1 ≤ s.top
  next : 0 ≤ s.next
  ref : 0 ≤ s.refused
theorem ok_new (c : C) : Ok c new := ⟨⟨by decide, by decide⟩, ⟨by decide, by decide⟩, ⟨by decide, trivial⟩, trivial, fun p h => (by cases h), by decide, by decide⟩
theorem look_zero {c : C} {s : St} {e : En} (h : (look c s e).2 = 0) : (Pq.look s.tab e.pr e.ep e.sq).2 = 0 ∧ inB e.tm ∧ e.sh = some true ∧ closed c s < e.tm ∧ e.tm ≤ s.now + c.ahead ∧ cnt s.cs e.tm < c.rate ∧ look c s e = (s.next, 0) := by
  unfold look at h ⊢
  split at h
  · next k => exact absurd h k
  · next k1 =>
    rw [if_neg k1]
    split at h
    · cases h
    · next k2 =>
      rw [if_neg k2]
      split at h
      · cases h
      · next k3 =>
        rw [if_neg k3]
        split at h
        · cases h
        · next k4 =>
          rw [if_neg k4]
          split at h
          · cases h
          · next k5 =>
            rw [if_neg k5]
            split at h
            · cases h
            · next k6 =>
              rw [if_neg k6]
              split at h
              · cases h
              · next k7 =>
                rw [if_neg k7]
                refine ⟨Decidable.not_not.1 k1, Decidable.not_not.1 k2, ?_, by omega, by omega, by omega, rfl⟩
                cases hs : e.sh with
                | none => exact absurd hs k3
                | some b =>
                  cases b with
                  | false => exact absurd hs k4
                  | true => rfl
theorem closed_raise (c : C) (s : St) (t : Int) : closed c (raise c s t) = max (-1) (max s.top t - c.late - 1) := rfl
theorem closed_mono (c : C) (s : St) (t : Int) : closed c s ≤ closed c (raise c s t) := by rw [closed_raise]; unfold closed; omega
theorem ok_raise {c : C} {s : St} (h : Ok c s) {t : Int} (ht : inB t) : Ok c (raise c s t) := by
  obtain ⟨h1, h2, h3, h4, h5, h6, h7⟩ := h
  unfold inB at ht
  refine ⟨h1, ?_, h3, ?_, fun p hp => ?_, h6, h7⟩
  · show -1 ≤ max s.top t ∧ max s.top t ≤ _
    omega
  · exact up_filter _ h4 (closed_mono c s t)
  · have := h5 p (List.mem_filter.1 hp).1
    show p.1 ≤ max s.top t
    omega
theorem bump_mem : ∀ {l : List (Int × Int)} {t : Int} {p : Int × Int}, p ∈ bump l t → p.1 = t ∨ p ∈ l
  | [], t, p, h => by
    unfold bump at h
    left
    rw [List.mem_singleton.1 h]
  | q :: l, t, p, h => by
    unfold bump at h
    split at h
    · rcases List.mem_cons.1 h with e | e
      · left; rw [e]
      · exact Or.inr e
    · split at h
      · rcases List.mem_cons.1 h with e | e
        · left; rw [e]
        · exact Or.inr (List.mem_cons_of_mem _ e)
      · rcases List.mem_cons.1 h with e | e
        · right
          rw [e]
          exact List.mem_cons_self ..
        · rcases bump_mem e with f | f
          · exact Or.inl f
          · exact Or.inr (List.mem_cons_of_mem _ f)
theorem ok_take {c : C} (hc : c.right) {s : St} (h : Ok c s) {e : En} (hl : (look c s e).2 = 0) : Ok c (take c s e) := by
  obtain ⟨h1, h2, h3, h4, h5, h6, h7⟩ := h
  obtain ⟨g1, g2, g3, g4, g5, g6, g7⟩ := look_zero hl
  have ht := g2
  unfold inB at ht
  have hup : Up c.rate (closed c s) (bump s.cs e.tm) := up_bump (by unfold C.right at hc; omega) h4 g4 g6
  refine ⟨h1, ?_, Pq.put_right h3 _ _ _ _, up_filter _ hup (closed_mono c s e.tm), fun p hp => ?_, ?_, h7⟩
  · show -1 ≤ max s.top e.tm ∧ max s.top e.tm ≤ _
    omega
  · show p.1 ≤ max s.top e.tm
    rcases bump_mem (List.mem_filter.1 hp).1 with f | f
    · omega
    · have := h5 p f
      omega
  · show 0 ≤ s.next + 1
    omega
theorem ok_apply {c : C} (hc : c.right) {s : St} (h : Ok c s) (e : En) : Ok c (apply c s e).1 := by
  unfold apply
  split
  · split
    · next k => exact ok_take hc h k
    · split
      · exact h
      · exact ⟨h.now, h.top, h.tab, h.up, h.le, h.next, by have := h.ref; show 0 ≤ s.refused + 1; omega⟩
  · split
    · split
      · next t ep z hf => exact ⟨h.now, h.top, Pq.fence_right h.tab hf, h.up, h.le, h.next, h.ref⟩
      · exact h
    · split
      · split
        · exact h
        · split
          · exact h
          · next k _ => exact ok_raise h (Decidable.not_not.1 k)
      · split
        · split
          · exact h
          · next k =>
            refine ⟨?_, h.top, h.tab, h.up, h.le, h.next, h.ref⟩
            have k := Decidable.not_not.1 k
            have h0 := h.now
            unfold inB at k h0 ⊢
            show 0 ≤ max s.now e.tm ∧ max s.now e.tm ≤ _
            omega
        · exact h
/-- The result of an entry is an acceptance exactly if its look is. -/
theorem put_ok {c : C} {s : St} {e : En} (hk : e.kd = 0) : (apply c s e).2 = look c s e := by
  unfold apply
  rw [if_pos hk]
  split
  · rfl
  · split <;> rfl
end In
end Go.Proofs.Ytmgpfkckafdbmaa
