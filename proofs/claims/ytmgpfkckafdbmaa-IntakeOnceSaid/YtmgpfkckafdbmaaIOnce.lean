/-
  Each record once: the positions of what a partition accepts, and what sending it again comes to (chapter 11, P11.8); what is refused changes nothing. Nothing of the program stands here. No condition.
-/
import Derived.Test.YtmgpfkckafdbmaaIModel
namespace Go.Proofs.Ytmgpfkckafdbmaa
namespace In
open Pq (inB inA)

/-- What has been accepted so far, in its order: at each position the record of this position. -/
structure Acc (s : St) (l : List Pq.K) : Prop where
  inv : Pq.Inv s.tab l (s.next - 1)
  next : s.next = l.length
  pos : ∀ (i : Nat) (k : Pq.K), l[i]? = some k → k.pos = i
  small : ∀ k ∈ l, inA k.id ∧ inA k.ep ∧ inA k.seq
theorem acc_new : Acc new [] := ⟨Pq.inv_nil _, rfl, fun i k h => (by simp at h), fun k h => (by cases h)⟩
theorem Acc.same {s t : St} {l : List Pq.K} (h : Acc s l) (h1 : t.tab = s.tab) (h2 : t.next = s.next) : Acc t l := ⟨by rw [h1, h2]; exact h.inv, by rw [h2]; exact h.next, h.pos, h.small⟩
/-- A record is accepted: its position is the number of those before, its number that of those of its producer and epoch before. -/
theorem Acc.take {c : C} {s : St} {l : List Pq.K} (h : Acc s l) {e : En} (hl : (look c s e).2 = 0) (hn : s.next ≤ 1099511627776) :
    look c s e = ((l.length : Int), 0) ∧ ((Pq.of l e.pr e.ep).length : Int) = e.sq ∧ Acc (take c s e) (l ++ [⟨e.pr, e.ep, e.sq, l.length⟩]) := by
  obtain ⟨g1, g2, g3, g4, g5, g6, g7⟩ := look_zero hl
  obtain ⟨q1, q2, q3⟩ := Pq.Inv.next h.inv g1
  obtain ⟨a1, a2, a3, _⟩ := Pq.look_ok g1
  obtain ⟨p1, p2⟩ := Pq.Inv.put h.inv (pos' := s.next) g1 (by omega) ⟨by have := h.next; omega, hn⟩
  have hnx := h.next
  refine ⟨by rw [g7, hnx], q1, ?_, ?_, fun i k hk => ?_, fun k hk => ?_⟩
  · show Pq.Inv (Pq.put s.tab e.pr e.ep e.sq s.next) _ (s.next + 1 - 1)
    rw [show s.next + 1 - 1 = s.next by omega]
    rw [← hnx]
    exact p2
  · show s.next + 1 = _
    rw [List.length_append, List.length_singleton, hnx]
    omega
  · by_cases hi : i < l.length
    · rw [List.getElem?_append_left hi] at hk
      exact h.pos i k hk
    · rw [List.getElem?_append_right (by omega)] at hk
      have hi2 : i - l.length = 0 := by
        have := (List.getElem?_eq_some_iff.1 hk).1
        simp at this
        omega
      rw [hi2] at hk
      injection hk with hk
      rw [← hk]
      show (l.length : Int) = i
      omega
  · rcases List.mem_append.1 hk with f | f
    · exact h.small k f
    · rw [List.mem_singleton.1 f]
      exact ⟨a1, a2, a3⟩
theorem apply_take {c : C} {s : St} {e : En} (hk : e.kd = 0) (hl : (look c s e).2 = 0) : apply c s e = (take c s e, look c s e) := by
  unfold apply
  rw [if_pos hk, if_pos hl]
theorem Acc.other {c : C} {s : St} {l : List Pq.K} (h : Acc s l) {e : En} (hl : ¬ (e.kd = 0 ∧ (look c s e).2 = 0)) : Acc (apply c s e).1 l := by
  unfold apply
  split
  · next k =>
    split
    · next k2 => exact absurd ⟨k, k2⟩ hl
    · split
      · exact h
      · exact h.same rfl rfl
  · split
    · split
      · next t ep z hf =>
        obtain ⟨_, _, q⟩ := Pq.Inv.fence h.inv hf
        exact ⟨q, h.next, h.pos, h.small⟩
      · exact h
    · split
      · split
        · exact h
        · split
          · exact h
          · exact h.same rfl rfl
      · split
        · split
          · exact h
          · exact h.same rfl rfl
        · exact h
/-- What was accepted is sent again: an old epoch, or its position, or -1. -/
theorem Acc.again {c : C} {s : St} {l : List Pq.K} (h : Acc s l) {i : Nat} {k : Pq.K} (hk : l[i]? = some k) {e : En} (h1 : e.pr = k.id) (h2 : e.ep = k.ep) (h3 : e.sq = k.seq) :
    (look c s e).2 = 18 ∨ look c s e = ((i : Int), 5) ∨ look c s e = (-1, 5) := by
  have hm := List.mem_of_getElem? hk
  obtain ⟨a1, a2, a3⟩ := h.small k hm
  have hold := h.inv.old k hm
  obtain ⟨r, hr⟩ : ∃ r, r = Pq.look s.tab e.pr e.ep e.sq := ⟨_, rfl⟩
  have key : r.2 = 18 ∨ r.2 = 5 := by
    by_cases he : k.ep < (Pq.get s.tab k.id).ep
    · left
      rw [hr, h1, h2, h3]
      unfold Pq.look
      rw [if_neg (fun f => f ⟨a1, a2, a3⟩), if_pos he]
    · have hep : k.ep = (Pq.get s.tab k.id).ep := by omega
      obtain ⟨j, hj⟩ := List.getElem?_of_mem (Pq.mem_of.2 ⟨hm, rfl, rfl⟩ : k ∈ Pq.of l k.id k.ep)
      have hs := h.inv.seqs _ _ _ _ hj
      have hjl := (List.getElem?_eq_some_iff.1 hj).1
      have hc := h.inv.cur k.id
      rw [← hep] at hc
      have hlt : k.seq < (Pq.get s.tab k.id).nx := by omega
      have hf : ¬ (Pq.find s.tab k.id = none ∧ 50 ≤ s.tab.length) := by
        rintro ⟨f, _⟩
        have : (Pq.get s.tab k.id).nx = 0 := by unfold Pq.get; rw [f]; rfl
        unfold inA at a3
        omega
      right
      rw [hr, h1, h2, h3]
      unfold Pq.look
      rw [if_neg (fun f => f ⟨a1, a2, a3⟩), if_neg he, if_neg (by omega), if_neg (by omega), if_neg hf, if_neg (by omega)]
      split <;> rfl
  have hlk : look c s e = r := by
    unfold look
    rw [← hr, if_pos (by omega)]
  rw [hlk]
  rcases key with q | q
  · exact Or.inl q
  · right
    have hr2 : Pq.look s.tab k.id k.ep k.seq = (r.1, 5) := by rw [← h1, ← h2, ← h3, ← hr, ← q]
    obtain ⟨_, _, t3, t4⟩ := Pq.Inv.twice h.inv hr2
    by_cases h20 : ((Pq.of l k.id k.ep).length : Int) - k.seq ≤ 20
    · left
      have := t3 h20 k (Pq.mem_of.2 ⟨hm, rfl, rfl⟩) rfl
      rw [h.pos i k hk] at this
      exact Prod.ext this q
    · right
      exact Prod.ext (t4 (by omega)) q

/-! ### What is refused -/
/-- The number of refused records is nothing that an entry's result, or anything else, goes by. -/
theorem look_ref (c : C) (s : St) (r : Int) (e : En) : look c { s with refused := r } e = look c s e := rfl
theorem apply_ok {c : C} {s : St} (r : Int) {e : En} (h : (apply c s e).2.2 = 0) : (apply c s e).1.refused = s.refused ∧ apply c { s with refused := r } e = ({ (apply c s e).1 with refused := r }, (apply c s e).2) := by
  by_cases k1 : e.kd = 0
  · rw [put_ok k1] at h
    rw [apply_take k1 h, apply_take k1 (show (look c { s with refused := r } e).2 = 0 from h)]
    exact ⟨rfl, rfl⟩
  · unfold apply at h ⊢
    rw [if_neg k1] at h
    rw [if_neg k1, if_neg k1]
    split at h
    · next k2 =>
      rw [if_pos k2, if_pos k2]
      show _ ∧ (match Pq.fence s.tab e.pr with | (some (t, ep), z) => _ | (none, z) => _) = _
      cases hf : Pq.fence s.tab e.pr with
      | mk o z =>
        cases o with
        | none => exact ⟨rfl, rfl⟩
        | some p => exact ⟨rfl, rfl⟩
    · next k2 =>
      rw [if_neg k2, if_neg k2]
      split at h
      · next k3 =>
        rw [if_pos k3, if_pos k3]
        split at h
        · cases h
        · next k4 =>
          rw [if_neg k4, if_neg k4]
          split at h
          · cases h
          · next k5 =>
            rw [if_neg k5]
            have k5' : ¬ ({ s with refused := r } : St).now + c.ahead < e.tm := k5
            rw [if_neg k5']
            exact ⟨rfl, rfl⟩
      · next k3 =>
        rw [if_neg k3, if_neg k3]
        split at h
        · next k4 =>
          rw [if_pos k4, if_pos k4]
          split at h
          · cases h
          · next k5 =>
            rw [if_neg k5, if_neg k5]
            exact ⟨rfl, rfl⟩
        · cases h
theorem fence_err {s : List Pq.P} {a z : Int} {p : List Pq.P × Int} (h : Pq.fence s a = (some p, z)) : z = 0 := by
  obtain ⟨t, ep⟩ := p
  exact (Pq.fence_ok h).2.2.2.2.2
theorem apply_err {c : C} {s : St} {e : En} (h : (apply c s e).2.2 ≠ 0) : (apply c s e).1 = { s with refused := if e.kd = 0 ∧ (apply c s e).2.2 ≠ 5 then s.refused + 1 else s.refused } := by
  unfold apply at h ⊢
  split at h
  · next k1 =>
    rw [if_pos k1]
    split at h
    · next k2 => exact absurd k2 h
    · next k2 =>
      rw [if_neg k2]
      split at h
      · next k3 =>
        rw [if_pos k3]
        rw [if_neg (fun f => f.2 k3)]
      · next k3 =>
        rw [if_neg k3]
        rw [if_pos ⟨k1, k3⟩]
  · next k1 =>
    rw [if_neg k1]
    have hno : ∀ z : Int, ¬ (e.kd = 0 ∧ z ≠ 5) := fun z f => k1 f.1
    rw [if_neg (hno _)]
    split at h
    · next k2 =>
      rw [if_pos k2]
      cases hf : Pq.fence s.tab e.pr with
      | mk o z =>
        rw [hf] at h
        cases o with
        | none => rfl
        | some p => exact absurd (fence_err hf) h
    · next k2 =>
      rw [if_neg k2]
      split at h
      · next k3 =>
        rw [if_pos k3]
        split at h
        · next k4 => rw [if_pos k4]
        · next k4 =>
          rw [if_neg k4]
          split at h
          · next k5 => rw [if_pos k5]
          · exact absurd rfl h
      · next k3 =>
        rw [if_neg k3]
        split at h
        · next k4 =>
          rw [if_pos k4]
          split at h
          · next k5 => rw [if_pos k5]
          · exact absurd rfl h
        · next k4 => rw [if_neg k4]
end In
end Go.Proofs.Ytmgpfkckafdbmaa
