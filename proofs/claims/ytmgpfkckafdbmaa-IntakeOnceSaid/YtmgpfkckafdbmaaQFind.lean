/-
  Where a producer stands in a table, or would have to stand: by the number of those before it. Nothing of the program stands here. No condition.
-/
import Derived.Test.YtmgpfkckafdbmaaQModel
namespace Go.Proofs.Ytmgpfkckafdbmaa
namespace Pq

/-- k producers come before a. -/
structure At (s : List P) (a : Int) (k : Nat) : Prop where
  le : k ≤ s.length
  lo : ∀ i x, i < k → s[i]? = some x → x.id < a
  hi : ∀ i x, k ≤ i → s[i]? = some x → a ≤ x.id
theorem At.tail {q : P} {s : List P} {a : Int} {k : Nat} (h : At (q :: s) a (k + 1)) : q.id < a ∧ At s a k :=
  ⟨h.lo 0 q (by omega) rfl, by have := h.le; simp at this; exact this, fun i x hi hx => h.lo (i + 1) x (by omega) (by simpa using hx), fun i x hi hx => h.hi (i + 1) x (by omega) (by simpa using hx)⟩
theorem find_at : ∀ {m : Int} {s : List P} {a : Int} {k : Nat}, Tab m s → At s a k → (find s a = none ∧ ∀ x, s[k]? = some x → x.id ≠ a) ∨ ∃ x, s[k]? = some x ∧ x.id = a ∧ find s a = some x
  | _, [], _, _, _, _ => Or.inl ⟨rfl, fun x hx => by simp at hx⟩
  | m, q :: s, a, 0, h, g => by
    have h0 := g.hi 0 q (Nat.le_refl _) rfl
    by_cases e : q.id = a
    · exact Or.inr ⟨q, rfl, e, by unfold find; rw [if_pos e]⟩
    · refine Or.inl ⟨?_, fun x hx => by injection hx with hx; rw [← hx]; exact e⟩
      unfold find
      rw [if_neg e]
      exact find_low h.2.2.2 (by omega)
  | m, q :: s, a, k + 1, h, g => by
    obtain ⟨g1, g2⟩ := g.tail
    have e : find (q :: s) a = find s a := by
      conv => lhs; unfold find
      rw [if_neg (by omega)]
    rw [e]
    simpa using find_at h.2.2.2 g2
theorem set_at : ∀ {m : Int} {s : List P} {p : P} {k : Nat}, Tab m s → At s p.id k → (find s p.id = none → set s p = s.take k ++ p :: s.drop k) ∧ (find s p.id ≠ none → set s p = s.set k p)
  | _, [], p, k, _, g => by
    have : k = 0 := by have := g.le; simpa using this
    subst this
    exact ⟨fun _ => rfl, fun h => absurd rfl h⟩
  | m, q :: s, p, 0, h, g => by
    have h0 := g.hi 0 q (Nat.le_refl _) rfl
    by_cases e : q.id = p.id
    · have e1 : find (q :: s) p.id = some q := by unfold find; rw [if_pos e]
      rw [e1]
      refine ⟨fun f => (by cases f), fun _ => ?_⟩
      unfold set
      rw [if_neg (by omega), if_pos e]
      rfl
    · have e1 : find (q :: s) p.id = none := by
        unfold find
        rw [if_neg e]
        exact find_low h.2.2.2 (by omega)
      rw [e1]
      refine ⟨fun _ => ?_, fun f => absurd rfl f⟩
      unfold set
      rw [if_pos (by omega)]
      rfl
  | m, q :: s, p, k + 1, h, g => by
    obtain ⟨g1, g2⟩ := g.tail
    have e : find (q :: s) p.id = find s p.id := by
      conv => lhs; unfold find
      rw [if_neg (by omega)]
    rw [e]
    have e2 : set (q :: s) p = q :: set s p := by
      conv => lhs; unfold set
      rw [if_neg (by omega), if_neg (by omega)]
    rw [e2]
    obtain ⟨k1, k2⟩ := set_at h.2.2.2 g2
    exact ⟨fun f => by rw [k1 f]; rfl, fun f => by rw [k2 f]; rfl⟩
/-- In a table, who is not before a stays so. -/
theorem Tab.mono : ∀ {m : Int} {s : List P}, Tab m s → ∀ {i j : Nat} {x y : P}, i ≤ j → s[i]? = some x → s[j]? = some y → x.id ≤ y.id
  | m, [], _, _, _, _, _, _, hx, _ => by simp at hx
  | m, q :: s, h, 0, 0, x, y, _, hx, hy => by rw [hx] at hy; injection hy with hy; rw [hy]; exact Int.le_refl _
  | m, q :: s, h, 0, j + 1, x, y, _, hx, hy => by
    injection hx with hx
    subst hx
    have := (Tab.mem h.2.2.2 (List.mem_of_getElem? (show s[j]? = some y by simpa using hy))).1
    omega
  | m, q :: s, h, i + 1, j + 1, x, y, hij, hx, hy => Tab.mono h.2.2.2 (Nat.le_of_succ_le_succ hij) (by simpa using hx) (by simpa using hy)
  | m, q :: s, h, i + 1, 0, _, _, hij, _, _ => absurd hij (by omega)
end Pq
end Go.Proofs.Ytmgpfkckafdbmaa
