/-
  Readers of package wire: lists. Nums and Texts return the list whose encoding stands there, or no elements.
-/
import Derived.Test.YtljgfnglknpfaaaGreatDoorReadB
namespace Go.Proofs.YtljgfnglknpfaaaGreatDoor
open Go Go.RowKit Go.Sort Wire

theorem infoInt : (Tryz.prog.info? 3).map (fun i => (i.zero, i.size, i.bytes)) = some (some (.int .i64 0), 1, 8) := by kernel_rfl
theorem infoStr : (Tryz.prog.info? 9).map (fun i => (i.zero, i.size, i.bytes)) = some (some (.string ⟨#[]⟩), 1, 16) := by kernel_rfl

theorem owned_only {w w' : World} {B b : Nat} {e : TypeId} {k : Nat} {v : Value} {n : Nat} {xs : List Value} (h : w.ownsRow B e k v n xs) (ho : Only b w w') (hb : b < B) : w'.ownsRow B e k v n xs := by
  refine h.kept (row := some b) ho ?_
  rcases h.2 with ⟨hv, _⟩ | ⟨g, cap, cur, hv, hg, _⟩
  · exact Or.inl (by rw [hv]; rfl)
  · right
    rw [hv]
    simp only [Value.ownBlock]
    intro e
    injection e with e
    omega
theorem owned_row {w : World} {B : Nat} {e : TypeId} {v : Value} {n : Nat} {xs : List Value} (h : w.ownsRow B e 1 v n xs) : RowAt w v xs := by
  obtain ⟨h1, h2⟩ := h
  rcases h2 with ⟨rfl, rfl⟩ | ⟨g, cap, cur, rfl, _, hg, hn, hc, hs, ht⟩
  · have : xs = [] := List.eq_nil_of_length_eq_zero (by omega)
    subst this
    exact ⟨by simp, none, 0, rfl, fun h => absurd rfl h⟩
  · refine ⟨by unfold maxLen at hc; omega, some ⟨g, 0, none⟩, cap, by rw [h1, Nat.mul_one], fun _ => ⟨g, 0, rfl, fun i x hx => ?_⟩⟩
    rw [Lib.cell_of_heap hg, Nat.zero_add]
    rw [← ht] at hx
    have hi : i < n * 1 := by
      rcases Nat.lt_or_ge i (n * 1) with h | h
      · exact h
      · rw [List.getElem?_eq_none (by rw [List.length_take]; omega)] at hx; cases hx
    rw [List.getElem?_take_of_lt hi] at hx
    simpa using hx

theorem rd_grown {w w' : World} {B b : Nat} {r : List UInt8} {f : Bool} {e : TypeId} {v : Value} {n : Nat} {xs : List Value} {o : Obj} (h : Rd w b r f) (hown : w.ownsRow B e 1 v n xs) (hb : b < B) (hg : (w.alloc o).grownBy w' v.ownBlock) : Rd w' b r f := by
  have hlt := h.lt
  show w'.heap[b]? = _
  rw [hg.block b (by simp; omega) (fun e => by have := (hown.lt b e.symm).1; omega), Lib.alloc_old w _ b hlt]
  exact h
theorem only_grown {w0 w w' : World} {b : Nat} {e : TypeId} {v : Value} {n : Nat} {xs : List Value} {o : Obj} (h : Only b w0 w) (hown : w.ownsRow w0.heap.size e 1 v n xs) (hg : (w.alloc o).grownBy w' v.ownBlock) : Only b w0 w' := by
  refine ⟨hg.os.trans h.os, hg.tape.trans h.tape, hg.output.trans h.output, by have := h.size; have := hg.size; simp at this; omega, fun k hk hne => ?_⟩
  have := h.size
  rw [hg.block k (by simp; omega) (fun e => by have := (hown.lt k e.symm).1; omega), Lib.alloc_old w _ k (by omega)]
  exact h.block k hk hne

/-- How a list is read: the list and what is left, or no elements and a reader that has failed. -/
def ListPost {α : Type} (p : List UInt8 → Option (α × List UInt8)) (conv : List α → List Value) (T : TypeId) (r : List UInt8) (b : Nat) (w : World) (e : Ending) (w' : World) : Prop :=
  Only b w w' ∧ ((∃ l q v, rList p r = some (l, q) ∧ e = .returned v ∧ w'.ownsRow w.heap.size T 1 v l.length (conv l) ∧ Rd w' b q false) ∨
    (rList p r = none ∧ e = .returned (.slice none 0 0) ∧ Rd w' b [] true))

theorem rNum_nil : rNum 91 [] = none := rfl

end Go.Proofs.YtljgfnglknpfaaaGreatDoor
