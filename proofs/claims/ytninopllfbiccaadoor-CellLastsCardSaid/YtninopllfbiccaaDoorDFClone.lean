/-
  disk's files: a copy of a file.
-/
import Derived.Test.YtninopllfbiccaaDoorDClone
namespace Go.Proofs.YtninopllfbiccaaDoor
set_option maxRecDepth 100000
open Go Go.RowKit Go.Maps Dk

theorem PendAt.copy {w : World} {b : Nat} {s : Nat → Bool} (h : PendAt w b s) : ∃ es clock, w.heap[b]? = some (.map es clock) ∧ ∀ (w' : World) (b' : Nat), w'.heap[b']? = some (.map es clock) → PendAt w' b' s := by
  obtain ⟨D, ⟨es, clock, hb, r⟩, h2⟩ := h
  exact ⟨es, clock, hb, fun w' b' h' => ⟨D, ⟨es, clock, h', r⟩, h2⟩⟩

/-- What is known behind each of the copies of a file's parts. -/
structure Part (w w' : World) (p : Nat) (nv dv : Value) (mb : Nat) : Prop where
  c0 : w'.cell? ⟨p, 0, none⟩ = some nv
  c1 : w'.cell? ⟨p, 1, none⟩ = some dv
  c2 : w'.cell? ⟨p, 2, none⟩ = some (.map (some mb))

end Go.Proofs.YtninopllfbiccaaDoor
