/-
  disk.Copy.
-/
import Derived.Test.YtninopllfbiccaaDoorDNew
import Derived.Test.YtninopllfbiccaaDoorDFClone
namespace Go.Proofs.YtninopllfbiccaaDoor
set_option maxRecDepth 100000
open Go Go.RowKit Go.Maps Dk

/-- The files that were copied so far, each in blocks of its own from block B on. -/
structure FilesDone (w : World) (B : Nat) (blk : Nat → Nat) (own : Nat → Nat → Prop) (g : Nat → F) (left : Nat → Bool) : Prop where
  file : ∀ i, i < 16 → left i = false → FileIn w (blk i) (own i) (g i)
  lt : ∀ i, i < 16 → ∀ x, own i x → x < w.heap.size ∧ B ≤ x
  one : ∀ i j, i < 16 → j < 16 → i ≠ j → ∀ x, own i x → ¬ own j x
theorem FilesDone.kept {w w' : World} {T : Nat → Prop} {B : Nat} {blk : Nat → Nat} {own : Nat → Nat → Prop} {g : Nat → F} {left : Nat → Bool} (h : FilesDone w B blk own g left) (hk : Kept T w w') (hT : ∀ x, B ≤ x → ¬ T x) : FilesDone w' B blk own g left :=
  ⟨fun i hi hl => (h.file i hi hl).kept hk (fun x hx => hT x (h.lt i hi x hx).2), fun i hi x hx => ⟨Nat.lt_of_lt_of_le (h.lt i hi x hx).1 hk.size, (h.lt i hi x hx).2⟩, h.one⟩
theorem secsV_one (q : List (Nat × Nat)) : ∀ u ∈ secsV q, u.oneCell' = true := by
  intro u hu
  unfold secsV at hu
  obtain ⟨p, _, hp⟩ := List.mem_flatMap.1 hu
  simp only [List.mem_cons, List.not_mem_nil, or_false] at hp
  rcases hp with rfl | rfl <;> rfl

end Go.Proofs.YtninopllfbiccaaDoor
