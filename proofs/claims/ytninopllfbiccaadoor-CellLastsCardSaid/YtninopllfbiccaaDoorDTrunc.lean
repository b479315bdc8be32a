/-
  disk's method Truncate.
-/
import Derived.Test.YtninopllfbiccaaDoorDSync
namespace Go.Proofs.YtninopllfbiccaaDoor
set_option maxRecDepth 100000
open Go Go.RowKit Go.Maps Dk

theorem DiskAt.refile {w w' : World} {d bm : Nat} {blk : Nat → Nat} {own own' : Nat → Nat → Prop} {qv kv : Value} {X : D} (h : DiskAt w d bm blk own qv kv X) {g : Nat → F} (hF : FilesIn w' blk own' g) {T : Nat → Prop} (hk : Kept T w w') (hT : ∀ k, T k → ∃ i, i < 16 ∧ own i k)
    (ho : ∀ i, i < 16 → ∀ k, own' i k → own i k ∨ w.heap.size ≤ k) (hi : D.Inv { X with file := g }) : DiskAt w' d bm blk own' qv kv { X with file := g } := by
  have hnd : ∀ k, InD d bm own qv kv k → (k = d ∨ k = bm ∨ qv.ownBlock = some k ∨ kv.ownBlock = some k) → ¬ T k := fun k _ e ht => by
    obtain ⟨i, hi, ho⟩ := hT k ht
    have := h.ownNe i hi k ho
    rcases e with e | e | e | e
    · exact this.1 e
    · exact this.2.1 e
    · exact this.2.2.1 e
    · exact this.2.2.2 e
  refine { cell := hk.heap h.cell (hnd d (Or.inl rfl) (Or.inl rfl)), files := h.files.kept hk (hnd bm (Or.inr (Or.inl rfl)) (Or.inr (Or.inl rfl))), queue := own_kept h.queue hk (fun k e => hnd k (Or.inr (Or.inr (Or.inl e))) (Or.inr (Or.inr (Or.inl e)))), keep := own_kept h.keep hk (fun k e => hnd k (Or.inr (Or.inr (Or.inr (Or.inl e)))) (Or.inr (Or.inr (Or.inr e)))), file := hF.file, inv := hi, lost := h.lost, left := h.left, keepIn := h.keepIn, keepLen := h.keepLen, ownLt := hF.lt, ownNe := fun i hi k hx => ?_, ownOne := hF.one, apart := h.apart }
  rcases ho i hi k hx with h1 | h1
  · exact h.ownNe i hi k h1
  · have g1 := h.lt (Or.inl rfl)
    have g2 := h.lt (Or.inr (Or.inl rfl))
    exact ⟨by omega, by omega, fun e => by have := own_lt h.queue e; omega, fun e => by have := own_lt h.keep e; omega⟩

end Go.Proofs.YtninopllfbiccaaDoor
