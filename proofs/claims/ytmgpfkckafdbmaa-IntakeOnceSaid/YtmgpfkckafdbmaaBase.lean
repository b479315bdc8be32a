/-
  What the contracts of this seat ask of a world (the library's tables and sentinels as they are laid, and room for them), and the library's contracts in one form: a value, and of what was there nothing has turned.
-/
import Derived.Test.YtmgpfkckafdbmaaShelf
import Derived.Test.YtmgpfkckafdbmaaPlain
import Derived.WalkKit
import Derived.ProofKit
import Derived.WalkSmall
import Derived.OwnWalk
import Derived.Outline
import Derived.Lib.Hide
import Derived.Lib.AppendStr
namespace Go.Proofs.Ytmgpfkckafdbmaa
open Go Go.RowKit Go.Sort

theorem below_grow (w : World) (k : Nat) (os : Array Obj) : Below w.heap.size w (grow (w.drewN k) os) :=
  ⟨rfl, rfl, rfl, by simp [grow, World.drewN], fun i hi => by simp [grow, World.drewN, Array.getElem?_append, hi]⟩
theorem below_drewN (w : World) (k : Nat) : Below w.heap.size w (w.drewN k) := ⟨rfl, rfl, rfl, Nat.le_refl _, fun _ _ => rfl⟩

/-! ### The library, in one form -/
/-- 'found', 'before', 'after': strings.Cut at one byte. -/
def cutV (c : UInt8) (s : List UInt8) : Value := match Wire.cutAt c s with
  | some p => .tuple #[.string ⟨p.1.toArray⟩, .string ⟨p.2.toArray⟩, .bool true]
  | none => .tuple #[.string ⟨s.toArray⟩, .string ⟨#[]⟩, .bool false]
/-! ### A strings.Builder of the call's own -/
theorem infoByte : (Try.prog.info? 5).map (fun i => (i.zero, i.size, i.bytes)) = some (some (.int .u8 0), 1, 1) := by kernel_rfl

theorem owned_on {w w' : World} {B : Nat} {e : TypeId} {k : Nat} {v : Value} {n : Nat} {xs : List Value} (h : w.ownsRow B e k v n xs) (hb : Below w.heap.size w w') : w'.ownsRow B e k v n xs :=
  h.kept (row := none) ⟨hb.os, hb.tape, hb.output, hb.size, fun i hi _ => hb.block i hi⟩ (by by_cases h0 : v.ownBlock = none; exact Or.inl h0; exact Or.inr h0)
theorem builder_on {w w' : World} {T e : TypeId} {B b : Nat} {p : Value} {bs : List Value} (h : Lib.BuilderAt T e B b p bs w) (hb : Below w.heap.size w w') : Lib.BuilderAt T e B b p bs w' := by
  have hlt := h.lt
  obtain ⟨hB, v, hk, hown, hne⟩ := h
  exact ⟨hB, v, (hb.block b hlt).trans hk, owned_on hown hb, hne⟩

/-- Blocks of cells that are no bytes, other than b, stand as they did. -/
def KeepsRows (b : Nat) (w w' : World) : Prop := ∀ (g : Nat) (cs : Array Value) (t : TypeId) (fz : Nat × Nat), g ≠ b → t ≠ 5 → w.heap[g]? = some (.cells cs t fz) → w'.heap[g]? = some (.cells cs t fz)
theorem KeepsRows.refl (b : Nat) (w : World) : KeepsRows b w w := fun _ _ _ _ _ _ h => h
theorem KeepsRows.trans {b : Nat} {x y z : World} (h : KeepsRows b x y) (k : KeepsRows b y z) : KeepsRows b x z := fun g cs t fz hg ht hx => k g cs t fz hg ht (h g cs t fz hg ht hx)
theorem KeepsRows.set (b o : Nat) (w : World) (v : Value) : KeepsRows b w (w.setCell ⟨b, o, none⟩ v) := fun _ _ _ _ hg _ h => (Below.heap_setCell _ _ _ _ hg).trans h
theorem KeepsRows.of {b : Nat} {w w' : World} (h : Below w.heap.size w w') : KeepsRows b w w' := fun g _ _ _ _ _ hx => (h.block g (Array.getElem?_eq_some_iff.1 hx).1).trans hx
theorem KeepsRows.alloc (b : Nat) (w : World) (o : Obj) : KeepsRows b w (w.alloc o) := .of ((Below.refl _ _).alloc (Nat.le_refl _) _)
theorem KeepsRows.grown {b B : Nat} {w w' : World} {v : Value} {n : Nat} {xs : List Value} (hg : w.grownBy w' v.ownBlock) (hown : w.ownsRow B 5 1 v n xs) : KeepsRows b w w' := by
  intro g cs t fz _ ht hx
  refine (hg.block g (Array.getElem?_eq_some_iff.1 hx).1 ?_).trans hx
  intro he
  rcases hown.2 with ⟨rfl, _⟩ | ⟨g', cap, cur, rfl, _, hh, _⟩
  · cases he
  · injection he with he
    subst he
    rw [hx] at hh
    injection hh with hh
    injection hh with _ h2
    exact ht h2

end Go.Proofs.Ytmgpfkckafdbmaa
