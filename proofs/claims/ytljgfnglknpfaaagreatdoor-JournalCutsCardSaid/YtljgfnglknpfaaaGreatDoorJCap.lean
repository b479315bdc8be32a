/-
  From the form's reading of an argument to a list of strings with its capacity.
-/
import Derived.Test.YtljgfnglknpfaaaGreatDoorJOp
namespace Go.Proofs.YtljgfnglknpfaaaGreatDoor
set_option maxRecDepth 100000
open Go Go.RowKit Go.Sort Dk Go.ChangeShapes Go.ChangeAt Go.WideShapes
section
variable {H : Type} {enc : TypeId × Value → H} {W : World} {base : Nat} {sp : Nat → Bool} {held : Bool}
theorem open_strsC {fuel : Nat} {v : Value} {x : DataW H × List MemPlace} (h : DataW.trod enc Tryz.prog W base sp held fuel 32 [v] = some x) :
    ∃ l a c, v = .slice a l.length c ∧ SrcV W 1 v l.length (strsV l) ∧ l.length ≤ 9223372036854775807 ∧ l.length ≤ c := by
  obtain ⟨l, a, c, hv, h1, h2⟩ := open_strsV h
  refine ⟨l, a, c, hv, h1, h2, ?_⟩
  rcases open_strings Tryz.underlying32 Tryz.underlying9 cellsStr h with ⟨hv', _⟩ | ⟨a', len, cap, zs, hv', _, hl, _⟩
  · obtain rfl : v = .slice none 0 0 := by simpa using hv'
    injection hv with _ e2 e3
    omega
  · obtain rfl : v = .slice (some a') len cap := by simpa using hv'
    injection hv with _ e2 e3
    omega
end
end Go.Proofs.YtljgfnglknpfaaaGreatDoor
