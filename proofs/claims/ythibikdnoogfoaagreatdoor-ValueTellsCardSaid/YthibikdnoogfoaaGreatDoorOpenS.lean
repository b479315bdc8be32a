/-
  From the form's reading of an argument to lists: a list of ints, a list of strings.
-/
import Derived.Test.YthibikdnoogfoaaGreatDoorWords
import Derived.ProofKit
import Derived.OpenShut
import Derived.SliceStrings
import Derived.Deep.Slices
namespace Go.Proofs.YthibikdnoogfoaaGreatDoor
open Go Go.RowKit Go.Sort Wire Go.ChangeShapes Go.ChangeAt

section
variable {H : Type} {enc : TypeId × Value → H} {W : World} {base : Nat} {sp : Nat → Bool} {held : Bool}

theorem cellsS : Tryz.prog.cellsOf 9 = 1 := by kernel_rfl

theorem cell_plain {w : World} {a : Addr} {v : Value} (h : w.cell? a = some v) : ∃ b off, a = ⟨b, off, none⟩ := by
  obtain ⟨b, off, spot⟩ := a
  cases spot with
  | none => exact ⟨b, off, rfl⟩
  | some s =>
    exfalso
    unfold World.cell? at h
    split at h
    · simp at h
    · cases h
theorem row_make (a : Addr) (xs : List Value) (cap : Nat) (hm : xs.length ≤ 9223372036854775807) (h : ∀ i x, xs[i]? = some x → W.cell? (a.add i) = some x) : RowAt W (.slice (some a) xs.length cap) xs := by
  refine ⟨hm, some a, cap, rfl, fun hne => ?_⟩
  cases xs with
  | nil => exact absurd rfl hne
  | cons y ys =>
    have h0 := h 0 y rfl
    obtain ⟨b, off, hb⟩ := cell_plain h0
    have ha : a = ⟨b, off, none⟩ := by
      cases a
      simp [Addr.add] at hb
      simp [hb]
    refine ⟨b, off, by rw [ha], fun i x hx => ?_⟩
    have := h i x hx
    rw [ha] at this
    rw [Lib.add_plain] at this
    exact this

theorem open_list_str {fuel : Nat} {cs : List Value} {x : DataW H × List MemPlace} (h : DataW.trod enc Tryz.prog W base sp held fuel 54 cs = some x) :
    ∃ v l, cs = [v] ∧ RowAt W v (strs l) := by
  rcases open_strings Tryz.underlying54 Tryz.underlying9 cellsS h with ⟨rfl, _⟩ | ⟨a, len, cap, zs, rfl, _, hl, hm, hz, _, hc, _⟩
  · exact ⟨_, [], rfl, ⟨by simp [strs], none, 0, rfl, fun h => absurd rfl h⟩⟩
  · have hzl : len ≤ zs.length := by rw [hz]; split <;> omega
    have hlen : (strs ((zs.take len).map fun s => s.data.toList)).length = len := by simp [strs]; omega
    refine ⟨_, (zs.take len).map fun s => s.data.toList, rfl, ?_⟩
    have key := row_make (W := W) a (strs ((zs.take len).map fun s => s.data.toList)) cap (by rw [hlen]; unfold maxLen at hm; omega) (fun i x hx => ?_)
    · rw [hlen] at key; exact key
    · have hi : i < len := by
        have := (List.getElem?_eq_some_iff.1 hx).1
        omega
      have h1 := hc i (by omega)
      rw [h1]
      simp only [strs, List.getElem?_map, List.getElem?_take_of_lt hi] at hx
      rw [List.getElem?_eq_getElem (by omega)] at hx
      simp only [Option.map_some, Option.some.injEq] at hx
      rw [← hx, List.getD_eq_getElem?_getD, List.getElem?_eq_getElem (by omega)]
      simp

end
end Go.Proofs.YthibikdnoogfoaaGreatDoor
