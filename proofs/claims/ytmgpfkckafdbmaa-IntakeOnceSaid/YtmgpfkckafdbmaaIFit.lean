/-
  Known columns, and what a row is to them (chapter 11): there are none, or it fits, or not. Nothing of the program stands here. No condition.
-/
import Derived.Test.YtmgpfkckafdbmaaIModel
import Derived.Test.YtmgpfkckafdbmaaVText
namespace Go.Proofs.Ytmgpfkckafdbmaa
namespace In
open Vl

/-- A source, a version of its schema, the types of its columns. -/
structure Kn where
  src : List UInt8
  sch : Int
  cols : List Int
def colsOf : List Kn → List UInt8 → Int → Option (List Int)
  | [], _, _ => none
  | k :: l, s, n => if k.src = s ∧ k.sch = n then some k.cols else colsOf l s n
def fits (ts : List Int) (row : List V) : Bool := rightR row && decide (row.map V.k = ts)
def shape (ks : List Kn) (s : List UInt8) (n : Int) (row : List V) : Option Bool := (colsOf ks s n).map (fun ts => fits ts row)
theorem fits_iff (ts : List Int) (row : List V) : fits ts row = true ↔ rightR row = true ∧ row.length = ts.length ∧ ∀ (i : Nat) (v : V) (t : Int), row[i]? = some v → ts[i]? = some t → v.k = t := by
  unfold fits
  rw [Bool.and_eq_true, decide_eq_true_iff]
  constructor
  · rintro ⟨h1, h2⟩
    refine ⟨h1, by rw [← h2, List.length_map], fun i v t hv ht => ?_⟩
    rw [← h2, List.getElem?_map, hv] at ht
    injection ht
  · rintro ⟨h1, h2, h3⟩
    refine ⟨h1, List.ext_getElem? (fun i => ?_)⟩
    rw [List.getElem?_map]
    cases hr : row[i]? with
    | none =>
      have := List.getElem?_eq_none_iff.1 hr
      rw [show ts[i]? = none from List.getElem?_eq_none (by omega)]
      rfl
    | some v =>
      have hi := (List.getElem?_eq_some_iff.1 hr).1
      obtain ⟨t, ht⟩ : ∃ t, ts[i]? = some t := ⟨_, List.getElem?_eq_getElem (by omega)⟩
      rw [ht, ← h3 i v t hr ht]
      rfl
/-- A value of another kind. -/
theorem fits_kind {ts : List Int} {row : List V} {i : Nat} {v : V} {t : Int} (hv : row[i]? = some v) (ht : ts[i]? = some t) (h : v.k ≠ t) : fits ts row = false := by
  cases hf : fits ts row with
  | false => rfl
  | true => exact absurd (((fits_iff ts row).1 hf).2.2 i v t hv ht) h
theorem colsOf_skip {k : Kn} {l : List Kn} {s : List UInt8} {n : Int} (h : ¬ (k.src = s ∧ k.sch = n)) : colsOf (k :: l) s n = colsOf l s n := if_neg h
theorem colsOf_here {k : Kn} {l : List Kn} {s : List UInt8} {n : Int} (h : k.src = s ∧ k.sch = n) : colsOf (k :: l) s n = some k.cols := if_pos h
end In
end Go.Proofs.Ytmgpfkckafdbmaa
