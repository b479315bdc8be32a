/-
  Small words that the contracts share: results, strings, slices that are read, worlds one behind the other.
-/
import Derived.Test.YtmgpfkckafdbmaaBase
namespace Go.Proofs.Ytmgpfkckafdbmaa
open Go Go.RowKit Go.Sort Wire

theorem str_add (a b : List UInt8) : (⟨a.toArray⟩ : ByteArray) ++ ⟨b.toArray⟩ = ⟨(a ++ b).toArray⟩ := by
  apply ByteArray.ext
  rw [ByteArray.data_append]
  simp
theorem ret_str {a b : ByteArray} (h : a = b) : Ending.returned (.string a) = .returned (.string b) := by rw [h]

theorem ba_size (q : List UInt8) : (⟨q.toArray⟩ : ByteArray).size = q.length := by show q.toArray.size = _; simp
theorem ba_extract (q : List UInt8) (i j : Nat) : (⟨q.toArray⟩ : ByteArray).extract i j = ⟨((q.take j).drop i).toArray⟩ := by
  apply ByteArray.ext
  rw [ByteArray.data_extract]
  simp [List.drop_take]
theorem ba_take (q : List UInt8) (n : Nat) : (⟨q.toArray⟩ : ByteArray).extract 0 n = ⟨(q.take n).toArray⟩ := by rw [ba_extract]; rfl
theorem ba_drop (q : List UInt8) (n : Nat) : (⟨q.toArray⟩ : ByteArray).extract n q.length = ⟨(q.drop n).toArray⟩ := by rw [ba_extract, List.take_length]
theorem chain {w w1 w2 : World} (h : Below w.heap.size w w1) (k : Below w1.heap.size w1 w2) : Below w.heap.size w w2 := h.trans (k.mono h.size)
theorem ret_int {a b : Int} (h : a = b) : Ending.returned (.int .i64 a) = .returned (.int .i64 b) := by rw [h]
theorem ret_bool {a b : Bool} (h : a = b) : Ending.returned (.bool a) = .returned (.bool b) := by rw [h]
/-! ### Slices that are read -/
/-- v is a slice whose elements, of one cell each, are xs. -/
def RowAt (w : World) (v : Value) (xs : List Value) : Prop :=
  xs.length ≤ 9223372036854775807 ∧ ∃ a cap, v = .slice a xs.length cap ∧ (xs ≠ [] → ∃ b off, a = some ⟨b, off, none⟩ ∧ ∀ i x, xs[i]? = some x → w.cell? ⟨b, off + i, none⟩ = some x)
theorem lt_of_cell {w : World} {p : Addr} {v : Value} (h : w.cell? p = some v) : p.block < w.heap.size := by
  rcases Nat.lt_or_ge p.block w.heap.size with h' | h'
  · exact h'
  · simp [World.cell?, Array.getElem?_eq_none h'] at h
theorem RowAt.on {B : Nat} {w w' : World} {v : Value} {xs : List Value} (h : RowAt w v xs) (hb : Below B w w') (hB : w.heap.size ≤ B) : RowAt w' v xs := by
  obtain ⟨h0, a, cap, h1, h2⟩ := h
  refine ⟨h0, a, cap, h1, fun hne => ?_⟩
  obtain ⟨b, off, h3, h4⟩ := h2 hne
  refine ⟨b, off, h3, fun i x hx => ?_⟩
  have := h4 i x hx
  rw [hb.cell (Nat.lt_of_lt_of_le (lt_of_cell this) hB)]
  exact this
def ints (l : List Int) : List Value := l.map (Value.int .i64)
def strs (l : List (List UInt8)) : List Value := l.map fun s => Value.string ⟨s.toArray⟩

theorem flatMap_take_succ {α : Type} (enc : α → List UInt8) (l : List α) (k : Nat) (x : α) (h : l[k]? = some x) : (l.take (k + 1)).flatMap enc = (l.take k).flatMap enc ++ enc x := by
  rw [List.take_add_one, h]
  simp
theorem flatMap_take_le {α : Type} (enc : α → List UInt8) (l : List α) (k : Nat) : ((l.take k).flatMap enc).length ≤ (l.flatMap enc).length := by
  have : l.flatMap enc = (l.take k).flatMap enc ++ (l.drop k).flatMap enc := by rw [← List.flatMap_append, List.take_append_drop]
  rw [this]
  simp

theorem ints_get {l : List Int} {k : Nat} {x : Int} (h : l[k]? = some x) : (ints l)[k]? = some (.int .i64 x) := by simp [ints, h]
theorem strs_get {l : List (List UInt8)} {k : Nat} {x : List UInt8} (h : l[k]? = some x) : (strs l)[k]? = some (.string ⟨x.toArray⟩) := by simp [strs, h]

theorem row_alloc (w : World) (xs : List Value) (T : TypeId) (cap : Nat) (h : xs.length ≤ 9223372036854775807) : RowAt (w.alloc (.cells xs.toArray T)) (.slice (some ⟨w.heap.size, 0, none⟩) xs.length cap) xs :=
  ⟨h, _, cap, rfl, fun _ => ⟨w.heap.size, 0, rfl, fun i x hx => by rw [Lib.cell_of_heap (heap_alloc_new w _)]; simpa using hx⟩⟩
end Go.Proofs.Ytmgpfkckafdbmaa
