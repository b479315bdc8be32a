/-
  Compare and CompareRows, SameRows of package value, with the library's generic functions that they call: each returns what chapter 3 says; of what was there nothing has turned.
-/
import Derived.Test.YtmgpfkckafdbmaaVRight
namespace Go.Proofs.Ytmgpfkckafdbmaa
open Go Go.RowKit Go.Sort Wire Txt Vl

/-- The three cells of a value. -/
def CellsV (w : World) (b o : Nat) (v : V) : Prop := w.cell? ⟨b, o, none⟩ = some (.int .i64 v.k) ∧ w.cell? ⟨b, o + 1, none⟩ = some (.int .i64 v.n) ∧ w.cell? ⟨b, o + 2, none⟩ = some (.string ⟨v.s.toArray⟩)
theorem CellsV.on {B b o : Nat} {v : V} {w w' : World} (h : CellsV w b o v) (hb : Below B w w') (hB : w.heap.size ≤ B) : CellsV w' b o v := by
  obtain ⟨h0, h1, h2⟩ := h
  exact ⟨(hb.cell (Nat.lt_of_lt_of_le (lt_of_cell h0) hB)).trans h0, (hb.cell (Nat.lt_of_lt_of_le (lt_of_cell h1) hB)).trans h1, (hb.cell (Nat.lt_of_lt_of_le (lt_of_cell h2) hB)).trans h2⟩
/-- x is a slice whose elements are the values of l. -/
def RowV (w : World) (x : Value) (l : List V) : Prop :=
  l.length ≤ 9223372036854775807 ∧ ∃ a cap, x = .slice a l.length cap ∧ (l ≠ [] → ∃ b off, a = some ⟨b, off, none⟩ ∧ ∀ i v, l[i]? = some v → CellsV w b (off + i * 3) v)
theorem RowV.on {B : Nat} {w w' : World} {x : Value} {l : List V} (h : RowV w x l) (hb : Below B w w') (hB : w.heap.size ≤ B) : RowV w' x l := by
  obtain ⟨h0, a, cap, h1, h2⟩ := h
  refine ⟨h0, a, cap, h1, fun hne => ?_⟩
  obtain ⟨b, off, h3, h4⟩ := h2 hne
  exact ⟨b, off, h3, fun i v hv => (h4 i v hv).on hb hB⟩
theorem below_drewN' (B : Nat) (w : World) (k : Nat) : Below B w (w.drewN k) := ⟨rfl, rfl, rfl, Nat.le_refl _, fun _ _ => rfl⟩
theorem ne_of_lt {l : List V} {k : Nat} (h : k < l.length) : l ≠ [] := by rintro rfl; simp at h

/-- A variable more, by name. -/
theorem box_out (w : World) (v : V) : ∃ w2, w.alloc (.cells #[.int .i64 v.k, .int .i64 v.n, .string ⟨v.s.toArray⟩] 55) = w2 ∧ w2.cell? ⟨w.heap.size, 0, none⟩ = some (.int .i64 v.k) ∧ w2.cell? ⟨w.heap.size, 1, none⟩ = some (.int .i64 v.n) ∧ w2.cell? ⟨w.heap.size, 2, none⟩ = some (.string ⟨v.s.toArray⟩) ∧ Below w.heap.size w w2 :=
  ⟨_, rfl, boxed_0 w v.k v.n v.s, boxed_1 w v.k v.n v.s, boxed_2 w v.k v.n v.s, boxed_below w v.k v.n v.s⟩
theorem keep_cell {w w2 : World} (hb : Below w.heap.size w w2) {p : Addr} {x : Value} (h : w.cell? p = some x) : w2.cell? p = some x := (hb.cell (lt_of_cell h)).trans h
theorem take_next {a b : List V} {k : Nat} {u v : V} (h : a.take k = b.take k) (hu : a[k]? = some u) (hv : b[k]? = some v) (hz : cmpV u v = 0) : a.take (k + 1) = b.take (k + 1) := by
  rw [List.take_add_one, List.take_add_one, h, hu, hv, (tot_v.eq u v).1 hz]
theorem cmpR_diff {a b : List V} {k : Nat} {u v : V} (h : a.take k = b.take k) (hu : a[k]? = some u) (hv : b[k]? = some v) (hz : ¬ cmpV u v = 0) : cmpR a b = cmpV u v := by
  have := lex_at tot_v k a b u v h hu hv
  rw [if_pos hz] at this
  exact this
theorem cmpR_long {a b : List V} {k : Nat} (h : a.take k = b.take k) (hk : k < a.length) (hb : k = b.length) : cmpR a b = 1 := by
  have e : b.take k = b := List.take_of_length_le (by omega)
  have ea : a = b ++ a.drop k := by conv => lhs; rw [← List.take_append_drop k a, h, e]
  have hd : a.drop k ≠ [] := by intro h0; have := congrArg List.length h0; simp at this; omega
  have h1 : cmpR b a = -1 := by
    rw [ea]
    exact lex_longer tot_v b _ hd
  have := tot_r.anti b a
  omega
theorem cmpR_less {a b : List V} {k : Nat} (h : a.take k = b.take k) (hk : k = a.length) (hb : a.length < b.length) : cmpR a b = -1 := by
  have h1 := cmpR_long h.symm (by omega) hk
  have := tot_r.anti b a
  omega
theorem cmpR_same {a b : List V} {k : Nat} (h : a.take k = b.take k) (hk : k = a.length) (hb : ¬ a.length < b.length) (hkb : k ≤ b.length) : cmpR a b = 0 := by
  have e1 : a.take k = a := List.take_of_length_le (by omega)
  have e2 : b.take k = b := List.take_of_length_le (by omega)
  rw [e1, e2] at h
  rw [h]
  exact tot_r.self b
theorem take_eq {a b : List V} {k : Nat} {u v : V} (h : a.take k = b.take k) (hu : a[k]? = some u) (hv : b[k]? = some v) (hz : u = v) : a.take (k + 1) = b.take (k + 1) := by
  rw [List.take_add_one, List.take_add_one, h, hu, hv, hz]
end Go.Proofs.Ytmgpfkckafdbmaa
