/-
  Rows that come in as arguments: nil, or at an address with room for them; slices of one element of them.
-/
import Derived.Test.YthibikdnoogfoaaGreatDoorVSmall
namespace Go.Proofs.YthibikdnoogfoaaGreatDoor
open Go Go.RowKit Go.Sort Wire Txt Vl

/-- An argument: nil, or at an address, with a capacity that is not less than its length. -/
def ArgV (w : World) (x : Value) (l : List V) : Prop :=
  l.length ≤ 9223372036854775807 ∧ ((x = .slice none 0 0 ∧ l = []) ∨ ∃ a cap, x = .slice (some a) l.length cap ∧ l.length ≤ cap ∧ ∀ j u, (cellsV l)[j]? = some u → w.cell? (a.add j) = some u)
theorem lt_of_cell' {w : World} {p : Addr} {v : Value} (h : w.cell? p = some v) : p.block < w.heap.size := lt_of_cell h
theorem ArgV.on {B : Nat} {w w' : World} {x : Value} {l : List V} (h : ArgV w x l) (hb : Below B w w') (hB : w.heap.size ≤ B) : ArgV w' x l := by
  obtain ⟨h0, h1⟩ := h
  refine ⟨h0, ?_⟩
  rcases h1 with h1 | ⟨a, cap, h1, h2, h3⟩
  · exact Or.inl h1
  · refine Or.inr ⟨a, cap, h1, h2, fun j u hu => ?_⟩
    have := h3 j u hu
    exact (hb.cell (Nat.lt_of_lt_of_le (lt_of_cell this) hB)).trans this
theorem cell_plainV {w : World} {a : Addr} {v : Value} (h : w.cell? a = some v) : ∃ b off, a = ⟨b, off, none⟩ := by
  obtain ⟨b, off, spot⟩ := a
  cases spot with
  | none => exact ⟨b, off, rfl⟩
  | some s =>
    exfalso
    unfold World.cell? at h
    split at h
    · simp at h
    · cases h
theorem ArgV.row {w : World} {x : Value} {l : List V} (h : ArgV w x l) : RowV w x l := by
  obtain ⟨h0, h1⟩ := h
  rcases h1 with ⟨rfl, rfl⟩ | ⟨a, cap, rfl, h2, h3⟩
  · exact row_nil w
  · refine ⟨h0, some a, cap, rfl, fun hne => ?_⟩
    obtain ⟨v0, hv0⟩ : ∃ v, l[0]? = some v := by
      cases l with
      | nil => exact absurd rfl hne
      | cons v l => exact ⟨v, rfl⟩
    have k0 := h3 (0 * 3 + 0) _ (cellsV_get l 0 0 v0 _ hv0 rfl)
    obtain ⟨b, off, hb⟩ := cell_plainV k0
    have ha : a = ⟨b, off, none⟩ := by
      cases a
      simp [Addr.add] at hb
      simp [hb]
    subst ha
    refine ⟨b, off, rfl, fun i v hv => ?_⟩
    have c0 := h3 _ _ (cellsV_get l i 0 v _ hv rfl)
    have c1 := h3 _ _ (cellsV_get l i 1 v _ hv rfl)
    have c2 := h3 _ _ (cellsV_get l i 2 v _ hv rfl)
    rw [Lib.add_plain] at c0 c1 c2
    exact ⟨c0, c1, c2⟩
set_option maxRecDepth 100000 in
theorem slice_one (b off n cap k : Nat) (h1 : k < n) (h2 : n ≤ cap) (wx : World) :
    (Instr.slice 22 (.slice (some ⟨b, off, none⟩) n cap) (some (.int .i64 (k : Int))) (some (.int .i64 ((k : Int) + 1))) none).run Tryz.prog wx = .ok (.slice (some ⟨b, off + k * 3, none⟩) 1 (cap - k)) wx := by
  have hs := run_slice_lh (P := Tryz.prog) wx 22 (some ⟨b, off, none⟩) n cap Tryz.underlying22 .i64 .i64 k ((k : Int) + 1) (by omega) (by omega) (by omega)
  rw [hs]
  obtain ⟨i0, hi, hz0, hz1, hz2⟩ := info_parts infoVal
  have he : Tryz.prog.elem 22 = 31 := by kernel_rfl
  have hz : ((sizeOf (Tryz.prog.elem 22)).run Tryz.prog wx) = .ok 3 wx := by rw [he]; simp [sizeOf, typeInfo, hi, hz1]
  rw [hz]
  have e1 : ((k : Int) + 1).toNat = k + 1 := by omega
  simp only [Result.andThen, sliced, Int.toNat_natCast, e1]
  rw [if_neg (by omega)]
  have e2 : k + 1 - k = 1 := by omega
  rw [e2]
  simp [Lib.add_plain]
theorem row_at {w : World} {b off cap : Nat} {v : V} (h : CellsV w b off v) : RowV w (.slice (some ⟨b, off, none⟩) 1 cap) [v] := by
  refine ⟨by simp, some ⟨b, off, none⟩, cap, rfl, fun _ => ⟨b, off, rfl, fun i u hu => ?_⟩⟩
  cases i with
  | zero =>
    simp at hu
    subst hu
    simpa using h
  | succ i => simp at hu
theorem cmpR_one (u v : V) : cmpR [u] [v] = cmpV u v := by
  show lex cmpV [u] [v] = _
  simp only [lex]
  by_cases h : cmpV u v = 0
  · simp [h]
  · simp [h]
theorem cellsV_one : ∀ (l : List V) (u : Value), u ∈ cellsV l → u.oneCell' = true := by
  intro l u hu
  unfold cellsV at hu
  obtain ⟨v, _, hv⟩ := List.mem_flatMap.1 hu
  simp only [List.mem_cons, List.not_mem_nil, or_false] at hv
  rcases hv with rfl | rfl | rfl <;> rfl
theorem cellsV_len (l : List V) : (cellsV l).length = l.length * 3 := by
  induction l with
  | nil => rfl
  | cons v l ih =>
    have e : cellsV (v :: l) = [Value.int .i64 v.k, .int .i64 v.n, .string ⟨v.s.toArray⟩] ++ cellsV l := by simp [cellsV]
    rw [e, List.length_append, ih]
    simp
    omega
theorem cellsV_app (a b : List V) : cellsV (a ++ b) = cellsV a ++ cellsV b := by simp [cellsV]
theorem short_parts' {l : List V} {n : Nat} (h : shortR l n = true) : l.length ≤ n ∧ ∀ v ∈ l, v.s.length ≤ 300 := by
  unfold shortR at h
  simp only [Bool.and_eq_true, decide_eq_true_eq, List.all_eq_true] at h
  exact ⟨by omega, h.1⟩
def OArg (w : World) (x : Value) (l : List V) : Prop := ArgV w x l ∧ ∀ v ∈ l, Fits v
theorem OArg.on {B : Nat} {w w' : World} {x : Value} {l : List V} (h : OArg w x l) (hb : Below B w w') (hB : w.heap.size ≤ B) : OArg w' x l := ⟨h.1.on hb hB, h.2⟩
theorem OArg.slc {w : World} {x : Value} {l : List V} (h : OArg w x l) : ∃ a c, x = .slice a l.length c := by
  rcases h.1.2 with ⟨rfl, rfl⟩ | ⟨a, cap, rfl, _⟩
  · exact ⟨_, _, rfl⟩
  · exact ⟨_, _, rfl⟩
theorem fits_len {l : List V} {w : World} {x : Value} (h : OArg w x l) : ∀ v ∈ l, v.s.length ≤ 9223372036854775807 := fun v hv => by
  have := (h.2 v hv).2.2
  unfold InR at this
  omega
theorem OArg.place {w : World} {A : Option Addr} {n cap : Nat} {l : List V} (h : OArg w (.slice A n cap) l) {k : Nat} (hk : k < l.length) (u : V) (hu : l[k]? = some u) : ∃ b off, A = some ⟨b, off, none⟩ ∧ l.length ≤ cap ∧ CellsV w b (off + k * 3) u := by
  have hr := h.1.row
  obtain ⟨_, ax, cx, hxe, hcells⟩ := hr
  injection hxe with hx1 _ hx3
  subst hx1 hx3
  obtain ⟨bx, ox, hb, hc⟩ := hcells (ne_of_lt hk)
  refine ⟨bx, ox, hb, ?_, hc k u hu⟩
  rcases h.1.2 with ⟨h1, h2⟩ | ⟨a, c, h1, h2, _⟩
  · subst h2; simp at hk
  · injection h1 with _ _ h3
    omega
end Go.Proofs.YthibikdnoogfoaaGreatDoor
