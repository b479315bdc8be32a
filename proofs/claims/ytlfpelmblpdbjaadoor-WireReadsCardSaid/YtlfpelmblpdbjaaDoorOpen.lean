/-
  From the form's reading of an argument to the statements' values: a list of ints, of strings, a value, a list of values.
-/
import Derived.Test.YtlfpelmblpdbjaaDoorVal
import Derived.ProofKit
import Derived.OpenShut
import Derived.SliceStrings
import Derived.Deep.Slices
namespace Go.Proofs.YtlfpelmblpdbjaaDoor
open Go Go.RowKit Go.Sort Wire Go.ChangeShapes Go.ChangeAt

section
variable {H : Type} {enc : TypeId × Value → H} {W : World} {base : Nat} {sp : Nat → Bool} {held : Bool}

theorem cellsI : Tryd.prog.cellsOf 3 = 1 := by kernel_rfl
theorem cellsS : Tryd.prog.cellsOf 9 = 1 := by kernel_rfl
theorem cellsLI : Tryd.prog.cellsOf 22 = 1 := by kernel_rfl
theorem cellsLS : Tryd.prog.cellsOf 23 = 1 := by kernel_rfl
theorem cellsV : Tryd.prog.cellsOf 25 = 5 := by kernel_rfl

theorem cell_plain {w : World} {a : Addr} {v : Value} (h : w.cell? a = some v) : ∃ b off, a = ⟨b, off, none⟩ := by
  obtain ⟨b, off, spot⟩ := a
  cases spot with
  | none => exact ⟨b, off, rfl⟩
  | some s =>
    exfalso
    unfold World.cell? at h
    split at h
    · simp at h
    · cases h
theorem row_make (a : Addr) (xs : List Value) (cap : Nat) (hm : xs.length ≤ 9223372036854775807) (h : ∀ i x, xs[i]? = some x → W.cell? (a.add i) = some x) : RowAt W (.slice (some a) xs.length cap) xs := by
  refine ⟨hm, some a, cap, rfl, fun hne => ?_⟩
  cases xs with
  | nil => exact absurd rfl hne
  | cons y ys =>
    have h0 := h 0 y rfl
    obtain ⟨b, off, hb⟩ := cell_plain h0
    have ha : a = ⟨b, off, none⟩ := by
      cases a
      simp [Addr.add] at hb
      simp [hb]
    refine ⟨b, off, by rw [ha], fun i x hx => ?_⟩
    have := h i x hx
    rw [ha] at this
    rw [Lib.add_plain] at this
    exact this

theorem open_list_int {fuel : Nat} {cs : List Value} {x : DataW H × List MemPlace} (h : DataW.trod enc Tryd.prog W base sp held fuel 22 cs = some x) :
    ∃ v l, cs = [v] ∧ RowAt W v (ints l) ∧ ∀ y ∈ l, InR y := by
  rcases open_ints Tryd.underlying22 Tryd.underlying3 cellsI h with ⟨rfl, _⟩ | ⟨a, len, cap, zs, rfl, _, hl, hm, hz, _, hc, hw⟩
  · exact ⟨_, [], rfl, ⟨by simp [ints], none, 0, rfl, fun h => absurd rfl h⟩, fun y hy => by cases hy⟩
  · have hzl : len ≤ zs.length := by rw [hz]; split <;> omega
    have hlen : (ints (zs.take len)).length = len := by simp [ints]; omega
    refine ⟨_, zs.take len, rfl, ?_, fun y hy => bounds_i64 (hw y (List.mem_of_mem_take hy))⟩
    have key := row_make (W := W) a (ints (zs.take len)) cap (by rw [hlen]; unfold maxLen at hm; omega) (fun i x hx => ?_)
    · rw [hlen] at key; exact key
    · have hi : i < len := by
        have := (List.getElem?_eq_some_iff.1 hx).1
        omega
      have h1 := hc i (by omega)
      rw [h1]
      simp only [ints, List.getElem?_map, List.getElem?_take_of_lt hi] at hx
      rw [List.getElem?_eq_getElem (by omega)] at hx
      simp only [Option.map_some, Option.some.injEq] at hx
      rw [← hx, List.getD_eq_getElem?_getD, List.getElem?_eq_getElem (by omega)]
      rfl
theorem open_list_str {fuel : Nat} {cs : List Value} {x : DataW H × List MemPlace} (h : DataW.trod enc Tryd.prog W base sp held fuel 23 cs = some x) :
    ∃ v l, cs = [v] ∧ RowAt W v (strs l) := by
  rcases open_strings Tryd.underlying23 Tryd.underlying9 cellsS h with ⟨rfl, _⟩ | ⟨a, len, cap, zs, rfl, _, hl, hm, hz, _, hc, _⟩
  · exact ⟨_, [], rfl, ⟨by simp [strs], none, 0, rfl, fun h => absurd rfl h⟩⟩
  · have hzl : len ≤ zs.length := by rw [hz]; split <;> omega
    have hlen : (strs ((zs.take len).map fun s => s.data.toList)).length = len := by simp [strs]; omega
    refine ⟨_, (zs.take len).map fun s => s.data.toList, rfl, ?_⟩
    have key := row_make (W := W) a (strs ((zs.take len).map fun s => s.data.toList)) cap (by rw [hlen]; unfold maxLen at hm; omega) (fun i x hx => ?_)
    · rw [hlen] at key; exact key
    · have hi : i < len := by
        have := (List.getElem?_eq_some_iff.1 hx).1
        omega
      have h1 := hc i (by omega)
      rw [h1]
      simp only [strs, List.getElem?_map, List.getElem?_take_of_lt hi] at hx
      rw [List.getElem?_eq_getElem (by omega)] at hx
      simp only [Option.map_some, Option.some.injEq] at hx
      rw [← hx, List.getD_eq_getElem?_getD, List.getElem?_eq_getElem (by omega)]
      simp

theorem five : ∀ (cs : List Value), cs.length = 5 → ∃ c0 c1 c2 c3 c4, cs = [c0, c1, c2, c3, c4]
  | [c0, c1, c2, c3, c4], _ => ⟨c0, c1, c2, c3, c4, rfl⟩
theorem open_val {fuel : Nat} {cs : List Value} {x : DataW H × List MemPlace} (h : DataW.trod enc Tryd.prog W base sp held fuel 25 cs = some x) :
    ∃ (y : Val) (v3 v4 : Value), cs = [.int .i64 y.k, .int .i64 y.n, .string ⟨y.s.toArray⟩, v3, v4] ∧ ValAt W y v3 v4 := by
  obtain ⟨xs, n, rfl, _, hl, hx, hf⟩ := DataW.trod_struct Tryd.underlying25 h
  rw [cellsV] at hl
  obtain ⟨c0, c1, c2, c3, c4, rfl⟩ := five cs hl
  have hx5 : xs.length = 5 := hx
  have f0 : DataW.trod enc Tryd.prog W base sp held n 3 (([c0, c1, c2, c3, c4].drop 0).take (Tryd.prog.cellsOf 3)) = xs[0]? := hf 0 _ rfl
  have f1 : DataW.trod enc Tryd.prog W base sp held n 3 (([c0, c1, c2, c3, c4].drop 1).take (Tryd.prog.cellsOf 3)) = xs[1]? := hf 1 _ rfl
  have f2 : DataW.trod enc Tryd.prog W base sp held n 9 (([c0, c1, c2, c3, c4].drop 2).take (Tryd.prog.cellsOf 9)) = xs[2]? := hf 2 _ rfl
  have f3 : DataW.trod enc Tryd.prog W base sp held n 22 (([c0, c1, c2, c3, c4].drop 3).take (Tryd.prog.cellsOf 22)) = xs[3]? := hf 3 _ rfl
  have f4 : DataW.trod enc Tryd.prog W base sp held n 23 (([c0, c1, c2, c3, c4].drop 4).take (Tryd.prog.cellsOf 23)) = xs[4]? := hf 4 _ rfl
  rw [cellsI, List.getElem?_eq_getElem (by omega)] at f0 f1
  rw [cellsS, List.getElem?_eq_getElem (by omega)] at f2
  rw [cellsLI, List.getElem?_eq_getElem (by omega)] at f3
  rw [cellsLS, List.getElem?_eq_getElem (by omega)] at f4
  obtain ⟨k, e0, _, w0⟩ := DataW.trod_int Tryd.underlying3 f0
  obtain ⟨m, e1, _, w1⟩ := DataW.trod_int Tryd.underlying3 f1
  obtain ⟨s, e2, _, w2⟩ := DataW.trod_string Tryd.underlying9 f2
  obtain ⟨v3, l, e3, h3, w3⟩ := open_list_int f3
  obtain ⟨v4, t, e4, h4⟩ := open_list_str f4
  obtain rfl : c0 = .int .i64 k := by simpa using e0
  obtain rfl : c1 = .int .i64 m := by simpa using e1
  obtain rfl : c2 = .string s := by simpa using e2
  obtain rfl : c3 = v3 := by simpa using e3
  obtain rfl : c4 = v4 := by simpa using e4
  refine ⟨⟨k, m, s.data.toList, l, t⟩, c3, c4, by simp, ⟨bounds_i64 w0, bounds_i64 w1, ?_, w3, h3, h4⟩⟩
  have : s.data.toList.length = s.size := Array.length_toList
  unfold maxLen at w2
  show s.data.toList.length ≤ _
  omega

theorem choose_val {n : Nat} {p : Nat → Val → Prop} (h : ∀ i, i < n → ∃ x, p i x) : ∃ f : Nat → Val, ∀ i, i < n → p i (f i) := by
  have : ∀ i, ∃ x, i < n → p i x := fun i => by
    by_cases hi : i < n
    · obtain ⟨x, hx⟩ := h i hi
      exact ⟨x, fun _ => hx⟩
    · exact ⟨⟨0, 0, [], [], []⟩, fun h => absurd h hi⟩
  exact ⟨fun i => Classical.choose (this i), fun i => Classical.choose_spec (this i)⟩
theorem open_vals {fuel : Nat} {v : Value} {x : DataW H × List MemPlace} (h : DataW.trod enc Tryd.prog W base sp held fuel 28 [v] = some x) : ∃ vs, ValsAt W v vs := by
  rcases Go.Deep.open_slice Tryd.underlying28 h with ⟨hv, _⟩ | ⟨a, len, cap, m, n, D, Pl, hv, _, hl, hm, hmm, _, hx⟩
  · obtain rfl : v = .slice none 0 0 := by simpa using hv
    exact ⟨[], by simp, none, 0, rfl, fun h => absurd rfl h⟩
  · obtain rfl : v = .slice (some a) len cap := by simpa using hv
    have hlm : len ≤ m := by rw [hmm]; split <;> omega
    rw [cellsV] at hx
    obtain ⟨f, hf⟩ := choose_val (n := len) (p := fun i y => ∃ v3 v4, ValAt W y v3 v4 ∧ W.cells? base (a.add (i * 5)) 5 = some [.int .i64 y.k, .int .i64 y.n, .string ⟨y.s.toArray⟩, v3, v4]) (fun i hi => by
      obtain ⟨cs', h1, h2⟩ := hx i (by omega)
      obtain ⟨y, v3, v4, rfl, hy⟩ := open_val h2
      exact ⟨y, v3, v4, hy, h1⟩)
    have hlen : ((List.range len).map f).length = len := by simp
    refine ⟨(List.range len).map f, by rw [hlen]; unfold maxLen at hm; omega, some a, cap, by rw [hlen], fun hne => ?_⟩
    have hpos : 0 < len := by
      cases len with
      | zero => exact absurd rfl hne
      | succ k => omega
    have cellAt : ∀ i, i < len → ∃ v3 v4, ValAt W (f i) v3 v4 ∧ ∀ j y, [Value.int .i64 (f i).k, .int .i64 (f i).n, .string ⟨(f i).s.toArray⟩, v3, v4][j]? = some y → W.cell? ((a.add (i * 5)).add j) = some y := fun i hi => by
      obtain ⟨v3, v4, h1, h2⟩ := hf i hi
      refine ⟨v3, v4, h1, fun j y hy => ?_⟩
      have hj : j < 5 := (List.getElem?_eq_some_iff.1 hy).1
      rw [(World.cells?_some h2).2.2 j hj, hy]
    obtain ⟨b, off, rfl⟩ : ∃ b off, a = ⟨b, off, none⟩ := by
      obtain ⟨v3, v4, _, h2⟩ := cellAt 0 hpos
      obtain ⟨b, off, hb⟩ := cell_plain (h2 0 _ rfl)
      refine ⟨b, off, ?_⟩
      cases a
      simp [Addr.add] at hb
      simp [hb]
    refine ⟨b, off, rfl, fun i x hx => ?_⟩
    have hi : i < len := by have := (List.getElem?_eq_some_iff.1 hx).1; omega
    have hxi : x = f i := by
      rw [List.getElem?_map, List.getElem?_range hi] at hx
      simpa using hx.symm
    subst hxi
    obtain ⟨v3, v4, h1, h2⟩ := cellAt i hi
    have g0 := h2 0 _ rfl
    have g1 := h2 1 _ rfl
    have g2 := h2 2 _ rfl
    have g3 := h2 3 _ rfl
    have g4 := h2 4 _ rfl
    rw [Lib.add_plain, Lib.add_plain] at g0 g1 g2 g3 g4
    exact ⟨v3, v4, h1, g0, g1, g2, g3, g4⟩
end
end Go.Proofs.YtlfpelmblpdbjaaDoor
