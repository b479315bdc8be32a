/-
  Entries that came in, a configuration that came in: how the form's reading of an argument is such a list, such a configuration.
-/
import Derived.Test.YtmgpfkckafdbmaaINew
import Derived.Test.YtmgpfkckafdbmaaIHold
import Derived.Test.YtmgpfkckafdbmaaRows
import Derived.OpenShut
import Derived.SliceStrings
import Derived.Deep.Slices
import Derived.LaidMore
import Derived.Lay
import Derived.Deep.DeepHandedRow
import Derived.Deep.DeepWitnessRowRef
namespace Go.Proofs.Ytmgpfkckafdbmaa
set_option maxRecDepth 100000
open Go Go.RowKit Go.Sort Go.ChangeShapes Go.WideShapes Go.ChangeAt Vl

/-- An entry with its row. -/
structure EIn where
  e : EE
  row : List V
def EE.list (e : EE) : List Value := [.int .i64 e.kd, .int .i64 e.pr, .int .i64 e.ep, .int .i64 e.sq, .string e.src, .int .i64 e.sc, .int .i64 e.tm, .slice e.ra e.rn e.rc]
structure EAt (w : World) (b o : Nat) (e : EE) : Prop where
  c0 : w.cell? ⟨b, o, none⟩ = some (.int .i64 e.kd)
  c1 : w.cell? ⟨b, o + 1, none⟩ = some (.int .i64 e.pr)
  c2 : w.cell? ⟨b, o + 2, none⟩ = some (.int .i64 e.ep)
  c3 : w.cell? ⟨b, o + 3, none⟩ = some (.int .i64 e.sq)
  c4 : w.cell? ⟨b, o + 4, none⟩ = some (.string e.src)
  c5 : w.cell? ⟨b, o + 5, none⟩ = some (.int .i64 e.sc)
  c6 : w.cell? ⟨b, o + 6, none⟩ = some (.int .i64 e.tm)
  c7 : w.cell? ⟨b, o + 7, none⟩ = some (.slice e.ra e.rn e.rc)
theorem EAt.on {w w' : World} {b o : Nat} {e : EE} (h : EAt w b o e) (hb : Below w.heap.size w w') : EAt w' b o e := by
  have hk : ∀ {p : Addr} {v : Value}, w.cell? p = some v → w'.cell? p = some v := fun hp => (Kept.below (S := fun _ => False) hb).cell hp (fun e => e)
  exact ⟨hk h.c0, hk h.c1, hk h.c2, hk h.c3, hk h.c4, hk h.c5, hk h.c6, hk h.c7⟩
structure FitE (e : EE) : Prop where
  kd : I64 e.kd
  pr : I64 e.pr
  ep : I64 e.ep
  sq : I64 e.sq
  sc : I64 e.sc
  tm : I64 e.tm
  src : e.src.size ≤ 9223372036854775807
def EntsIn (w : World) (v : Value) (l : List EIn) : Prop :=
  l.length ≤ 9223372036854775807 ∧ ∃ a c, v = .slice a l.length c ∧ ∀ i x, l[i]? = some x → ∃ b off, a = some ⟨b, off, none⟩ ∧ EAt w b (off + i * 8) x.e ∧ RowV w (.slice x.e.ra x.e.rn x.e.rc) x.row ∧ x.e.rn = x.row.length ∧ FitE x.e
section
variable {H : Type} {enc : TypeId × Value → H} {W : World} {base : Nat} {sp : Nat → Bool} {held : Bool}
theorem cellsEI : Try.prog.cellsOf 39 = 8 := by kernel_rfl
theorem eight_ofI {α : Type} : ∀ (cs : List α), cs.length = 8 → ∃ c0 c1 c2 c3 c4 c5 c6 c7, cs = [c0, c1, c2, c3, c4, c5, c6, c7]
  | [c0, c1, c2, c3, c4, c5, c6, c7], _ => ⟨c0, c1, c2, c3, c4, c5, c6, c7, rfl⟩
theorem six_ofI {α : Type} : ∀ (cs : List α), cs.length = 6 → ∃ c0 c1 c2 c3 c4 c5, cs = [c0, c1, c2, c3, c4, c5]
  | [c0, c1, c2, c3, c4, c5], _ => ⟨c0, c1, c2, c3, c4, c5, rfl⟩
theorem cellsIntI : Try.prog.cellsOf 3 = 1 := by kernel_rfl
theorem cellsStrI : Try.prog.cellsOf 9 = 1 := by kernel_rfl
theorem cellsValI : Try.prog.cellsOf 55 = 3 := by kernel_rfl
theorem three_ofI {α : Type} : ∀ (cs : List α), cs.length = 3 → ∃ c0 c1 c2, cs = [c0, c1, c2]
  | [c0, c1, c2], _ => ⟨c0, c1, c2, rfl⟩
theorem open_vI {fuel : Nat} {cs : List Value} {x : DataW H × List MemPlace} (h : DataW.trod enc Try.prog W base sp held fuel 55 cs = some x) :
    ∃ y : V, cs = [.int .i64 y.k, .int .i64 y.n, .string ⟨y.s.toArray⟩] := by
  obtain ⟨xs, n, rfl, _, hl, hx, hf⟩ := DataW.trod_struct Try.underlying55 h
  rw [cellsValI] at hl
  obtain ⟨c0, c1, c2, rfl⟩ := three_ofI cs hl
  have hx5 : xs.length = 3 := hx
  have f0 : DataW.trod enc Try.prog W base sp held n 3 (([c0, c1, c2].drop 0).take (Try.prog.cellsOf 3)) = xs[0]? := hf 0 _ rfl
  have f1 : DataW.trod enc Try.prog W base sp held n 3 (([c0, c1, c2].drop 1).take (Try.prog.cellsOf 3)) = xs[1]? := hf 1 _ rfl
  have f2 : DataW.trod enc Try.prog W base sp held n 9 (([c0, c1, c2].drop 2).take (Try.prog.cellsOf 9)) = xs[2]? := hf 2 _ rfl
  rw [cellsIntI, List.getElem?_eq_getElem (by omega)] at f0 f1
  rw [cellsStrI, List.getElem?_eq_getElem (by omega)] at f2
  obtain ⟨k, e0, _, _⟩ := DataW.trod_int Try.underlying3 f0
  obtain ⟨m, e1, _, _⟩ := DataW.trod_int Try.underlying3 f1
  obtain ⟨s, e2, _, _⟩ := DataW.trod_string Try.underlying9 f2
  obtain rfl : c0 = .int .i64 k := by simpa using e0
  obtain rfl : c1 = .int .i64 m := by simpa using e1
  obtain rfl : c2 = .string s := by simpa using e2
  exact ⟨⟨k, m, s.data.toList⟩, by simp⟩
theorem choose_vI {n : Nat} {p : Nat → V → Prop} (h : ∀ i, i < n → ∃ x, p i x) : ∃ f : Nat → V, ∀ i, i < n → p i (f i) := by
  have : ∀ i, ∃ x, i < n → p i x := fun i => by
    by_cases hi : i < n
    · obtain ⟨x, hx⟩ := h i hi
      exact ⟨x, fun _ => hx⟩
    · exact ⟨⟨0, 0, []⟩, fun h => absurd h hi⟩
  exact ⟨fun i => Classical.choose (this i), fun i => Classical.choose_spec (this i)⟩
theorem open_rowI {fuel : Nat} {v : Value} {x : DataW H × List MemPlace} (h : DataW.trod enc Try.prog W base sp held fuel 37 [v] = some x) : ∃ l, RowV W v l := by
  rcases Go.Deep.open_slice Try.underlying37 h with ⟨hv, _⟩ | ⟨a, len, cap, m, n, D, Pl, hv, _, hl, hm, hmm, _, hx⟩
  · obtain rfl : v = .slice none 0 0 := by simpa using hv
    exact ⟨[], by decide, none, 0, rfl, fun h => absurd rfl h⟩
  · obtain rfl : v = .slice (some a) len cap := by simpa using hv
    have hlm : len ≤ m := by rw [hmm]; split <;> omega
    rw [cellsValI] at hx
    obtain ⟨f, hf⟩ := choose_vI (n := len) (p := fun i y => W.cells? base (a.add (i * 3)) 3 = some [.int .i64 y.k, .int .i64 y.n, .string ⟨y.s.toArray⟩]) (fun i hi => by
      obtain ⟨cs', h1, h2⟩ := hx i (by omega)
      obtain ⟨y, rfl⟩ := open_vI h2
      exact ⟨y, h1⟩)
    have hlen : ((List.range len).map f).length = len := by simp
    refine ⟨(List.range len).map f, by rw [hlen]; unfold maxLen at hm; omega, some a, cap, by rw [hlen], fun hne => ?_⟩
    have h0 : 0 < len := by
      rcases Nat.eq_zero_or_pos len with h0 | h0
      · subst h0
        exact absurd rfl hne
      · exact h0
    have k00 := (World.cells?_some (hf 0 h0)).2.2 0 (by decide)
    rw [Nat.zero_mul, show (a.add 0).add 0 = a by simp [Addr.add]] at k00
    obtain ⟨b, off, rfl⟩ := cell_plainD k00
    refine ⟨b, off, rfl, fun i y hy => ?_⟩
    have hil : i < len := by have := (List.getElem?_eq_some_iff.1 hy).1; omega
    rw [List.getElem?_map, List.getElem?_range hil] at hy
    obtain rfl : f i = y := by simpa using hy
    have key := (World.cells?_some (hf i hil)).2.2
    have k : ∀ q, q < 3 → W.cell? ⟨b, off + i * 3 + q, none⟩ = ([.int .i64 (f i).k, .int .i64 (f i).n, .string ⟨(f i).s.toArray⟩] : List Value)[q]? := fun q hq => by
      have := key q hq
      simp only [Lib.add_plain] at this
      exact this
    exact ⟨k 0 (by decide), k 1 (by decide), k 2 (by decide)⟩
theorem open_ent {fuel : Nat} {cs : List Value} {x : DataW H × List MemPlace} (h : DataW.trod enc Try.prog W base sp held fuel 39 cs = some x) :
    ∃ y : EIn, cs = y.e.list ∧ RowV W (.slice y.e.ra y.e.rn y.e.rc) y.row ∧ y.e.rn = y.row.length ∧ FitE y.e := by
  obtain ⟨xs, n, rfl, _, hl, hx, hf⟩ := DataW.trod_struct Try.underlying39 h
  rw [cellsEI] at hl
  obtain ⟨c0, c1, c2, c3, c4, c5, c6, c7, rfl⟩ := eight_ofI cs hl
  obtain ⟨y0, y1, y2, y3, y4, y5, y6, y7, rfl⟩ := eight_ofI xs hx
  have f0 : DataW.trod enc Try.prog W base sp held n 3 [c0] = some y0 := by have := hf 0 _ rfl; exact this
  have f1 : DataW.trod enc Try.prog W base sp held n 3 [c1] = some y1 := by have := hf 1 _ rfl; exact this
  have f2 : DataW.trod enc Try.prog W base sp held n 3 [c2] = some y2 := by have := hf 2 _ rfl; exact this
  have f3 : DataW.trod enc Try.prog W base sp held n 3 [c3] = some y3 := by have := hf 3 _ rfl; exact this
  have f4 : DataW.trod enc Try.prog W base sp held n 9 [c4] = some y4 := by have := hf 4 _ rfl; exact this
  have f5 : DataW.trod enc Try.prog W base sp held n 3 [c5] = some y5 := by have := hf 5 _ rfl; exact this
  have f6 : DataW.trod enc Try.prog W base sp held n 3 [c6] = some y6 := by have := hf 6 _ rfl; exact this
  have f7 : DataW.trod enc Try.prog W base sp held n 37 [c7] = some y7 := by have := hf 7 _ rfl; exact this
  obtain ⟨n0, e0, _, w0⟩ := DataW.trod_int Try.underlying3 f0
  obtain ⟨n1, e1, _, w1⟩ := DataW.trod_int Try.underlying3 f1
  obtain ⟨n2, e2, _, w2⟩ := DataW.trod_int Try.underlying3 f2
  obtain ⟨n3, e3, _, w3⟩ := DataW.trod_int Try.underlying3 f3
  obtain ⟨s4, e4, _, w4⟩ := DataW.trod_string Try.underlying9 f4
  obtain ⟨n5, e5, _, w5⟩ := DataW.trod_int Try.underlying3 f5
  obtain ⟨n6, e6, _, w6⟩ := DataW.trod_int Try.underlying3 f6
  obtain rfl : c0 = .int .i64 n0 := by simpa using e0
  obtain rfl : c1 = .int .i64 n1 := by simpa using e1
  obtain rfl : c2 = .int .i64 n2 := by simpa using e2
  obtain rfl : c3 = .int .i64 n3 := by simpa using e3
  obtain rfl : c4 = .string s4 := by simpa using e4
  obtain rfl : c5 = .int .i64 n5 := by simpa using e5
  obtain rfl : c6 = .int .i64 n6 := by simpa using e6
  obtain ⟨l, hrow⟩ := open_rowI f7
  have hrow' := hrow
  obtain ⟨_, a, cap, hv, _⟩ := hrow'
  subst hv
  exact ⟨⟨⟨n0, n1, n2, n3, s4, n5, n6, a, l.length, cap⟩, l⟩, rfl, hrow, rfl, ⟨bounds_i64 w0, bounds_i64 w1, bounds_i64 w2, bounds_i64 w3, bounds_i64 w5, bounds_i64 w6, by unfold maxLen at w4; omega⟩⟩
theorem choose_ent {n : Nat} {p : Nat → EIn → Prop} (h : ∀ i, i < n → ∃ x, p i x) : ∃ f : Nat → EIn, ∀ i, i < n → p i (f i) := by
  have : ∀ i, ∃ x, i < n → p i x := fun i => by
    by_cases hi : i < n
    · obtain ⟨x, hx⟩ := h i hi
      exact ⟨x, fun _ => hx⟩
    · exact ⟨⟨⟨0, 0, 0, 0, ⟨#[]⟩, 0, 0, none, 0, 0⟩, []⟩, fun h => absurd h hi⟩
  exact ⟨fun i => Classical.choose (this i), fun i => Classical.choose_spec (this i)⟩
theorem open_ents {fuel : Nat} {v : Value} {x : DataW H × List MemPlace} (h : DataW.trod enc Try.prog W base sp held fuel 24 [v] = some x) : ∃ l, EntsIn W v l := by
  rcases Go.Deep.open_slice Try.underlying24 h with ⟨hv, _⟩ | ⟨a, len, cap, m, n, D, Pl, hv, _, hl, hm, hmm, _, hx⟩
  · obtain rfl : v = .slice none 0 0 := by simpa using hv
    exact ⟨[], by decide, none, 0, rfl, fun i x h => by cases h⟩
  · obtain rfl : v = .slice (some a) len cap := by simpa using hv
    have hlm : len ≤ m := by rw [hmm]; split <;> omega
    rw [cellsEI] at hx
    obtain ⟨f, hf⟩ := choose_ent (n := len) (p := fun i y => W.cells? base (a.add (i * 8)) 8 = some y.e.list ∧ RowV W (.slice y.e.ra y.e.rn y.e.rc) y.row ∧ y.e.rn = y.row.length ∧ FitE y.e) (fun i hi => by
      obtain ⟨cs', h1, h2⟩ := hx i (by omega)
      obtain ⟨y, rfl, q⟩ := open_ent h2
      exact ⟨y, h1, q⟩)
    have hlen : ((List.range len).map f).length = len := by simp
    refine ⟨(List.range len).map f, by rw [hlen]; unfold maxLen at hm; omega, some a, cap, by rw [hlen], fun i y hy => ?_⟩
    have hil : i < len := by have := (List.getElem?_eq_some_iff.1 hy).1; omega
    rw [List.getElem?_map, List.getElem?_range hil] at hy
    obtain rfl : f i = y := by simpa using hy
    obtain ⟨g1, g2⟩ := hf i hil
    have key := (World.cells?_some g1).2.2
    have k00 := (World.cells?_some (hf 0 (by omega)).1).2.2 0 (by decide)
    rw [Nat.zero_mul, show (a.add 0).add 0 = a by simp [Addr.add]] at k00
    obtain ⟨b, off, rfl⟩ := cell_plainD k00
    have k : ∀ q, q < 8 → W.cell? ⟨b, off + i * 8 + q, none⟩ = (f i).e.list[q]? := fun q hq => by
      have := key q hq
      simp only [Lib.add_plain] at this
      exact this
    exact ⟨b, off, rfl, ⟨k 0 (by decide), k 1 (by decide), k 2 (by decide), k 3 (by decide), k 4 (by decide), k 5 (by decide), k 6 (by decide), k 7 (by decide)⟩, g2⟩
theorem cellsCfg : Try.prog.cellsOf 23 = 6 := by kernel_rfl
theorem open_cfg {r : Reach} {b0 : Nat} {v : Value} {d : DataW H} {pl : List MemPlace} (hv : Value.okWide Try.prog W r b0 23 v) (h : DataW.Trod enc Try.prog W base sp held 23 v d pl) :
    ∃ x : Cfg, v = x.val ∧ x.fit := by
  obtain ⟨cs, rfl, hsz⟩ := okWide_struct Try.underlying23 hv
  rw [cellsCfg] at hsz
  obtain ⟨l⟩ := cs
  obtain ⟨c0, c1, c2, c3, c4, c5, rfl⟩ := six_ofI l hsz
  obtain ⟨fuel, hf0⟩ := h
  obtain ⟨xs, n, rfl, _, _, hx, hf⟩ := DataW.trod_struct Try.underlying23 hf0
  obtain ⟨y0, y1, y2, y3, y4, y5, rfl⟩ := six_ofI xs hx
  have f0 : DataW.trod enc Try.prog W base sp held n 3 [c0] = some y0 := by have := hf 0 _ rfl; exact this
  have f1 : DataW.trod enc Try.prog W base sp held n 3 [c1] = some y1 := by have := hf 1 _ rfl; exact this
  have f2 : DataW.trod enc Try.prog W base sp held n 3 [c2] = some y2 := by have := hf 2 _ rfl; exact this
  have f3 : DataW.trod enc Try.prog W base sp held n 3 [c3] = some y3 := by have := hf 3 _ rfl; exact this
  have f4 : DataW.trod enc Try.prog W base sp held n 3 [c4] = some y4 := by have := hf 4 _ rfl; exact this
  have f5 : DataW.trod enc Try.prog W base sp held n 3 [c5] = some y5 := by have := hf 5 _ rfl; exact this
  obtain ⟨n0, e0, _, w0⟩ := DataW.trod_int Try.underlying3 f0
  obtain ⟨n1, e1, _, w1⟩ := DataW.trod_int Try.underlying3 f1
  obtain ⟨n2, e2, _, w2⟩ := DataW.trod_int Try.underlying3 f2
  obtain ⟨n3, e3, _, w3⟩ := DataW.trod_int Try.underlying3 f3
  obtain ⟨n4, e4, _, w4⟩ := DataW.trod_int Try.underlying3 f4
  obtain ⟨n5, e5, _, w5⟩ := DataW.trod_int Try.underlying3 f5
  obtain rfl : c0 = .int .i64 n0 := by simpa using e0
  obtain rfl : c1 = .int .i64 n1 := by simpa using e1
  obtain rfl : c2 = .int .i64 n2 := by simpa using e2
  obtain rfl : c3 = .int .i64 n3 := by simpa using e3
  obtain rfl : c4 = .int .i64 n4 := by simpa using e4
  obtain rfl : c5 = .int .i64 n5 := by simpa using e5
  exact ⟨⟨n0, ⟨n1, n2, n3, n4⟩, n5⟩, rfl, ⟨bounds_i64 w1, bounds_i64 w2, bounds_i64 w3, bounds_i64 w4⟩⟩
end
end Go.Proofs.Ytmgpfkckafdbmaa
