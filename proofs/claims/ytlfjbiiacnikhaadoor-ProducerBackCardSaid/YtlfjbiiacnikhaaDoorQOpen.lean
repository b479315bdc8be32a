/-
  A table that came in; an entry that came in: how the form's reading of an argument is such a table, such an entry.
-/
import Derived.Test.YtlfjbiiacnikhaaDoorQLawR
import Derived.Test.YtlfjbiiacnikhaaDoorRows
import Derived.OpenShut
import Derived.SliceStrings
import Derived.Deep.Slices
import Derived.LaidMore
import Derived.Lay
import Derived.Deep.DeepHandedRow
import Derived.Deep.DeepWitnessRowRef
namespace Go.Proofs.YtlfjbiiacnikhaaDoor
set_option maxRecDepth 100000
open Go Go.RowKit Pq Go.Sort Go.ChangeShapes Go.WideShapes Go.ChangeAt

structure TabIn (W : World) (v : Value) (l : List PP) : Prop where
  sh : ∃ a c, v = .slice a l.length c ∧ Tb (fun _ => True) W a c l
  len : l.length ≤ 9223372036854775807
  lens : ∀ x ∈ l, x.p.last.length ≤ 9223372036854775807
section
variable {H : Type} {enc : TypeId × Value → H} {W : World} {base : Nat} {sp : Nat → Bool} {held : Bool}
theorem cellsIntQ : Tryd.prog.cellsOf 3 = 1 := by kernel_rfl
theorem cellsStrQ : Tryd.prog.cellsOf 9 = 1 := by kernel_rfl
theorem cellsPP : Tryd.prog.cellsOf 42 = 4 := by kernel_rfl
theorem cellsEE : Tryd.prog.cellsOf 25 = 8 := by kernel_rfl
theorem open_numsQ {fuel : Nat} {v : Value} {x : DataW H × List MemPlace} (h : DataW.trod enc Tryd.prog W base sp held fuel 40 [v] = some x) :
    ∃ (l : List Int) (a : Option Addr) (c : Nat), v = .slice a l.length c ∧ Src (fun _ => True) W a c l.length (numsV l) ∧ l.length ≤ 9223372036854775807 := by
  rcases open_ints Tryd.underlying40 Tryd.underlying3 cellsIntQ h with ⟨hv, _⟩ | ⟨a, len, cap, zs, hv, _, hl, hm, hz, _, hc, hw⟩
  · obtain rfl : v = .slice none 0 0 := by simpa using hv
    exact ⟨[], none, 0, rfl, Src.nil _ _, by decide⟩
  · obtain rfl : v = .slice (some a) len cap := by simpa using hv
    have hzl : len ≤ zs.length := by rw [hz]; split <;> omega
    have hlen : (zs.take len).length = len := by simp; omega
    refine ⟨zs.take len, some a, cap, by rw [hlen], ⟨by rw [hlen]; exact hl, fun h0 => ?_⟩, by rw [hlen]; unfold maxLen at hm; omega⟩
    rw [hlen] at h0
    have k0 := hc 0 (by omega)
    rw [show a.add 0 = a by simp [Addr.add]] at k0
    obtain ⟨b, off, rfl⟩ := cell_plainD k0
    refine ⟨b, off, rfl, trivial, fun j u hu => ?_⟩
    have hj : j < len := by
      have := (List.getElem?_eq_some_iff.1 hu).1
      rw [numsV_length] at this
      omega
    have key := hc j (by omega)
    rw [Lib.add_plain] at key
    rw [key]
    simp only [numsV, List.getElem?_map, List.getElem?_take_of_lt hj] at hu
    rw [List.getElem?_eq_getElem (by omega)] at hu
    rw [← hu]
    simp [List.getD, List.getElem?_eq_getElem (show j < zs.length by omega)]
theorem four_ofQ {α : Type} : ∀ (cs : List α), cs.length = 4 → ∃ c0 c1 c2 c3, cs = [c0, c1, c2, c3]
  | [c0, c1, c2, c3], _ => ⟨c0, c1, c2, c3, rfl⟩
theorem eight_ofQ {α : Type} : ∀ (cs : List α), cs.length = 8 → ∃ c0 c1 c2 c3 c4 c5 c6 c7, cs = [c0, c1, c2, c3, c4, c5, c6, c7]
  | [c0, c1, c2, c3, c4, c5, c6, c7], _ => ⟨c0, c1, c2, c3, c4, c5, c6, c7, rfl⟩
theorem open_pp {fuel : Nat} {cs : List Value} {x : DataW H × List MemPlace} (h : DataW.trod enc Tryd.prog W base sp held fuel 42 cs = some x) :
    ∃ y : PP, cs = y.cells ∧ y.ok (fun _ => True) W ∧ y.p.last.length ≤ 9223372036854775807 := by
  obtain ⟨xs, n, rfl, _, hl, hx, hf⟩ := DataW.trod_struct Tryd.underlying42 h
  rw [cellsPP] at hl
  obtain ⟨c0, c1, c2, c3, rfl⟩ := four_ofQ cs hl
  obtain ⟨y0, y1, y2, y3, rfl⟩ := four_ofQ xs hx
  have f0 : DataW.trod enc Tryd.prog W base sp held n 3 [c0] = some y0 := by have := hf 0 _ rfl; exact this
  have f1 : DataW.trod enc Tryd.prog W base sp held n 3 [c1] = some y1 := by have := hf 1 _ rfl; exact this
  have f2 : DataW.trod enc Tryd.prog W base sp held n 3 [c2] = some y2 := by have := hf 2 _ rfl; exact this
  have f3 : DataW.trod enc Tryd.prog W base sp held n 40 [c3] = some y3 := by have := hf 3 _ rfl; exact this
  obtain ⟨n0, e0, _, _⟩ := DataW.trod_int Tryd.underlying3 f0
  obtain ⟨n1, e1, _, _⟩ := DataW.trod_int Tryd.underlying3 f1
  obtain ⟨n2, e2, _, _⟩ := DataW.trod_int Tryd.underlying3 f2
  obtain ⟨l, a, c, rfl, hs, hll⟩ := open_numsQ f3
  obtain rfl : c0 = .int .i64 n0 := by simpa using e0
  obtain rfl : c1 = .int .i64 n1 := by simpa using e1
  obtain rfl : c2 = .int .i64 n2 := by simpa using e2
  exact ⟨⟨⟨n0, n1, n2, l⟩, a, c⟩, rfl, hs, hll⟩
theorem choose_pp {n : Nat} {p : Nat → PP → Prop} (h : ∀ i, i < n → ∃ x, p i x) : ∃ f : Nat → PP, ∀ i, i < n → p i (f i) := by
  have : ∀ i, ∃ x, i < n → p i x := fun i => by
    by_cases hi : i < n
    · obtain ⟨x, hx⟩ := h i hi
      exact ⟨x, fun _ => hx⟩
    · exact ⟨PP.zero, fun h => absurd h hi⟩
  exact ⟨fun i => Classical.choose (this i), fun i => Classical.choose_spec (this i)⟩
theorem ppsV_at (l : List PP) {j : Nat} {u : Value} (h : (ppsV l)[j]? = some u) : ∃ k x q, l[k]? = some x ∧ q < 4 ∧ j = k * 4 + q ∧ x.cells[q]? = some u := by
  have hj : j < l.length * 4 := by have := (List.getElem?_eq_some_iff.1 h).1; rw [ppsV_length] at this; exact this
  have hk : j / 4 < l.length := by omega
  obtain ⟨x, hx⟩ : ∃ x, l[j / 4]? = some x := ⟨l[j / 4], List.getElem?_eq_getElem hk⟩
  have hq : j % 4 < 4 := Nat.mod_lt _ (by decide)
  obtain ⟨u', hu'⟩ : ∃ u', x.cells[j % 4]? = some u' := ⟨_, List.getElem?_eq_getElem (show j % 4 < x.cells.length from hq)⟩
  have h2 := ppsV_get l _ x hx _ _ hu'
  rw [show j / 4 * 4 + j % 4 = j by omega, h] at h2
  injection h2 with h2
  exact ⟨j / 4, x, j % 4, hx, hq, by omega, by rw [hu', h2]⟩
theorem open_tab {fuel : Nat} {v : Value} {x : DataW H × List MemPlace} (h : DataW.trod enc Tryd.prog W base sp held fuel 22 [v] = some x) : ∃ l, TabIn W v l := by
  rcases Go.Deep.open_slice Tryd.underlying22 h with ⟨hv, _⟩ | ⟨a, len, cap, m, n, D, Pl, hv, _, hl, hm, hmm, _, hx⟩
  · obtain rfl : v = .slice none 0 0 := by simpa using hv
    exact ⟨[], ⟨none, 0, rfl, tb_nil _ _⟩, by decide, fun y hy => by cases hy⟩
  · obtain rfl : v = .slice (some a) len cap := by simpa using hv
    have hlm : len ≤ m := by rw [hmm]; split <;> omega
    rw [cellsPP] at hx
    obtain ⟨f, hf⟩ := choose_pp (n := len) (p := fun i y => W.cells? base (a.add (i * 4)) 4 = some y.cells ∧ y.ok (fun _ => True) W ∧ y.p.last.length ≤ 9223372036854775807) (fun i hi => by
      obtain ⟨cs', h1, h2⟩ := hx i (by omega)
      obtain ⟨y, rfl, q1, q2⟩ := open_pp h2
      exact ⟨y, h1, q1, q2⟩)
    have hlen : ((List.range len).map f).length = len := by simp
    refine ⟨(List.range len).map f, ⟨some a, cap, by rw [hlen], ?_, fun y hy => ?_⟩, by rw [hlen]; unfold maxLen at hm; omega, fun y hy => ?_⟩
    · rw [hlen]
      refine ⟨hl, fun h0 => ?_⟩
      obtain ⟨hcs0, _⟩ := hf 0 h0
      have k0 := (World.cells?_some hcs0).2.2 0 (by decide)
      rw [Nat.zero_mul, show (a.add 0).add 0 = a by simp [Addr.add]] at k0
      obtain ⟨b, off, rfl⟩ := cell_plainD k0
      refine ⟨b, off, rfl, trivial, fun j u hu => ?_⟩
      obtain ⟨k, y, q, hk, hq, rfl, hc⟩ := ppsV_at _ hu
      have hkl : k < len := by have := (List.getElem?_eq_some_iff.1 hk).1; omega
      rw [List.getElem?_map, List.getElem?_range hkl] at hk
      obtain rfl : f k = y := by simpa using hk
      have key := (World.cells?_some (hf k hkl).1).2.2 q (by simpa using hq)
      simp only [Lib.add_plain] at key
      rw [← Nat.add_assoc, key]
      exact hc
    · obtain ⟨i, hi, rfl⟩ := List.mem_map.1 hy
      exact (hf i (List.mem_range.1 hi)).2.1
    · obtain ⟨i, hi, rfl⟩ := List.mem_map.1 hy
      exact (hf i (List.mem_range.1 hi)).2.2
theorem open_entry {r : Reach} {b0 : Nat} {v : Value} {d : DataW H} {pl : List MemPlace} (hv : Value.okWide Tryd.prog W r b0 25 v) (h : DataW.Trod enc Tryd.prog W base sp held 25 v d pl) :
    ∃ e : EE, v = e.val := by
  obtain ⟨cs, rfl, hsz⟩ := okWide_struct Tryd.underlying25 hv
  rw [cellsEE] at hsz
  obtain ⟨l⟩ := cs
  obtain ⟨c0, c1, c2, c3, c4, c5, c6, c7, rfl⟩ := eight_ofQ l hsz
  obtain ⟨fuel, hf0⟩ := h
  obtain ⟨xs, n, rfl, _, _, hx, hf⟩ := DataW.trod_struct Tryd.underlying25 hf0
  obtain ⟨y0, y1, y2, y3, y4, y5, y6, y7, rfl⟩ := eight_ofQ xs hx
  have f0 : DataW.trod enc Tryd.prog W base sp held n 3 [c0] = some y0 := by have := hf 0 _ rfl; exact this
  have f1 : DataW.trod enc Tryd.prog W base sp held n 3 [c1] = some y1 := by have := hf 1 _ rfl; exact this
  have f2 : DataW.trod enc Tryd.prog W base sp held n 3 [c2] = some y2 := by have := hf 2 _ rfl; exact this
  have f3 : DataW.trod enc Tryd.prog W base sp held n 3 [c3] = some y3 := by have := hf 3 _ rfl; exact this
  have f4 : DataW.trod enc Tryd.prog W base sp held n 9 [c4] = some y4 := by have := hf 4 _ rfl; exact this
  have f5 : DataW.trod enc Tryd.prog W base sp held n 3 [c5] = some y5 := by have := hf 5 _ rfl; exact this
  have f6 : DataW.trod enc Tryd.prog W base sp held n 3 [c6] = some y6 := by have := hf 6 _ rfl; exact this
  have f7 : DataW.trod enc Tryd.prog W base sp held n 23 [c7] = some y7 := by have := hf 7 _ rfl; exact this
  obtain ⟨n0, e0, _, _⟩ := DataW.trod_int Tryd.underlying3 f0
  obtain ⟨n1, e1, _, _⟩ := DataW.trod_int Tryd.underlying3 f1
  obtain ⟨n2, e2, _, _⟩ := DataW.trod_int Tryd.underlying3 f2
  obtain ⟨n3, e3, _, _⟩ := DataW.trod_int Tryd.underlying3 f3
  obtain ⟨s4, e4, _, _⟩ := DataW.trod_string Tryd.underlying9 f4
  obtain ⟨n5, e5, _, _⟩ := DataW.trod_int Tryd.underlying3 f5
  obtain ⟨n6, e6, _, _⟩ := DataW.trod_int Tryd.underlying3 f6
  obtain rfl : c0 = .int .i64 n0 := by simpa using e0
  obtain rfl : c1 = .int .i64 n1 := by simpa using e1
  obtain rfl : c2 = .int .i64 n2 := by simpa using e2
  obtain rfl : c3 = .int .i64 n3 := by simpa using e3
  obtain rfl : c4 = .string s4 := by simpa using e4
  obtain rfl : c5 = .int .i64 n5 := by simpa using e5
  obtain rfl : c6 = .int .i64 n6 := by simpa using e6
  rcases Go.Deep.open_slice Tryd.underlying23 f7 with ⟨e7, _⟩ | ⟨a, len, cap, _, _, _, _, e7, _⟩
  · obtain rfl : c7 = .slice none 0 0 := by simpa using e7
    exact ⟨⟨n0, n1, n2, n3, s4, n5, n6, none, 0, 0⟩, rfl⟩
  · obtain rfl : c7 = .slice (some a) len cap := by simpa using e7
    exact ⟨⟨n0, n1, n2, n3, s4, n5, n6, some a, len, cap⟩, rfl⟩
end
end Go.Proofs.YtlfjbiiacnikhaaDoor
