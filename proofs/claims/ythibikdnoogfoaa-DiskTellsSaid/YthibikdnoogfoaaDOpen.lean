/-
  From the form's reading of an argument to a list of acts.
-/
import Derived.Test.YthibikdnoogfoaaDPlay
import Derived.Test.YthibikdnoogfoaaRows
import Derived.ProofKit
import Derived.OpenShut
import Derived.SliceStrings
import Derived.Deep.Slices
import Derived.Carry
import Derived.LaidMore
import Derived.Lay
import Derived.Deep.DeepHandedRow
import Derived.Deep.DeepWitnessRowRef
import Derived.Lib.LaidTab
namespace Go.Proofs.Ythibikdnoogfoaa
open Go Go.RowKit Go.Sort Dk Go.ChangeShapes Go.ChangeAt

theorem own : ownKnob Try.prog.godebug = none := by kernel_rfl
theorem laid_met (os : Os) (args : Array Value) : laidMetH Try.prog [] ((World.laidAll Try.prog os []).forCall (fun _ _ => 0) ⟨#[], args, []⟩).memory := by
  rw [MakeChecks.laidMetH_plain _ _ _ (by kernel_rfl)]
  exact laidMet_laidAll args (by kernel_rfl) (by kernel_rfl)

section
variable {H : Type} {enc : TypeId × Value → H} {W : World} {base : Nat} {sp : Nat → Bool} {held : Bool}

theorem cellsInt : Try.prog.cellsOf 3 = 1 := by kernel_rfl
theorem cellsStrg : Try.prog.cellsOf 9 = 1 := by kernel_rfl
theorem cellsInts : Try.prog.cellsOf 31 = 1 := by kernel_rfl
theorem cellsAct : Try.prog.cellsOf 33 = 5 := by kernel_rfl
theorem five_cells : ∀ (cs : List Value), cs.length = 5 → ∃ c0 c1 c2 c3 c4, cs = [c0, c1, c2, c3, c4]
  | [c0, c1, c2, c3, c4], _ => ⟨c0, c1, c2, c3, c4, rfl⟩
theorem open_intsV {fuel : Nat} {v : Value} {x : DataW H × List MemPlace} (h : DataW.trod enc Try.prog W base sp held fuel 31 [v] = some x) :
    ∃ l a c, v = .slice a l.length c ∧ SrcV W 1 v l.length (intsV l) ∧ l.length ≤ 9223372036854775807 ∧ ∀ k ∈ l, In64 k := by
  rcases open_ints Try.underlying31 Try.underlying3 cellsInt h with ⟨hv, _⟩ | ⟨a, len, cap, zs, hv, _, hl, hm, hz, _, hc, hw⟩
  · obtain rfl : v = .slice none 0 0 := by simpa using hv
    exact ⟨[], none, 0, rfl, ⟨none, 0, rfl, rfl, fun _ => rfl, fun ad e => by cases e⟩, by decide, fun k hk => by cases hk⟩
  · obtain rfl : v = .slice (some a) len cap := by simpa using hv
    have hzl : len ≤ zs.length := by rw [hz]; split <;> omega
    have hlen : (zs.take len).length = len := by simp; omega
    refine ⟨zs.take len, some a, cap, by rw [hlen], ⟨some a, cap, by rw [hlen], by simp [intsV], (fun e => by cases e), fun ad e j u hu => ?_⟩, by rw [hlen]; unfold maxLen at hm; omega, fun k hk => bounds_i64 (hw k (List.mem_of_mem_take hk))⟩
    obtain rfl : ad = a := (Option.some.inj e).symm
    have hj : j < len := by
      have := (List.getElem?_eq_some_iff.1 hu).1
      simp [intsV] at this
      omega
    rw [hc j (by omega)]
    simp only [intsV, List.getElem?_map, List.getElem?_take_of_lt hj] at hu
    rw [List.getElem?_eq_getElem (by omega)] at hu
    rw [← hu]
    simp [List.getD, List.getElem?_eq_getElem (show j < zs.length by omega)]
def ActCells (W : World) (x : Act) (cs : List Value) : Prop :=
  ∃ ka kc, cs = [.int .i64 x.op, .int .i64 x.f, .int .i64 x.n, .string ⟨x.s.toArray⟩, .slice ka x.keep.length kc] ∧ SrcV W 1 (.slice ka x.keep.length kc) x.keep.length (intsV x.keep) ∧ x.Fit
theorem open_act {fuel : Nat} {cs : List Value} {x : DataW H × List MemPlace} (h : DataW.trod enc Try.prog W base sp held fuel 33 cs = some x) : ∃ y : Act, ActCells W y cs := by
  obtain ⟨xs, n, rfl, _, hl, hx, hf⟩ := DataW.trod_struct Try.underlying33 h
  rw [cellsAct] at hl
  obtain ⟨c0, c1, c2, c3, c4, rfl⟩ := five_cells cs hl
  have hx5 : xs.length = 5 := hx
  have f0 : DataW.trod enc Try.prog W base sp held n 3 (([c0, c1, c2, c3, c4].drop 0).take (Try.prog.cellsOf 3)) = xs[0]? := hf 0 _ rfl
  have f1 : DataW.trod enc Try.prog W base sp held n 3 (([c0, c1, c2, c3, c4].drop 1).take (Try.prog.cellsOf 3)) = xs[1]? := hf 1 _ rfl
  have f2 : DataW.trod enc Try.prog W base sp held n 3 (([c0, c1, c2, c3, c4].drop 2).take (Try.prog.cellsOf 3)) = xs[2]? := hf 2 _ rfl
  have f3 : DataW.trod enc Try.prog W base sp held n 9 (([c0, c1, c2, c3, c4].drop 3).take (Try.prog.cellsOf 9)) = xs[3]? := hf 3 _ rfl
  have f4 : DataW.trod enc Try.prog W base sp held n 31 (([c0, c1, c2, c3, c4].drop 4).take (Try.prog.cellsOf 31)) = xs[4]? := hf 4 _ rfl
  rw [cellsInt, List.getElem?_eq_getElem (by omega)] at f0 f1 f2
  rw [cellsStrg, List.getElem?_eq_getElem (by omega)] at f3
  rw [cellsInts, List.getElem?_eq_getElem (by omega)] at f4
  obtain ⟨o, e0, _, w0⟩ := DataW.trod_int Try.underlying3 f0
  obtain ⟨f, e1, _, w1⟩ := DataW.trod_int Try.underlying3 f1
  obtain ⟨m, e2, _, w2⟩ := DataW.trod_int Try.underlying3 f2
  obtain ⟨s, e3, _, w3⟩ := DataW.trod_string Try.underlying9 f3
  obtain ⟨l, a, c, e4, hs4, hl4, hin⟩ := open_intsV f4
  obtain rfl : c0 = .int .i64 o := by simpa using e0
  obtain rfl : c1 = .int .i64 f := by simpa using e1
  obtain rfl : c2 = .int .i64 m := by simpa using e2
  obtain rfl : c3 = .string s := by simpa using e3
  subst e4
  refine ⟨⟨o, f, m, s.data.toList, l⟩, a, c, by simp, hs4, bounds_i64 w0, bounds_i64 w1, bounds_i64 w2, ?_, hin⟩
  have : s.data.toList.length = s.size := Array.length_toList
  unfold maxLen at w3
  show s.data.toList.length ≤ 9223372036854775807
  omega
theorem choose_act {n : Nat} {p : Nat → Act → Prop} (h : ∀ i, i < n → ∃ x, p i x) : ∃ f : Nat → Act, ∀ i, i < n → p i (f i) := by
  have : ∀ i, ∃ x, i < n → p i x := fun i => by
    by_cases hi : i < n
    · obtain ⟨x, hx⟩ := h i hi
      exact ⟨x, fun _ => hx⟩
    · exact ⟨⟨0, 0, 0, [], []⟩, fun h => absurd h hi⟩
  exact ⟨fun i => Classical.choose (this i), fun i => Classical.choose_spec (this i)⟩
theorem open_acts {fuel : Nat} {v : Value} {x : DataW H × List MemPlace} (h : DataW.trod enc Try.prog W base sp held fuel 22 [v] = some x) : ∃ l, ActsIn W v l := by
  rcases Go.Deep.open_slice Try.underlying22 h with ⟨hv, _⟩ | ⟨a, len, cap, m, n, D, Pl, hv, _, hl, hm, hmm, _, hx⟩
  · obtain rfl : v = .slice none 0 0 := by simpa using hv
    exact ⟨[], by decide, none, 0, rfl, fun i x hx => by simp at hx⟩
  · obtain rfl : v = .slice (some a) len cap := by simpa using hv
    have hlm : len ≤ m := by rw [hmm]; split <;> omega
    rw [cellsAct] at hx
    obtain ⟨f, hf⟩ := choose_act (n := len) (p := fun i y => ∃ cs, ActCells W y cs ∧ W.cells? base (a.add (i * 5)) 5 = some cs) (fun i hi => by
      obtain ⟨cs', h1, h2⟩ := hx i (by omega)
      obtain ⟨y, hy⟩ := open_act h2
      exact ⟨y, cs', hy, h1⟩)
    have hlen : ((List.range len).map f).length = len := by simp
    refine ⟨(List.range len).map f, by rw [hlen]; unfold maxLen at hm; omega, some a, cap, by rw [hlen], fun i x hx => ?_⟩
    have hi : i < len := by have := (List.getElem?_eq_some_iff.1 hx).1; omega
    rw [List.getElem?_map, List.getElem?_range hi] at hx
    obtain rfl : f i = x := by simpa using hx
    obtain ⟨cs, ⟨ka, kc, rfl, hs, hfit⟩, hcs⟩ := hf i hi
    have key := (World.cells?_some hcs).2.2
    obtain ⟨cs0, ⟨ka0, kc0, rfl, _⟩, hcs0⟩ := hf 0 (by omega)
    have k0 := (World.cells?_some hcs0).2.2 0 (by decide)
    rw [Nat.zero_mul, show (a.add 0).add 0 = a by simp [Addr.add]] at k0
    obtain ⟨b, off, rfl⟩ := cell_plainD k0
    simp only [Lib.add_plain] at key
    exact ⟨b, off, ka, kc, rfl, ⟨key 0 (by decide), key 1 (by decide), key 2 (by decide), key 3 (by decide), key 4 (by decide)⟩, hs, hfit⟩
theorem trodAll_five {P : Program} {w : World} {t0 t1 t2 t3 t4 : TypeId} {args : Array Value} {ds : List (DataW H)} {ps : List MemPlace} (h : DataW.TrodAll enc P w base sp held [t0, t1, t2, t3, t4] args.toList ds ps) :
    ∃ v0 v1 v2 v3 v4 d0 d1 d2 d3 d4 p0 p1 p2 p3 p4, args = #[v0, v1, v2, v3, v4] ∧ ds = [d0, d1, d2, d3, d4] ∧ ps = p0 ++ p1 ++ p2 ++ p3 ++ p4 ∧ DataW.Trod enc P w base sp held t0 v0 d0 p0 ∧ DataW.Trod enc P w base sp held t1 v1 d1 p1 ∧ DataW.Trod enc P w base sp held t2 v2 d2 p2 ∧ DataW.Trod enc P w base sp held t3 v3 d3 p3 ∧ DataW.Trod enc P w base sp held t4 v4 d4 p4 := by
  obtain ⟨v0, r0, d0, e0, p0, q0, hargs, rfl, rfl, h0, s0⟩ := trodAll_cons h
  obtain ⟨v1, r1, d1, e1, p1, q1, rfl, rfl, rfl, h1, s1⟩ := trodAll_cons s0
  obtain ⟨v2, r2, d2, e2, p2, q2, rfl, rfl, rfl, h2, s2⟩ := trodAll_cons s1
  obtain ⟨v3, r3, d3, e3, p3, q3, rfl, rfl, rfl, h3, s3⟩ := trodAll_cons s2
  obtain ⟨v4, r4, d4, e4, p4, q4, rfl, rfl, rfl, h4, s4⟩ := trodAll_cons s3
  obtain ⟨rfl, rfl, rfl⟩ := trodAll_nil s4
  exact ⟨v0, v1, v2, v3, v4, d0, d1, d2, d3, d4, p0, p1, p2, p3, p4, by cases args; simp_all, rfl, by simp, h0, h1, h2, h3, h4⟩
theorem trodAll_mk5 {P : Program} {w : World} {t0 t1 t2 t3 t4 : TypeId} {v0 v1 v2 v3 v4 : Value} {d0 d1 d2 d3 d4 : DataW H} {p0 p1 p2 p3 p4 : List MemPlace} (h0 : DataW.Trod enc P w base sp held t0 v0 d0 p0) (h1 : DataW.Trod enc P w base sp held t1 v1 d1 p1)
    (h2 : DataW.Trod enc P w base sp held t2 v2 d2 p2) (h3 : DataW.Trod enc P w base sp held t3 v3 d3 p3) (h4 : DataW.Trod enc P w base sp held t4 v4 d4 p4) : DataW.TrodAll enc P w base sp held [t0, t1, t2, t3, t4] [v0, v1, v2, v3, v4] [d0, d1, d2, d3, d4] (p0 ++ (p1 ++ (p2 ++ (p3 ++ p4)))) := ⟨p0, p1 ++ (p2 ++ (p3 ++ p4)), h0, trodAll_mk4 h1 h2 h3 h4, rfl⟩
end
end Go.Proofs.Ythibikdnoogfoaa
