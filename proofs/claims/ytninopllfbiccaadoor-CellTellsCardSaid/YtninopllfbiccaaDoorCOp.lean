/-
  From the form's reading of an argument to a list of operations; what the row lists of the program's table; a world that meets the list.
-/
import Derived.Test.YtninopllfbiccaaDoorCRel
import Derived.Test.YtninopllfbiccaaDoorRows
import Derived.Test.YtninopllfbiccaaDoorTie
import Derived.Test.YtninopllfbiccaaDoorCards
import Derived.ProofKit
import Derived.OpenShut
import Derived.SliceStrings
import Derived.Deep.Slices
import Derived.Carry
import Derived.LaidMore
import Derived.Lay
import Derived.Deep.DeepHandedRow
import Derived.Deep.DeepWitnessRowRef
import Derived.Lib.LaidTab
namespace Go.Proofs.YtninopllfbiccaaDoor
set_option maxRecDepth 100000
open Go Go.RowKit Go.Sort Dk Go.ChangeShapes Go.ChangeAt

theorem own : ownKnob Tryd.prog.godebug = none := by kernel_rfl
theorem laid_met (os : Os) (args : Array Value) : laidMetH Tryd.prog Rows.cellTellsRow.laid ((World.laidAll Tryd.prog os Rows.cellTellsRow.laid).forCall (fun _ _ => 0) ⟨#[], args, []⟩).memory := by
  rw [MakeChecks.laidMetH_plain _ _ _ (by kernel_rfl)]
  exact laidMet_laidAll args (by kernel_rfl) (by kernel_rfl)
theorem g_off : Tryd.prog.globalNamed "errata/cell.offsets" = some 0 := by kernel_rfl
theorem gt_off : (Tryd.prog.globals[0]?).map (·.type) = some 93 := by kernel_rfl
theorem cellsOff : Tryd.prog.cellsOf 93 = 2 := by kernel_rfl
theorem cellsInt0 : Tryd.prog.cellsOf 3 = 1 := by kernel_rfl
theorem tab_of_laid {W : World} (hL : laidMetH Tryd.prog Rows.cellTellsRow.laid W) : Tab W := by
  rw [MakeChecks.laidMetH_plain _ _ _ (by kernel_rfl)] at hL
  have ht : Lib.TabIs Tryd.prog W "errata/cell.offsets" .i64 [64, 131072] :=
    Lib.tabIs_of_head (k := .i64) (zs := [64, 131072]) g_off gt_off Tryd.underlying93 Tryd.underlying3 cellsInt0 cellsOff hL
  exact ⟨ht.cell g_off 0 (by decide), ht.cell g_off 1 (by decide)⟩

/-- An operation. -/
structure Op5 where
  kind : Int
  s : List UInt8
  n : Int
  keep : List Int
structure Op5.Fit (a : Op5) : Prop where
  kind : In64 a.kind
  s : a.s.length ≤ 9223372036854775807
  n : In64 a.n
  keepLen : a.keep.length ≤ 9223372036854775807
  keepIn : ∀ k ∈ a.keep, In64 k
/-- A list of operations that came in. -/
def OpsIn (w : World) (v : Value) (l : List Op5) : Prop :=
  l.length ≤ 9223372036854775807 ∧ ∃ a c, v = .slice a l.length c ∧ ∀ i x, l[i]? = some x → ∃ b off ka kc, a = some ⟨b, off, none⟩ ∧
    (w.cell? ⟨b, off + i * 4, none⟩ = some (.int .i64 x.kind) ∧ w.cell? ⟨b, off + i * 4 + 1, none⟩ = some (.string ⟨x.s.toArray⟩) ∧ w.cell? ⟨b, off + i * 4 + 2, none⟩ = some (.int .i64 x.n) ∧ w.cell? ⟨b, off + i * 4 + 3, none⟩ = some (.slice ka x.keep.length kc)) ∧
      SrcV w 1 (.slice ka x.keep.length kc) x.keep.length (intsV x.keep) ∧ x.Fit
theorem OpsIn.on {w w' : World} {v : Value} {l : List Op5} (h : OpsIn w v l) (hb : Below w.heap.size w w') : OpsIn w' v l := by
  obtain ⟨h0, a, c, h1, h2⟩ := h
  refine ⟨h0, a, c, h1, fun i x hx => ?_⟩
  obtain ⟨b, off, ka, kc, h3, ⟨c0, c1, c2, c3⟩, h4, h5⟩ := h2 i x hx
  have hk : ∀ {p : Addr} {v : Value}, w.cell? p = some v → w'.cell? p = some v := fun hp => (Kept.below (S := fun _ => False) hb).cell hp (fun e => e)
  exact ⟨b, off, ka, kc, h3, ⟨hk c0, hk c1, hk c2, hk c3⟩, h4.on hb, h5⟩

section
variable {H : Type} {enc : TypeId × Value → H} {W : World} {base : Nat} {sp : Nat → Bool} {held : Bool}

theorem cellsInt : Tryd.prog.cellsOf 3 = 1 := by kernel_rfl
theorem cellsStrg : Tryd.prog.cellsOf 9 = 1 := by kernel_rfl
theorem cellsInts : Tryd.prog.cellsOf 36 = 1 := by kernel_rfl
theorem cellsOp5 : Tryd.prog.cellsOf 38 = 4 := by kernel_rfl
theorem four_cells : ∀ (cs : List Value), cs.length = 4 → ∃ c0 c1 c2 c3, cs = [c0, c1, c2, c3]
  | [c0, c1, c2, c3], _ => ⟨c0, c1, c2, c3, rfl⟩
theorem open_intsV {fuel : Nat} {v : Value} {x : DataW H × List MemPlace} (h : DataW.trod enc Tryd.prog W base sp held fuel 36 [v] = some x) :
    ∃ l a c, v = .slice a l.length c ∧ SrcV W 1 v l.length (intsV l) ∧ l.length ≤ 9223372036854775807 ∧ ∀ k ∈ l, In64 k := by
  rcases open_ints Tryd.underlying36 Tryd.underlying3 cellsInt h with ⟨hv, _⟩ | ⟨a, len, cap, zs, hv, _, hl, hm, hz, _, hc, hw⟩
  · obtain rfl : v = .slice none 0 0 := by simpa using hv
    exact ⟨[], none, 0, rfl, ⟨none, 0, rfl, rfl, fun _ => rfl, fun ad e => by cases e⟩, by decide, fun k hk => by cases hk⟩
  · obtain rfl : v = .slice (some a) len cap := by simpa using hv
    have hzl : len ≤ zs.length := by rw [hz]; split <;> omega
    have hlen : (zs.take len).length = len := by simp; omega
    refine ⟨zs.take len, some a, cap, by rw [hlen], ⟨some a, cap, by rw [hlen], by simp [intsV], (fun e => by cases e), fun ad e j u hu => ?_⟩, by rw [hlen]; unfold maxLen at hm; omega, fun k hk => bounds_i64 (hw k (List.mem_of_mem_take hk))⟩
    obtain rfl : ad = a := (Option.some.inj e).symm
    have hj : j < len := by
      have := (List.getElem?_eq_some_iff.1 hu).1
      simp [intsV] at this
      omega
    rw [hc j (by omega)]
    simp only [intsV, List.getElem?_map, List.getElem?_take_of_lt hj] at hu
    rw [List.getElem?_eq_getElem (by omega)] at hu
    rw [← hu]
    simp [List.getD, List.getElem?_eq_getElem (show j < zs.length by omega)]
def OpCells (W : World) (x : Op5) (cs : List Value) : Prop :=
  ∃ ka kc, cs = [.int .i64 x.kind, .string ⟨x.s.toArray⟩, .int .i64 x.n, .slice ka x.keep.length kc] ∧ SrcV W 1 (.slice ka x.keep.length kc) x.keep.length (intsV x.keep) ∧ x.Fit
theorem open_op {fuel : Nat} {cs : List Value} {x : DataW H × List MemPlace} (h : DataW.trod enc Tryd.prog W base sp held fuel 38 cs = some x) : ∃ y : Op5, OpCells W y cs := by
  obtain ⟨xs, n, rfl, _, hl, hx, hf⟩ := DataW.trod_struct Tryd.underlying38 h
  rw [cellsOp5] at hl
  obtain ⟨c0, c1, c2, c3, rfl⟩ := four_cells cs hl
  have hx5 : xs.length = 4 := hx
  have f0 : DataW.trod enc Tryd.prog W base sp held n 3 (([c0, c1, c2, c3].drop 0).take (Tryd.prog.cellsOf 3)) = xs[0]? := hf 0 _ rfl
  have f1 : DataW.trod enc Tryd.prog W base sp held n 9 (([c0, c1, c2, c3].drop 1).take (Tryd.prog.cellsOf 9)) = xs[1]? := hf 1 _ rfl
  have f2 : DataW.trod enc Tryd.prog W base sp held n 3 (([c0, c1, c2, c3].drop 2).take (Tryd.prog.cellsOf 3)) = xs[2]? := hf 2 _ rfl
  have f3 : DataW.trod enc Tryd.prog W base sp held n 36 (([c0, c1, c2, c3].drop 3).take (Tryd.prog.cellsOf 36)) = xs[3]? := hf 3 _ rfl
  rw [cellsInt, List.getElem?_eq_getElem (by omega)] at f0 f2
  rw [cellsStrg, List.getElem?_eq_getElem (by omega)] at f1
  rw [cellsInts, List.getElem?_eq_getElem (by omega)] at f3
  obtain ⟨o, e0, _, w0⟩ := DataW.trod_int Tryd.underlying3 f0
  obtain ⟨s, e1, _, w1⟩ := DataW.trod_string Tryd.underlying9 f1
  obtain ⟨m, e2, _, w2⟩ := DataW.trod_int Tryd.underlying3 f2
  obtain ⟨l, a, c, e3, hs4, hl4, hin⟩ := open_intsV f3
  obtain rfl : c0 = .int .i64 o := by simpa using e0
  obtain rfl : c1 = .string s := by simpa using e1
  obtain rfl : c2 = .int .i64 m := by simpa using e2
  subst e3
  refine ⟨⟨o, s.data.toList, m, l⟩, a, c, by simp, hs4, bounds_i64 w0, ?_, bounds_i64 w2, hl4, hin⟩
  have : s.data.toList.length = s.size := Array.length_toList
  unfold maxLen at w1
  show s.data.toList.length ≤ 9223372036854775807
  omega
theorem choose_op {n : Nat} {p : Nat → Op5 → Prop} (h : ∀ i, i < n → ∃ x, p i x) : ∃ f : Nat → Op5, ∀ i, i < n → p i (f i) := by
  have : ∀ i, ∃ x, i < n → p i x := fun i => by
    by_cases hi : i < n
    · obtain ⟨x, hx⟩ := h i hi
      exact ⟨x, fun _ => hx⟩
    · exact ⟨⟨0, [], 0, []⟩, fun h => absurd h hi⟩
  exact ⟨fun i => Classical.choose (this i), fun i => Classical.choose_spec (this i)⟩
theorem open_ops {fuel : Nat} {v : Value} {x : DataW H × List MemPlace} (h : DataW.trod enc Tryd.prog W base sp held fuel 22 [v] = some x) : ∃ l, OpsIn W v l := by
  rcases Go.Deep.open_slice Tryd.underlying22 h with ⟨hv, _⟩ | ⟨a, len, cap, m, n, D, Pl, hv, _, hl, hm, hmm, _, hx⟩
  · obtain rfl : v = .slice none 0 0 := by simpa using hv
    exact ⟨[], by decide, none, 0, rfl, fun i x hx => by simp at hx⟩
  · obtain rfl : v = .slice (some a) len cap := by simpa using hv
    have hlm : len ≤ m := by rw [hmm]; split <;> omega
    rw [cellsOp5] at hx
    obtain ⟨f, hf⟩ := choose_op (n := len) (p := fun i y => ∃ cs, OpCells W y cs ∧ W.cells? base (a.add (i * 4)) 4 = some cs) (fun i hi => by
      obtain ⟨cs', h1, h2⟩ := hx i (by omega)
      obtain ⟨y, hy⟩ := open_op h2
      exact ⟨y, cs', hy, h1⟩)
    have hlen : ((List.range len).map f).length = len := by simp
    refine ⟨(List.range len).map f, by rw [hlen]; unfold maxLen at hm; omega, some a, cap, by rw [hlen], fun i x hx => ?_⟩
    have hi : i < len := by have := (List.getElem?_eq_some_iff.1 hx).1; omega
    rw [List.getElem?_map, List.getElem?_range hi] at hx
    obtain rfl : f i = x := by simpa using hx
    obtain ⟨cs, ⟨ka, kc, rfl, hs, hfit⟩, hcs⟩ := hf i hi
    have key := (World.cells?_some hcs).2.2
    obtain ⟨cs0, ⟨ka0, kc0, rfl, _⟩, hcs0⟩ := hf 0 (by omega)
    have k0 := (World.cells?_some hcs0).2.2 0 (by decide)
    rw [Nat.zero_mul, show (a.add 0).add 0 = a by simp [Addr.add]] at k0
    obtain ⟨b, off, rfl⟩ := cell_plainD k0
    simp only [Lib.add_plain] at key
    exact ⟨b, off, ka, kc, rfl, ⟨key 0 (by decide), key 1 (by decide), key 2 (by decide), key 3 (by decide)⟩, hs, hfit⟩
theorem trodAll_five {P : Program} {w : World} {t0 t1 t2 t3 t4 : TypeId} {args : Array Value} {ds : List (DataW H)} {ps : List MemPlace} (h : DataW.TrodAll enc P w base sp held [t0, t1, t2, t3, t4] args.toList ds ps) :
    ∃ v0 v1 v2 v3 v4 d0 d1 d2 d3 d4 p0 p1 p2 p3 p4, args = #[v0, v1, v2, v3, v4] ∧ ds = [d0, d1, d2, d3, d4] ∧ ps = p0 ++ p1 ++ p2 ++ p3 ++ p4 ∧ DataW.Trod enc P w base sp held t0 v0 d0 p0 ∧ DataW.Trod enc P w base sp held t1 v1 d1 p1 ∧ DataW.Trod enc P w base sp held t2 v2 d2 p2 ∧ DataW.Trod enc P w base sp held t3 v3 d3 p3 ∧ DataW.Trod enc P w base sp held t4 v4 d4 p4 := by
  obtain ⟨v0, r0, d0, e0, p0, q0, hargs, rfl, rfl, h0, s0⟩ := trodAll_cons h
  obtain ⟨v1, r1, d1, e1, p1, q1, rfl, rfl, rfl, h1, s1⟩ := trodAll_cons s0
  obtain ⟨v2, r2, d2, e2, p2, q2, rfl, rfl, rfl, h2, s2⟩ := trodAll_cons s1
  obtain ⟨v3, r3, d3, e3, p3, q3, rfl, rfl, rfl, h3, s3⟩ := trodAll_cons s2
  obtain ⟨v4, r4, d4, e4, p4, q4, rfl, rfl, rfl, h4, s4⟩ := trodAll_cons s3
  obtain ⟨rfl, rfl, rfl⟩ := trodAll_nil s4
  exact ⟨v0, v1, v2, v3, v4, d0, d1, d2, d3, d4, p0, p1, p2, p3, p4, by cases args; simp_all, rfl, by simp, h0, h1, h2, h3, h4⟩
theorem trodAll_mk5 {P : Program} {w : World} {t0 t1 t2 t3 t4 : TypeId} {v0 v1 v2 v3 v4 : Value} {d0 d1 d2 d3 d4 : DataW H} {p0 p1 p2 p3 p4 : List MemPlace} (h0 : DataW.Trod enc P w base sp held t0 v0 d0 p0) (h1 : DataW.Trod enc P w base sp held t1 v1 d1 p1)
    (h2 : DataW.Trod enc P w base sp held t2 v2 d2 p2) (h3 : DataW.Trod enc P w base sp held t3 v3 d3 p3) (h4 : DataW.Trod enc P w base sp held t4 v4 d4 p4) : DataW.TrodAll enc P w base sp held [t0, t1, t2, t3, t4] [v0, v1, v2, v3, v4] [d0, d1, d2, d3, d4] (p0 ++ (p1 ++ (p2 ++ (p3 ++ p4)))) := ⟨p0, p1 ++ (p2 ++ (p3 ++ p4)), h0, trodAll_mk4 h1 h2 h3 h4, rfl⟩
theorem trodAll_six {P : Program} {w : World} {t0 t1 t2 t3 t4 t5 : TypeId} {args : Array Value} {ds : List (DataW H)} {ps : List MemPlace} (h : DataW.TrodAll enc P w base sp held [t0, t1, t2, t3, t4, t5] args.toList ds ps) :
    ∃ v0 v1 v2 v3 v4 v5 d0 d1 d2 d3 d4 d5 p0 p1 p2 p3 p4 p5, args = #[v0, v1, v2, v3, v4, v5] ∧ ds = [d0, d1, d2, d3, d4, d5] ∧ ps = p0 ++ p1 ++ p2 ++ p3 ++ p4 ++ p5 ∧ DataW.Trod enc P w base sp held t0 v0 d0 p0 ∧ DataW.Trod enc P w base sp held t1 v1 d1 p1 ∧ DataW.Trod enc P w base sp held t2 v2 d2 p2 ∧ DataW.Trod enc P w base sp held t3 v3 d3 p3 ∧ DataW.Trod enc P w base sp held t4 v4 d4 p4 ∧ DataW.Trod enc P w base sp held t5 v5 d5 p5 := by
  obtain ⟨v0, r0, d0, e0, p0, q0, hargs, rfl, rfl, h0, s0⟩ := trodAll_cons h
  obtain ⟨v1, r1, d1, e1, p1, q1, rfl, rfl, rfl, h1, s1⟩ := trodAll_cons s0
  obtain ⟨v2, r2, d2, e2, p2, q2, rfl, rfl, rfl, h2, s2⟩ := trodAll_cons s1
  obtain ⟨v3, r3, d3, e3, p3, q3, rfl, rfl, rfl, h3, s3⟩ := trodAll_cons s2
  obtain ⟨v4, r4, d4, e4, p4, q4, rfl, rfl, rfl, h4, s4⟩ := trodAll_cons s3
  obtain ⟨v5, r5, d5, e5, p5, q5, rfl, rfl, rfl, h5, s5⟩ := trodAll_cons s4
  obtain ⟨rfl, rfl, rfl⟩ := trodAll_nil s5
  exact ⟨v0, v1, v2, v3, v4, v5, d0, d1, d2, d3, d4, d5, p0, p1, p2, p3, p4, p5, by cases args; simp_all, rfl, by simp, h0, h1, h2, h3, h4, h5⟩
theorem trodAll_mk6 {P : Program} {w : World} {t0 t1 t2 t3 t4 t5 : TypeId} {v0 v1 v2 v3 v4 v5 : Value} {d0 d1 d2 d3 d4 d5 : DataW H} {p0 p1 p2 p3 p4 p5 : List MemPlace} (h0 : DataW.Trod enc P w base sp held t0 v0 d0 p0) (h1 : DataW.Trod enc P w base sp held t1 v1 d1 p1)
    (h2 : DataW.Trod enc P w base sp held t2 v2 d2 p2) (h3 : DataW.Trod enc P w base sp held t3 v3 d3 p3) (h4 : DataW.Trod enc P w base sp held t4 v4 d4 p4) (h5 : DataW.Trod enc P w base sp held t5 v5 d5 p5) : DataW.TrodAll enc P w base sp held [t0, t1, t2, t3, t4, t5] [v0, v1, v2, v3, v4, v5] [d0, d1, d2, d3, d4, d5] (p0 ++ (p1 ++ (p2 ++ (p3 ++ (p4 ++ p5))))) := ⟨p0, p1 ++ (p2 ++ (p3 ++ (p4 ++ p5))), h0, trodAll_mk5 h1 h2 h3 h4 h5, rfl⟩
end
end Go.Proofs.YtninopllfbiccaaDoor
