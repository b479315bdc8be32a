/-
  From the form's reading of an argument to a list of operations, to a list of strings; what the row lists of the program's tables; a world that meets the list.
-/
import Derived.Test.YtljgfnglknpfaaaGreatDoorJCut
import Derived.Test.YtljgfnglknpfaaaGreatDoorRows
import Derived.Test.YtljgfnglknpfaaaGreatDoorTie
import Derived.Test.YtljgfnglknpfaaaGreatDoorCards
import Derived.ProofKit
import Derived.OpenShut
import Derived.SliceStrings
import Derived.Deep.Slices
import Derived.Carry
import Derived.LaidMore
import Derived.Lay
import Derived.Deep.DeepHandedRow
import Derived.Deep.DeepWitnessRowRef
import Derived.Lib.LaidTab
import Derived.Stop.LaidErr
namespace Go.Proofs.YtljgfnglknpfaaaGreatDoor
set_option maxRecDepth 100000
open Go Go.RowKit Go.Sort Dk Go.ChangeShapes Go.ChangeAt Go.WideShapes

/-! ### The row's list of variables -/
theorem own : ownKnob Tryz.prog.godebug = none := by kernel_rfl
theorem laid_met (os : Os) (args : Array Value) : laidMetH Tryz.prog Rows.journalLastsRow.laid ((World.laidAll Tryz.prog os Rows.journalLastsRow.laid).forCall (fun _ _ => 0) ⟨#[], args, []⟩).memory := by
  rw [MakeChecks.laidMetH_plain _ _ _ (by kernel_rfl)]
  exact laidMet_laidAll args (by kernel_rfl) (by kernel_rfl)
theorem gt_tab : (Tryz.prog.globals[1]?).map (·.type) = some 122 := by kernel_rfl
theorem gt_syn : (Tryz.prog.globals[3]?).map (·.type) = some 90 := by kernel_rfl
theorem gt_ran : (Tryz.prog.globals[4]?).map (·.type) = some 90 := by kernel_rfl
theorem cellsTab : Tryz.prog.cellsOf 122 = 20 := by kernel_rfl
theorem cellsU64 : Tryz.prog.cellsOf 115 = 1 := by kernel_rfl
theorem cellsErr : Tryz.prog.cellsOf 149 = 1 := by kernel_rfl
theorem cellsStr : Tryz.prog.cellsOf 9 = 1 := by kernel_rfl
theorem star : "*" ++ "errors.errorString" = "*errors.errorString" := by decide
theorem rowErr (u : TypeId) (h : Tryz.prog.typeName? 3 u = some "*errors.errorString") : u = 147 :=
  typeName_ptr_named (nm := "errors.errorString") (by rw [star]; kernel_rfl) (by kernel_rfl) (by decide) u (by rw [star]; exact h)
theorem lt_of_var {P : Program} {W : World} {n : String} {g : Nat} {cs : Array Value} (hg : P.globalNamed n = some g) (h : W.var? P n = some cs) : g < W.heap.size := by
  unfold World.var? at h
  simp only [hg, Option.bind_some] at h
  rcases Nat.lt_or_ge g W.heap.size with h' | h'
  · exact h'
  · simp [Array.getElem?_eq_none h'] at h
theorem g_off : Tryz.prog.globalNamed "errata/cell.offsets" = some 0 := by kernel_rfl
theorem gt_off : (Tryz.prog.globals[0]?).map (·.type) = some 79 := by kernel_rfl
theorem cellsOff : Tryz.prog.cellsOf 79 = 2 := by kernel_rfl
theorem cellsInt : Tryz.prog.cellsOf 3 = 1 := by kernel_rfl

theorem good_of_laid {W : World} (hL : laidMetH Tryz.prog Rows.journalLastsRow.laid W) (hsh : W.ShapedOpen Tryz.prog) : Good W ∧ Tab W := by
  rw [MakeChecks.laidMetH_plain _ _ _ (by kernel_rfl)] at hL
  have h3 := hL.tail.tail
  have h5 := h3.tail
  have h6 := h5.tail
  have h7 := h6.tail
  have b1 : 1 < W.heap.size := by
    obtain ⟨ps, ⟨g', t', cs, fuel, p, q, hg', ht', hvar, hd, _, _⟩, _⟩ := h3
    exact lt_of_var g_tab hvar
  have ht : Lib.TabIs Tryz.prog W "internal/strconv.uint64pow10" .u64 Lib.pow10Tab :=
    Lib.tabIs_of_head (k := .u64) (zs := Lib.pow10Tab) g_tab gt_tab Tryz.underlying122 Tryz.underlying115 cellsU64 cellsTab h3
  obtain ⟨a3, s3, hv3, -, -, -⟩ := laid_sentinel h5 g_ran gt_ran Tryz.underlying90 rowErr Tryz.underlying147 Tryz.underlying149 rfl rfl Tryz.underlying9 cellsErr cellsStr
  obtain ⟨a2, s2, hv2, -, -, -⟩ := laid_sentinel h6 g_syn gt_syn Tryz.underlying90 rowErr Tryz.underlying147 Tryz.underlying149 rfl rfl Tryz.underlying9 cellsErr cellsStr
  have b2 := lt_of_var g_ran hv3
  have b3 := lt_of_var g_syn hv2
  obtain ⟨m, hm⟩ := Tryz.laysM145.s1_3 W hsh
  have b4 : 2 < W.heap.size := lt_of_cell hm
  have hto : Lib.TabIs Tryz.prog W "errata/cell.offsets" .i64 [64, 131072] :=
    Lib.tabIs_of_head (k := .i64) (zs := [64, 131072]) g_off gt_off Tryz.underlying79 Tryz.underlying3 cellsInt cellsOff h7
  exact ⟨⟨ht, ⟨_, _, hv2⟩, ⟨_, _, hv3⟩, ⟨m, hm⟩, by omega⟩, hto.cell g_off 0 (by decide), hto.cell g_off 1 (by decide)⟩

/-! ### Operations that came in -/
structure Op6 where
  kind : Int
  l : List (List UInt8)
  n : Int
  keep : List Int
structure Op6.Fit (a : Op6) : Prop where
  kind : In64 a.kind
  l : a.l.length ≤ 9223372036854775807
  n : In64 a.n
  keepLen : a.keep.length ≤ 9223372036854775807
  keepIn : ∀ k ∈ a.keep, In64 k
structure OpRow (w : World) (b off : Nat) (x : Op6) (lv kv : Value) : Prop where
  c0 : w.cell? ⟨b, off, none⟩ = some (.int .i64 x.kind)
  c1 : w.cell? ⟨b, off + 1, none⟩ = some lv
  c2 : w.cell? ⟨b, off + 2, none⟩ = some (.int .i64 x.n)
  c3 : w.cell? ⟨b, off + 3, none⟩ = some kv
  ls : SrcV w 1 lv x.l.length (strsV x.l)
  ks : SrcV w 1 kv x.keep.length (intsV x.keep)
  fit : x.Fit
/-- A list of operations that came in. -/
def OpsIn6 (w : World) (v : Value) (l : List Op6) : Prop :=
  l.length ≤ 9223372036854775807 ∧ ∃ a c, v = .slice a l.length c ∧ ∀ i x, l[i]? = some x → ∃ b off lv kv, a = some ⟨b, off, none⟩ ∧ OpRow w b (off + i * 4) x lv kv
theorem OpRow.on {w w' : World} {b off : Nat} {x : Op6} {lv kv : Value} (h : OpRow w b off x lv kv) (hb : RowKit.Below w.heap.size w w') : OpRow w' b off x lv kv := by
  have hk : ∀ {p : Addr} {v : Value}, w.cell? p = some v → w'.cell? p = some v := fun hp => (Kept.below (S := fun _ => False) hb).cell hp (fun e => e)
  exact ⟨hk h.c0, hk h.c1, hk h.c2, hk h.c3, h.ls.on hb, h.ks.on hb, h.fit⟩
theorem OpsIn6.on {w w' : World} {v : Value} {l : List Op6} (h : OpsIn6 w v l) (hb : RowKit.Below w.heap.size w w') : OpsIn6 w' v l := by
  obtain ⟨h0, a, c, h1, h2⟩ := h
  refine ⟨h0, a, c, h1, fun i x hx => ?_⟩
  obtain ⟨b, off, lv, kv, h3, h4⟩ := h2 i x hx
  exact ⟨b, off, lv, kv, h3, h4.on hb⟩

section
variable {H : Type} {enc : TypeId × Value → H} {W : World} {base : Nat} {sp : Nat → Bool} {held : Bool}

theorem open_intsV {fuel : Nat} {v : Value} {x : DataW H × List MemPlace} (h : DataW.trod enc Tryz.prog W base sp held fuel 23 [v] = some x) :
    ∃ l a c, v = .slice a l.length c ∧ SrcV W 1 v l.length (intsV l) ∧ l.length ≤ 9223372036854775807 ∧ ∀ k ∈ l, In64 k := by
  rcases open_ints Tryz.underlying23 Tryz.underlying3 cellsInt h with ⟨hv, _⟩ | ⟨a, len, cap, zs, hv, _, hl, hm, hz, _, hc, hw⟩
  · obtain rfl : v = .slice none 0 0 := by simpa using hv
    exact ⟨[], none, 0, rfl, ⟨none, 0, rfl, rfl, fun _ => rfl, fun ad e => by cases e⟩, by decide, fun k hk => by cases hk⟩
  · obtain rfl : v = .slice (some a) len cap := by simpa using hv
    have hzl : len ≤ zs.length := by rw [hz]; split <;> omega
    have hlen : (zs.take len).length = len := by simp; omega
    refine ⟨zs.take len, some a, cap, by rw [hlen], ⟨some a, cap, by rw [hlen], by simp [intsV], (fun e => by cases e), fun ad e j u hu => ?_⟩, by rw [hlen]; unfold maxLen at hm; omega, fun k hk => bounds_i64 (hw k (List.mem_of_mem_take hk))⟩
    obtain rfl : ad = a := (Option.some.inj e).symm
    have hj : j < len := by
      have := (List.getElem?_eq_some_iff.1 hu).1
      simp [intsV] at this
      omega
    rw [hc j (by omega)]
    simp only [intsV, List.getElem?_map, List.getElem?_take_of_lt hj] at hu
    rw [List.getElem?_eq_getElem (by omega)] at hu
    rw [← hu]
    simp [List.getD, List.getElem?_eq_getElem (show j < zs.length by omega)]
theorem open_strsV {fuel : Nat} {v : Value} {x : DataW H × List MemPlace} (h : DataW.trod enc Tryz.prog W base sp held fuel 32 [v] = some x) :
    ∃ l a c, v = .slice a l.length c ∧ SrcV W 1 v l.length (strsV l) ∧ l.length ≤ 9223372036854775807 := by
  rcases open_strings Tryz.underlying32 Tryz.underlying9 cellsStr h with ⟨hv, _⟩ | ⟨a, len, cap, zs, hv, _, hl, hm, hz, _, hc, _⟩
  · obtain rfl : v = .slice none 0 0 := by simpa using hv
    exact ⟨[], none, 0, rfl, ⟨none, 0, rfl, rfl, fun _ => rfl, fun ad e => by cases e⟩, by decide⟩
  · obtain rfl : v = .slice (some a) len cap := by simpa using hv
    have hzl : len ≤ zs.length := by rw [hz]; split <;> omega
    have hlen : ((zs.take len).map fun s => s.data.toList).length = len := by simp; omega
    refine ⟨(zs.take len).map fun s => s.data.toList, some a, cap, by rw [hlen], ⟨some a, cap, by rw [hlen], by simp [strsV], (fun e => by cases e), fun ad e j u hu => ?_⟩, by rw [hlen]; unfold maxLen at hm; omega⟩
    obtain rfl : ad = a := (Option.some.inj e).symm
    have hj : j < len := by
      have := (List.getElem?_eq_some_iff.1 hu).1
      simp [strsV] at this
      omega
    rw [hc j (by omega)]
    simp only [strsV, List.getElem?_map, List.getElem?_take_of_lt hj] at hu
    rw [List.getElem?_eq_getElem (by omega)] at hu
    simp only [Option.map_some, Option.some.injEq] at hu
    rw [← hu, List.getD_eq_getElem?_getD, List.getElem?_eq_getElem (by omega)]
    simp
theorem cellsStrs : Tryz.prog.cellsOf 32 = 1 := by kernel_rfl
theorem cellsInts : Tryz.prog.cellsOf 23 = 1 := by kernel_rfl
theorem cellsOp6 : Tryz.prog.cellsOf 34 = 4 := by kernel_rfl
theorem four_cells : ∀ (cs : List Value), cs.length = 4 → ∃ c0 c1 c2 c3, cs = [c0, c1, c2, c3]
  | [c0, c1, c2, c3], _ => ⟨c0, c1, c2, c3, rfl⟩
def OpCells6 (W : World) (x : Op6) (cs : List Value) : Prop :=
  ∃ lv kv, cs = [.int .i64 x.kind, lv, .int .i64 x.n, kv] ∧ SrcV W 1 lv x.l.length (strsV x.l) ∧ SrcV W 1 kv x.keep.length (intsV x.keep) ∧ x.Fit
theorem open_op6 {fuel : Nat} {cs : List Value} {x : DataW H × List MemPlace} (h : DataW.trod enc Tryz.prog W base sp held fuel 34 cs = some x) : ∃ y : Op6, OpCells6 W y cs := by
  obtain ⟨xs, n, rfl, _, hl, hx, hf⟩ := DataW.trod_struct Tryz.underlying34 h
  rw [cellsOp6] at hl
  obtain ⟨c0, c1, c2, c3, rfl⟩ := four_cells cs hl
  have hx5 : xs.length = 4 := hx
  have f0 : DataW.trod enc Tryz.prog W base sp held n 3 (([c0, c1, c2, c3].drop 0).take (Tryz.prog.cellsOf 3)) = xs[0]? := hf 0 _ rfl
  have f1 : DataW.trod enc Tryz.prog W base sp held n 32 (([c0, c1, c2, c3].drop 1).take (Tryz.prog.cellsOf 32)) = xs[1]? := hf 1 _ rfl
  have f2 : DataW.trod enc Tryz.prog W base sp held n 3 (([c0, c1, c2, c3].drop 2).take (Tryz.prog.cellsOf 3)) = xs[2]? := hf 2 _ rfl
  have f3 : DataW.trod enc Tryz.prog W base sp held n 23 (([c0, c1, c2, c3].drop 3).take (Tryz.prog.cellsOf 23)) = xs[3]? := hf 3 _ rfl
  rw [cellsInt, List.getElem?_eq_getElem (by omega)] at f0 f2
  rw [cellsStrs, List.getElem?_eq_getElem (by omega)] at f1
  rw [cellsInts, List.getElem?_eq_getElem (by omega)] at f3
  obtain ⟨o, e0, _, w0⟩ := DataW.trod_int Tryz.underlying3 f0
  obtain ⟨s, _, _, _, hs1, hs2⟩ := open_strsV f1
  obtain ⟨m, e2, _, w2⟩ := DataW.trod_int Tryz.underlying3 f2
  obtain ⟨l, _, _, _, hs4, hl4, hin⟩ := open_intsV f3
  obtain rfl : c0 = .int .i64 o := by simpa using e0
  obtain rfl : c2 = .int .i64 m := by simpa using e2
  exact ⟨⟨o, s, m, l⟩, _, _, rfl, hs1, hs4, bounds_i64 w0, hs2, bounds_i64 w2, hl4, hin⟩
theorem choose_op6 {n : Nat} {p : Nat → Op6 → Prop} (h : ∀ i, i < n → ∃ x, p i x) : ∃ f : Nat → Op6, ∀ i, i < n → p i (f i) := by
  have : ∀ i, ∃ x, i < n → p i x := fun i => by
    by_cases hi : i < n
    · obtain ⟨x, hx⟩ := h i hi
      exact ⟨x, fun _ => hx⟩
    · exact ⟨⟨0, [], 0, []⟩, fun h => absurd h hi⟩
  exact ⟨fun i => Classical.choose (this i), fun i => Classical.choose_spec (this i)⟩
theorem open_ops6 {fuel : Nat} {v : Value} {x : DataW H × List MemPlace} (h : DataW.trod enc Tryz.prog W base sp held fuel 22 [v] = some x) : ∃ l, OpsIn6 W v l := by
  rcases Go.Deep.open_slice Tryz.underlying22 h with ⟨hv, _⟩ | ⟨a, len, cap, m, n, D, Pl, hv, _, hl, hm, hmm, _, hx⟩
  · obtain rfl : v = .slice none 0 0 := by simpa using hv
    exact ⟨[], by decide, none, 0, rfl, fun i x hx => by simp at hx⟩
  · obtain rfl : v = .slice (some a) len cap := by simpa using hv
    have hlm : len ≤ m := by rw [hmm]; split <;> omega
    rw [cellsOp6] at hx
    obtain ⟨f, hf⟩ := choose_op6 (n := len) (p := fun i y => ∃ cs, OpCells6 W y cs ∧ W.cells? base (a.add (i * 4)) 4 = some cs) (fun i hi => by
      obtain ⟨cs', h1, h2⟩ := hx i (by omega)
      obtain ⟨y, hy⟩ := open_op6 h2
      exact ⟨y, cs', hy, h1⟩)
    have hlen : ((List.range len).map f).length = len := by simp
    refine ⟨(List.range len).map f, by rw [hlen]; unfold maxLen at hm; omega, some a, cap, by rw [hlen], fun i x hx => ?_⟩
    have hi : i < len := by have := (List.getElem?_eq_some_iff.1 hx).1; omega
    rw [List.getElem?_map, List.getElem?_range hi] at hx
    obtain rfl : f i = x := by simpa using hx
    obtain ⟨cs, ⟨lv, kv, rfl, hs, hs', hfit⟩, hcs⟩ := hf i hi
    have key := (World.cells?_some hcs).2.2
    obtain ⟨cs0, ⟨lv0, kv0, rfl, _⟩, hcs0⟩ := hf 0 (by omega)
    have k0 := (World.cells?_some hcs0).2.2 0 (by decide)
    rw [Nat.zero_mul, show (a.add 0).add 0 = a by simp [Addr.add]] at k0
    obtain ⟨b, off, rfl⟩ := cell_plainD k0
    simp only [Lib.add_plain] at key
    exact ⟨b, off, lv, kv, rfl, key 0 (by decide), key 1 (by decide), key 2 (by decide), key 3 (by decide), hs, hs', hfit⟩
end
end Go.Proofs.YtljgfnglknpfaaaGreatDoor
