/-
  From the form's reading of an argument to a list of operations, to a list of strings; what the row lists of the program's tables; a world that meets the list.
-/
import Derived.Test.YtljgfnglknpfaaaDoorJCut
import Derived.Test.YtljgfnglknpfaaaDoorRows
import Derived.Test.YtljgfnglknpfaaaDoorTie
import Derived.Test.YtljgfnglknpfaaaDoorCards
import Derived.ProofKit
import Derived.OpenShut
import Derived.SliceStrings
import Derived.Deep.Slices
import Derived.Carry
import Derived.LaidMore
import Derived.Lay
import Derived.Deep.DeepHandedRow
import Derived.Deep.DeepWitnessRowRef
import Derived.Lib.LaidTab
import Derived.Stop.LaidErr
namespace Go.Proofs.YtljgfnglknpfaaaDoor
set_option maxRecDepth 100000
open Go Go.RowKit Go.Sort Dk Go.ChangeShapes Go.ChangeAt Go.WideShapes

/-! ### The row's list of variables -/
theorem own : ownKnob Tryd.prog.godebug = none := by kernel_rfl
theorem laid_met (os : Os) (args : Array Value) : laidMetH Tryd.prog Rows.journalReadsRow.laid ((World.laidAll Tryd.prog os Rows.journalReadsRow.laid).forCall (fun _ _ => 0) ⟨#[], args, []⟩).memory := by
  rw [MakeChecks.laidMetH_plain _ _ _ (by kernel_rfl)]
  exact laidMet_laidAll args (by kernel_rfl) (by kernel_rfl)
theorem gt_tab : (Tryd.prog.globals[1]?).map (·.type) = some 113 := by kernel_rfl
theorem gt_syn : (Tryd.prog.globals[3]?).map (·.type) = some 85 := by kernel_rfl
theorem gt_ran : (Tryd.prog.globals[4]?).map (·.type) = some 85 := by kernel_rfl
theorem cellsTab : Tryd.prog.cellsOf 113 = 20 := by kernel_rfl
theorem cellsU64 : Tryd.prog.cellsOf 101 = 1 := by kernel_rfl
theorem cellsErr : Tryd.prog.cellsOf 141 = 1 := by kernel_rfl
theorem cellsStr : Tryd.prog.cellsOf 9 = 1 := by kernel_rfl
theorem star : "*" ++ "errors.errorString" = "*errors.errorString" := by decide
theorem rowErr (u : TypeId) (h : Tryd.prog.typeName? 3 u = some "*errors.errorString") : u = 139 :=
  typeName_ptr_named (nm := "errors.errorString") (by rw [star]; kernel_rfl) (by kernel_rfl) (by decide) u (by rw [star]; exact h)
theorem lt_of_var {P : Program} {W : World} {n : String} {g : Nat} {cs : Array Value} (hg : P.globalNamed n = some g) (h : W.var? P n = some cs) : g < W.heap.size := by
  unfold World.var? at h
  simp only [hg, Option.bind_some] at h
  rcases Nat.lt_or_ge g W.heap.size with h' | h'
  · exact h'
  · simp [Array.getElem?_eq_none h'] at h
theorem g_off : Tryd.prog.globalNamed "errata/cell.offsets" = some 0 := by kernel_rfl
theorem gt_off : (Tryd.prog.globals[0]?).map (·.type) = some 78 := by kernel_rfl
theorem cellsOff : Tryd.prog.cellsOf 78 = 2 := by kernel_rfl
theorem cellsInt : Tryd.prog.cellsOf 3 = 1 := by kernel_rfl

theorem good_of_laid {W : World} (hL : laidMetH Tryd.prog Rows.journalReadsRow.laid W) (hsh : W.ShapedOpen Tryd.prog) : Good W ∧ Tab W := by
  rw [MakeChecks.laidMetH_plain _ _ _ (by kernel_rfl)] at hL
  have h3 := hL.tail.tail
  have h5 := h3.tail
  have h6 := h5.tail
  have h7 := h6.tail
  have b1 : 1 < W.heap.size := by
    obtain ⟨ps, ⟨g', t', cs, fuel, p, q, hg', ht', hvar, hd, _, _⟩, _⟩ := h3
    exact lt_of_var g_tab hvar
  have ht : Lib.TabIs Tryd.prog W "internal/strconv.uint64pow10" .u64 Lib.pow10Tab :=
    Lib.tabIs_of_head (k := .u64) (zs := Lib.pow10Tab) g_tab gt_tab Tryd.underlying113 Tryd.underlying101 cellsU64 cellsTab h3
  obtain ⟨a3, s3, hv3, -, -, -⟩ := laid_sentinel h5 g_ran gt_ran Tryd.underlying85 rowErr Tryd.underlying139 Tryd.underlying141 rfl rfl Tryd.underlying9 cellsErr cellsStr
  obtain ⟨a2, s2, hv2, -, -, -⟩ := laid_sentinel h6 g_syn gt_syn Tryd.underlying85 rowErr Tryd.underlying139 Tryd.underlying141 rfl rfl Tryd.underlying9 cellsErr cellsStr
  have b2 := lt_of_var g_ran hv3
  have b3 := lt_of_var g_syn hv2
  obtain ⟨m, hm⟩ := Tryd.laysM145.s1_3 W hsh
  have b4 : 2 < W.heap.size := lt_of_cell hm
  have hto : Lib.TabIs Tryd.prog W "errata/cell.offsets" .i64 [64, 131072] :=
    Lib.tabIs_of_head (k := .i64) (zs := [64, 131072]) g_off gt_off Tryd.underlying78 Tryd.underlying3 cellsInt cellsOff h7
  exact ⟨⟨ht, ⟨_, _, hv2⟩, ⟨_, _, hv3⟩, ⟨m, hm⟩, by omega⟩, hto.cell g_off 0 (by decide), hto.cell g_off 1 (by decide)⟩

/-! ### Operations that came in -/
section
variable {H : Type} {enc : TypeId × Value → H} {W : World} {base : Nat} {sp : Nat → Bool} {held : Bool}

theorem open_intsV {fuel : Nat} {v : Value} {x : DataW H × List MemPlace} (h : DataW.trod enc Tryd.prog W base sp held fuel 45 [v] = some x) :
    ∃ l a c, v = .slice a l.length c ∧ SrcV W 1 v l.length (intsV l) ∧ l.length ≤ 9223372036854775807 ∧ ∀ k ∈ l, In64 k := by
  rcases open_ints Tryd.underlying45 Tryd.underlying3 cellsInt h with ⟨hv, _⟩ | ⟨a, len, cap, zs, hv, _, hl, hm, hz, _, hc, hw⟩
  · obtain rfl : v = .slice none 0 0 := by simpa using hv
    exact ⟨[], none, 0, rfl, ⟨none, 0, rfl, rfl, fun _ => rfl, fun ad e => by cases e⟩, by decide, fun k hk => by cases hk⟩
  · obtain rfl : v = .slice (some a) len cap := by simpa using hv
    have hzl : len ≤ zs.length := by rw [hz]; split <;> omega
    have hlen : (zs.take len).length = len := by simp; omega
    refine ⟨zs.take len, some a, cap, by rw [hlen], ⟨some a, cap, by rw [hlen], by simp [intsV], (fun e => by cases e), fun ad e j u hu => ?_⟩, by rw [hlen]; unfold maxLen at hm; omega, fun k hk => bounds_i64 (hw k (List.mem_of_mem_take hk))⟩
    obtain rfl : ad = a := (Option.some.inj e).symm
    have hj : j < len := by
      have := (List.getElem?_eq_some_iff.1 hu).1
      simp [intsV] at this
      omega
    rw [hc j (by omega)]
    simp only [intsV, List.getElem?_map, List.getElem?_take_of_lt hj] at hu
    rw [List.getElem?_eq_getElem (by omega)] at hu
    rw [← hu]
    simp [List.getD, List.getElem?_eq_getElem (show j < zs.length by omega)]
theorem open_strsV {fuel : Nat} {v : Value} {x : DataW H × List MemPlace} (h : DataW.trod enc Tryd.prog W base sp held fuel 36 [v] = some x) :
    ∃ l a c, v = .slice a l.length c ∧ SrcV W 1 v l.length (strsV l) ∧ l.length ≤ 9223372036854775807 := by
  rcases open_strings Tryd.underlying36 Tryd.underlying9 cellsStr h with ⟨hv, _⟩ | ⟨a, len, cap, zs, hv, _, hl, hm, hz, _, hc, _⟩
  · obtain rfl : v = .slice none 0 0 := by simpa using hv
    exact ⟨[], none, 0, rfl, ⟨none, 0, rfl, rfl, fun _ => rfl, fun ad e => by cases e⟩, by decide⟩
  · obtain rfl : v = .slice (some a) len cap := by simpa using hv
    have hzl : len ≤ zs.length := by rw [hz]; split <;> omega
    have hlen : ((zs.take len).map fun s => s.data.toList).length = len := by simp; omega
    refine ⟨(zs.take len).map fun s => s.data.toList, some a, cap, by rw [hlen], ⟨some a, cap, by rw [hlen], by simp [strsV], (fun e => by cases e), fun ad e j u hu => ?_⟩, by rw [hlen]; unfold maxLen at hm; omega⟩
    obtain rfl : ad = a := (Option.some.inj e).symm
    have hj : j < len := by
      have := (List.getElem?_eq_some_iff.1 hu).1
      simp [strsV] at this
      omega
    rw [hc j (by omega)]
    simp only [strsV, List.getElem?_map, List.getElem?_take_of_lt hj] at hu
    rw [List.getElem?_eq_getElem (by omega)] at hu
    simp only [Option.map_some, Option.some.injEq] at hu
    rw [← hu, List.getD_eq_getElem?_getD, List.getElem?_eq_getElem (by omega)]
    simp
theorem four_cells : ∀ (cs : List Value), cs.length = 4 → ∃ c0 c1 c2 c3, cs = [c0, c1, c2, c3]
  | [c0, c1, c2, c3], _ => ⟨c0, c1, c2, c3, rfl⟩
end
end Go.Proofs.YtljgfnglknpfaaaDoor
