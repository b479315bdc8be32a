/-
  From what a row lists of the library's variables to what the contracts ask of a world; and a world that meets the list, for the witness.
-/
import Derived.Test.YtlfjbiiacnikhaaDoorWords
import Derived.Test.YtlfjbiiacnikhaaDoorTie
import Derived.Test.YtlfjbiiacnikhaaDoorCards
import Derived.ProofKit
import Derived.OpenShut
import Derived.LaidMore
import Derived.Lay
import Derived.Deep.DeepHandedRow
import Derived.Deep.DeepWitnessRowRef
import Derived.Lib.LaidTab
import Derived.Stop.LaidErr
namespace Go.Proofs.YtlfjbiiacnikhaaDoor
open Go Go.RowKit Go.ChangeShapes Go.WideShapes Go.ChangeAt

theorem own : ownKnob Tryd.prog.godebug = none := by kernel_rfl
theorem gt_tab : (Tryd.prog.globals[3]?).map (·.type) = some 117 := by kernel_rfl
theorem gt_syn : (Tryd.prog.globals[1]?).map (·.type) = some 52 := by kernel_rfl
theorem gt_ran : (Tryd.prog.globals[2]?).map (·.type) = some 52 := by kernel_rfl
theorem cellsTab : Tryd.prog.cellsOf 117 = 20 := by kernel_rfl
theorem cellsU64 : Tryd.prog.cellsOf 102 = 1 := by kernel_rfl
theorem cellsErr : Tryd.prog.cellsOf 127 = 1 := by kernel_rfl
theorem cellsStr : Tryd.prog.cellsOf 9 = 1 := by kernel_rfl
theorem star : "*" ++ "errors.errorString" = "*errors.errorString" := by decide
theorem rowErr (u : TypeId) (h : Tryd.prog.typeName? 3 u = some "*errors.errorString") : u = 125 :=
  typeName_ptr_named (nm := "errors.errorString") (by rw [star]; kernel_rfl) (by kernel_rfl) (by decide) u (by rw [star]; exact h)
theorem lt_of_var {P : Program} {W : World} {n : String} {g : Nat} {cs : Array Value} (hg : P.globalNamed n = some g) (h : W.var? P n = some cs) : g < W.heap.size := by
  unfold World.var? at h
  simp only [hg, Option.bind_some] at h
  rcases Nat.lt_or_ge g W.heap.size with h' | h'
  · exact h'
  · simp [Array.getElem?_eq_none h'] at h

theorem good_of_laid {W : World} (hL : laidMetH Tryd.prog Rows.producerBackRow.laid W) (hsh : W.ShapedOpen Tryd.prog) : Good W := by
  rw [MakeChecks.laidMetH_plain _ _ _ (by kernel_rfl)] at hL
  have h3 := hL.tail.tail
  have h5 := h3.tail
  have h6 := h5.tail
  have b1 : 3 < W.heap.size := by
    obtain ⟨ps, ⟨g', t', cs, fuel, p, q, hg', ht', hvar, hd, _, _⟩, _⟩ := h3
    exact lt_of_var g_tab hvar
  have ht : Lib.TabIs Tryd.prog W "internal/strconv.uint64pow10" .u64 Lib.pow10Tab :=
    Lib.tabIs_of_head (k := .u64) (zs := Lib.pow10Tab) g_tab gt_tab Tryd.underlying117 Tryd.underlying102 cellsU64 cellsTab h3
  obtain ⟨a3, s3, hv3, -, -, -⟩ := laid_sentinel h5 g_ran gt_ran Tryd.underlying52 rowErr Tryd.underlying125 Tryd.underlying127 rfl rfl Tryd.underlying9 cellsErr cellsStr
  obtain ⟨a2, s2, hv2, -, -, -⟩ := laid_sentinel h6 g_syn gt_syn Tryd.underlying52 rowErr Tryd.underlying125 Tryd.underlying127 rfl rfl Tryd.underlying9 cellsErr cellsStr
  have b2 := lt_of_var g_ran hv3
  have b3 := lt_of_var g_syn hv2
  obtain ⟨m, hm⟩ := Tryd.laysM145.s1_3 W hsh
  have b4 : 0 < W.heap.size := lt_of_cell hm
  exact ⟨ht, ⟨_, _, hv2⟩, ⟨_, _, hv3⟩, ⟨m, hm⟩, by omega⟩

/-- A world that is laid by the list meets it. -/
theorem laid_met (os : Os) (args : Array Value) : laidMetH Tryd.prog Rows.producerBackRow.laid ((World.laidAll Tryd.prog os Rows.producerBackRow.laid).forCall (fun _ _ => 0) ⟨#[], args, []⟩).memory := by
  rw [MakeChecks.laidMetH_plain _ _ _ (by kernel_rfl)]
  exact laidMet_laidAll args (by kernel_rfl) (by kernel_rfl)
end Go.Proofs.YtlfjbiiacnikhaaDoor
