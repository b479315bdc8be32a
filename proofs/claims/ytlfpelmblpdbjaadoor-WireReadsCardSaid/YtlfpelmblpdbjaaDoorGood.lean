/-
  From what a row lists of the library's variables to what the contracts ask of a world; and a world that meets the list, for the witness.
-/
import Derived.Test.YtlfpelmblpdbjaaDoorBase
import Derived.Test.YtlfpelmblpdbjaaDoorTie
import Derived.Test.YtlfpelmblpdbjaaDoorCards
import Derived.ProofKit
import Derived.OpenShut
import Derived.LaidMore
import Derived.Deep.DeepHandedRow
import Derived.Deep.DeepWitnessRowRef
import Derived.Lib.LaidTab
import Derived.Stop.LaidErr
namespace Go.Proofs.YtlfpelmblpdbjaaDoor
open Go Go.RowKit Go.ChangeShapes Go.WideShapes Go.ChangeAt

theorem own : ownKnob Tryd.prog.godebug = none := by kernel_rfl
theorem gt_tab : (Tryd.prog.globals[0]?).map (·.type) = some 98 := by kernel_rfl
theorem gt_d64 : (Tryd.prog.globals[5]?).map (·.type) = some 119 := by kernel_rfl
theorem gt_syn : (Tryd.prog.globals[2]?).map (·.type) = some 68 := by kernel_rfl
theorem gt_ran : (Tryd.prog.globals[3]?).map (·.type) = some 68 := by kernel_rfl
theorem g_d64 : Tryd.prog.globalNamed "math/bits.deBruijn64tab" = some 5 := by kernel_rfl
theorem cellsTab : Tryd.prog.cellsOf 98 = 20 := by kernel_rfl
theorem cellsU64 : Tryd.prog.cellsOf 82 = 1 := by kernel_rfl
theorem cellsErr : Tryd.prog.cellsOf 117 = 1 := by kernel_rfl
theorem cellsStr : Tryd.prog.cellsOf 9 = 1 := by kernel_rfl
theorem star : "*" ++ "errors.errorString" = "*errors.errorString" := by decide
theorem rowErr (u : TypeId) (h : Tryd.prog.typeName? 3 u = some "*errors.errorString") : u = 115 :=
  typeName_ptr_named (nm := "errors.errorString") (by rw [star]; kernel_rfl) (by kernel_rfl) (by decide) u (by rw [star]; exact h)
theorem lt_of_var {P : Program} {W : World} {n : String} {g : Nat} {cs : Array Value} (hg : P.globalNamed n = some g) (h : W.var? P n = some cs) : g < W.heap.size := by
  unfold World.var? at h
  simp only [hg, Option.bind_some] at h
  rcases Nat.lt_or_ge g W.heap.size with h' | h'
  · exact h'
  · simp [Array.getElem?_eq_none h'] at h

theorem good_of_laid {W : World} (hL : laidMetH Tryd.prog Rows.wireAgainRow.laid W) (hsh : W.ShapedOpen Tryd.prog) : Good W := by
  rw [MakeChecks.laidMetH_plain _ _ _ (by kernel_rfl)] at hL
  have h2 := hL.tail
  have hbig : 5 < W.heap.size := by
    obtain ⟨ps, ⟨g', t', cs, fuel, p, q, hg', ht', hvar, hd, _, _⟩, _⟩ := h2
    exact lt_of_var g_d64 hvar
  have h3 := h2.tail
  have h4 := h3.tail
  have h5 := h4.tail
  have ht : Lib.TabIs Tryd.prog W "internal/strconv.uint64pow10" .u64 Lib.pow10Tab :=
    Lib.tabIs_of_head (k := .u64) (zs := Lib.pow10Tab) g_tab gt_tab Tryd.underlying98 Tryd.underlying82 cellsU64 cellsTab h3
  obtain ⟨a3, s3, hv3, -, -, -⟩ := laid_sentinel h4 g_ran gt_ran Tryd.underlying68 rowErr Tryd.underlying115 Tryd.underlying117 rfl rfl Tryd.underlying9 cellsErr cellsStr
  obtain ⟨a2, s2, hv2, -, -, -⟩ := laid_sentinel h5 g_syn gt_syn Tryd.underlying68 rowErr Tryd.underlying115 Tryd.underlying117 rfl rfl Tryd.underlying9 cellsErr cellsStr
  exact ⟨ht, ⟨_, _, hv2⟩, ⟨_, _, hv3⟩, Tryd.laysM145.s1_3 W hsh, by omega⟩

/-- The door's own heap meets the list. -/
theorem door_met (os : Os) (args : Array Value) : laidMetH Tryd.prog Rows.wireAgainRow.laid ((World.doorLaid Tryd.prog 200 os).forCall (fun _ _ => 0) ⟨#[], args, []⟩).memory :=
  laidMetH_of_parts3 (fuel := 8) (laidMet_of_run' 8 (by kernel_rfl) (by kernel_rfl)) (by kernel_rfl) (by kernel_rfl)
end Go.Proofs.YtlfpelmblpdbjaaDoor
