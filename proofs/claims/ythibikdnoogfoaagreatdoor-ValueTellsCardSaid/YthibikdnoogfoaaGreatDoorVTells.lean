/-
  ValueTells, what is in its code: out at once; a value of a row on both sides; of what was there nothing has turned.
-/
import Derived.Test.YthibikdnoogfoaaGreatDoorVRefG
import Derived.Test.YthibikdnoogfoaaGreatDoorVArg
import Derived.Test.YthibikdnoogfoaaGreatDoorVSmall
import Derived.Deep.DeepCutAuto
namespace Go.Proofs.YthibikdnoogfoaaGreatDoor
open Go Go.RowKit Go.Sort Wire Txt Vl

section
variable (a b : List V) (s : List UInt8) (x y : Value) (w : World)
set_option maxRecDepth 100000 in
theorem tells_out1 (hg : Good w) (hx : OArg w x a) (hy : OArg w y b) (h : shortR a 15 = false) :
    Calls Tryz.prog 3 #[x, y, .string ⟨s.toArray⟩] w fun e w' => e = .returned (.bool true) ∧ Below w.heap.size w w' := by
  have HX := hx
  obtain ⟨a1, c1, rfl⟩ := hx.slc
  obtain ⟨a2, c2, rfl⟩ := hy.slc
  clear hx
  go_enter Tryz.func3, Tryz.ntmps3
  go_wp2_with fail
  refine (vsmall_c _ hg).mono ?_
  rintro e w1 ⟨rfl, hb1⟩
  go_wp2_with fail
  refine (short_c a _ 15 _ (fits_len HX) (HX.on hb1 (Nat.le_refl _)).1.row).mono ?_
  rw [h]
  rintro e w2 ⟨rfl, hb2⟩
  go_wp2_with fail
  go_ret
  exact ⟨rfl, chain hb1 hb2⟩
set_option maxRecDepth 100000 in
theorem tells_out2 (hg : Good w) (hx : OArg w x a) (hy : OArg w y b) (h1 : shortR a 15 = true) (h2 : shortR b 15 = false) :
    Calls Tryz.prog 3 #[x, y, .string ⟨s.toArray⟩] w fun e w' => e = .returned (.bool true) ∧ Below w.heap.size w w' := by
  have HX := hx
  have HY := hy
  obtain ⟨a1, c1, rfl⟩ := hx.slc
  obtain ⟨a2, c2, rfl⟩ := hy.slc
  clear hx hy
  go_enter Tryz.func3, Tryz.ntmps3
  go_wp2_with fail
  refine (vsmall_c _ hg).mono ?_
  rintro e w1 ⟨rfl, hb1⟩
  go_wp2_with fail
  refine (short_c a _ 15 _ (fits_len HX) (HX.on hb1 (Nat.le_refl _)).1.row).mono ?_
  rw [h1]
  rintro e w2 ⟨rfl, hb2⟩
  have hbb2 := chain hb1 hb2
  go_wp2_with fail
  refine (short_c b _ 15 _ (fits_len HY) (HY.on hbb2 (Nat.le_refl _)).1.row).mono ?_
  rw [h2]
  rintro e w3 ⟨rfl, hb3⟩
  go_wp2_with fail
  go_ret
  exact ⟨rfl, chain hbb2 hb3⟩
set_option maxRecDepth 100000 in
theorem tells_out3 (ls : s.length ≤ 9223372036854775807) (hg : Good w) (hx : OArg w x a) (hy : OArg w y b) (h1 : shortR a 15 = true) (h2 : shortR b 15 = true) (h3 : ¬ s.length ≤ 500) :
    Calls Tryz.prog 3 #[x, y, .string ⟨s.toArray⟩] w fun e w' => e = .returned (.bool true) ∧ Below w.heap.size w w' := by
  have HX := hx
  have HY := hy
  obtain ⟨a1, c1, rfl⟩ := hx.slc
  obtain ⟨a2, c2, rfl⟩ := hy.slc
  clear hx hy
  go_enter Tryz.func3, Tryz.ntmps3
  go_wp2_with fail
  refine (vsmall_c _ hg).mono ?_
  rintro e w1 ⟨rfl, hb1⟩
  go_wp2_with fail
  refine (short_c a _ 15 _ (fits_len HX) (HX.on hb1 (Nat.le_refl _)).1.row).mono ?_
  rw [h1]
  rintro e w2 ⟨rfl, hb2⟩
  have hbb2 := chain hb1 hb2
  go_wp2_with fail
  refine (short_c b _ 15 _ (fits_len HY) (HY.on hbb2 (Nat.le_refl _)).1.row).mono ?_
  rw [h2]
  rintro e w3 ⟨rfl, hb3⟩
  go_wp2_with fail
  go_ret
  exact ⟨rfl, chain hbb2 hb3⟩
end
end Go.Proofs.YthibikdnoogfoaaGreatDoor
