/-
  ValueMakes returns true, for all ints, strings, and rows; of what was there nothing has turned.
-/
import Derived.Test.YtefaigbbleienaaDoorVMakes
namespace Go.Proofs.YtefaigbbleienaaDoor
open Go Go.RowKit Go.Sort Wire Txt Vl

section
variable (a b : Int) (s t : List UInt8) (l : List V) (x : Value)
set_option maxRecDepth 100000 in
theorem makes_out1 (ls : s.length ≤ 9223372036854775807) (h : ¬ s.length ≤ 300) (w : World) (hg : Good w) (hx : OArg w x l) :
    Calls Tryd.prog 5 #[.int .i64 a, .int .i64 b, .string ⟨s.toArray⟩, .string ⟨t.toArray⟩, x] w fun e w' => e = .returned (.bool true) ∧ Below w.heap.size w w' := by
  obtain ⟨a1, c1, rfl⟩ := hx.slc
  clear hx
  go_enter Tryd.func5, Tryd.ntmps5
  go_wp2_with fail
  refine (vsmall_c _ hg).mono ?_
  rintro e w1 ⟨rfl, hb1⟩
  go_wp2_with fail
  go_ret
  exact ⟨rfl, hb1⟩
set_option maxRecDepth 100000 in
theorem makes_out2 (h0 : s.length ≤ 300) (lt : t.length ≤ 9223372036854775807) (h : ¬ t.length ≤ 300) (w : World) (hg : Good w) (hx : OArg w x l) :
    Calls Tryd.prog 5 #[.int .i64 a, .int .i64 b, .string ⟨s.toArray⟩, .string ⟨t.toArray⟩, x] w fun e w' => e = .returned (.bool true) ∧ Below w.heap.size w w' := by
  obtain ⟨a1, c1, rfl⟩ := hx.slc
  clear hx
  go_enter Tryd.func5, Tryd.ntmps5
  go_wp2_with fail
  refine (vsmall_c _ hg).mono ?_
  rintro e w1 ⟨rfl, hb1⟩
  go_wp2_with fail
  go_ret
  exact ⟨rfl, hb1⟩
set_option maxRecDepth 100000 in
theorem makes_out3 (h0 : s.length ≤ 300) (h1 : t.length ≤ 300) (h : shortR l 15 = false) (w : World) (hg : Good w) (hx : OArg w x l) :
    Calls Tryd.prog 5 #[.int .i64 a, .int .i64 b, .string ⟨s.toArray⟩, .string ⟨t.toArray⟩, x] w fun e w' => e = .returned (.bool true) ∧ Below w.heap.size w w' := by
  have HX := hx
  obtain ⟨a1, c1, rfl⟩ := hx.slc
  clear hx
  go_enter Tryd.func5, Tryd.ntmps5
  go_wp2_with fail
  refine (vsmall_c _ hg).mono ?_
  rintro e w1 ⟨rfl, hb1⟩
  go_wp2_with fail
  refine (short_c l _ 15 _ (fits_len HX) (HX.on hb1 (Nat.le_refl _)).1.row).mono ?_
  rw [h]
  rintro e w2 ⟨rfl, hb2⟩
  go_wp2_with fail
  go_ret
  exact ⟨rfl, chain hb1 hb2⟩
theorem makesLaw_c (ha : InR a) (hb : InR b) (ls : s.length ≤ 9223372036854775807) (lt : t.length ≤ 9223372036854775807) (w : World) (hg : Good w) (hx : OArg w x l) :
    Calls Tryd.prog 5 #[.int .i64 a, .int .i64 b, .string ⟨s.toArray⟩, .string ⟨t.toArray⟩, x] w fun e w' => e = .returned (.bool true) ∧ Below w.heap.size w w' := by
  have := ha
  have := hb
  by_cases h0 : s.length ≤ 300
  · by_cases h1 : t.length ≤ 300
    · cases h : shortR l 15 with
      | false => exact makes_out3 a b s t l x h0 h1 h w hg hx
      | true => exact makes_c a b s t l x h0 h1 h hx.2 w hg hx.1.row
    · exact makes_out2 a b s t l x h0 lt h1 w hg hx
  · exact makes_out1 a b s t l x ls h0 w hg hx
end
end Go.Proofs.YtefaigbbleienaaDoor
