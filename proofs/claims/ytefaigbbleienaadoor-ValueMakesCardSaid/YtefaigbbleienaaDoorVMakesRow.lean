/-
  ValueMakes is true for every input: the row and its card. Conditions: the listed variables of the library are as the program's text lays them (tied).
-/
import Derived.Test.YtefaigbbleienaaDoorVMakesLaw
import Derived.Test.YtefaigbbleienaaDoorVOpen
import Derived.Test.YtefaigbbleienaaDoorVGood
import Derived.Carry
namespace Go.Proofs.YtefaigbbleienaaDoor
open Go Go.RowKit Go.ChangeShapes Go.WideShapes Go.ChangeAt
open Go.ChangeMaps (open_string shut_string)

theorem vMakes_laidOut : laidOutB Tryd.prog = true := by kernel_rfl

theorem vMakes_read0 : Tryd.prog.readableRec 3 = true ∧ 3 < Tryd.prog.types.size := ⟨by kernel_rfl, of_decide_eq_true (by kernel_rfl)⟩
theorem vMakes_read1 : Tryd.prog.readableRec 3 = true ∧ 3 < Tryd.prog.types.size := ⟨by kernel_rfl, of_decide_eq_true (by kernel_rfl)⟩
theorem vMakes_read2 : Tryd.prog.readableRec 9 = true ∧ 9 < Tryd.prog.types.size := ⟨by kernel_rfl, of_decide_eq_true (by kernel_rfl)⟩
theorem vMakes_read3 : Tryd.prog.readableRec 9 = true ∧ 9 < Tryd.prog.types.size := ⟨by kernel_rfl, of_decide_eq_true (by kernel_rfl)⟩
theorem vMakes_read4 : Tryd.prog.readableRec 22 = true ∧ 22 < Tryd.prog.types.size := ⟨by kernel_rfl, of_decide_eq_true (by kernel_rfl)⟩

set_option maxRecDepth 100000 in
theorem vMakes_lifted (os : Os) (started : os.Started) (H : Type) (enc : TypeId × Value → H) (F : Stop.Interp) :
    ReturnsInHanded {} Tryd.checked os 5 .any ((OpenSpec.ofChange Rows.valueMakesSpec).preRow enc Tryd.prog Tryd.f5 Rows.valueMakesRow.domain false Rows.valueMakesRow.laid) (((OpenSpec.ofChange Rows.valueMakesSpec).at F).post enc Tryd.prog Tryd.f5 false true false false) := by
  have hx : ∃ places, DataW.whole enc Tryd.prog ((World.laidAll Tryd.prog os Rows.valueMakesRow.laid).forCall (fun _ _ => 0) ⟨#[], #[.int .i64 0, .int .i64 0, .string ⟨#[]⟩, .string ⟨#[]⟩, .slice none 0 0], []⟩).memory Tryd.f5.params.toList Rows.valueMakesSpec.vars false #[Value.int .i64 0, .int .i64 0, .string ⟨#[]⟩, .string ⟨#[]⟩, .slice none 0 0].toList 8 = some ([.lit (.int .i64 0), .lit (.int .i64 0), .lit (.string []), .lit (.string []), .nil], [], places) := ⟨[], by kernel_rfl⟩
  obtain ⟨places, hx⟩ := hx
  refine returnsInHanded_of_row (C := Tryd.checked) (s := OpenSpec.ofChange Rows.valueMakesSpec) own started (by kernel_rfl) Tryd.func5
    (witness_row_atRef (enc := enc) (C := Tryd.checked) false (World.laidAll Tryd.prog os Rows.valueMakesRow.laid) #[.int .i64 0, .int .i64 0, .string ⟨#[]⟩, .string ⟨#[]⟩, .slice none 0 0] (World.laidAll_os _ _ _) (by kernel_rfl) (by kernel_rfl) (by kernel_rfl)
      (OpenSpec.preRow_of_cond 8 hx (by kernel_rfl) (fun k hk => by cases hk) (by kernel_rfl) (laid_met os _))) ?_
  intro W base args ds gs before hval0 hW _ _ _ hL hsh _
  have hval : ∀ (j : Nat) t v, Tryd.f5.params[j]? = some t → args[j]? = some v → Value.okWide Tryd.prog W .any base t v := hval0
  have hW' := hW
  have hlt := hW.lt
  obtain ⟨p, q, hA0, hV, rfl, hfz, hnd⟩ := hW
  have hA : DataW.TrodAll enc Tryd.prog W 0 (fun _ => true) true Tryd.f5.params.toList args.toList ds p := hA0
  rw [Tryd.params5] at hA hval
  obtain ⟨v0, v1, v2, v3, v4, d0, d1, d2, d3, d4, p0, p1, p2, p3, p4, rfl, rfl, rfl, h0, h1, h2, h3, h4⟩ := trodAll_five hA
  obtain ⟨rfl, rfl⟩ := trodVars_none hV
  obtain ⟨x0, hx00, hx0⟩ : ∃ x : Int, v0 = .int .i64 x ∧ Wire.InR x := by
    obtain ⟨x, e1, _, _, wx⟩ := open_int Tryd.underlying3 (hval 0 3 v0 rfl rfl) h0
    exact ⟨x, e1, bounds_i64 wx⟩
  subst hx00
  obtain ⟨x1, hx01, hx1⟩ : ∃ x : Int, v1 = .int .i64 x ∧ Wire.InR x := by
    obtain ⟨x, e1, _, _, wx⟩ := open_int Tryd.underlying3 (hval 1 3 v1 rfl rfl) h1
    exact ⟨x, e1, bounds_i64 wx⟩
  subst hx01
  obtain ⟨s2, hs02, hs2⟩ : ∃ s : ByteArray, v2 = .string s ∧ s.size ≤ maxLen := by
    obtain ⟨s, e1, _, _, e2⟩ := open_string Tryd.underlying9 (hval 2 9 v2 rfl rfl) h2
    exact ⟨s, e1, e2⟩
  subst hs02
  obtain ⟨l2, rfl⟩ : ∃ l : List UInt8, s2 = ⟨l.toArray⟩ := ⟨s2.data.toList, by cases s2; simp⟩
  have hl2 : l2.length ≤ 9223372036854775807 := by have : (⟨l2.toArray⟩ : ByteArray).size ≤ maxLen := hs2; rw [ba_size] at this; exact this
  obtain ⟨s3, hs03, hs3⟩ : ∃ s : ByteArray, v3 = .string s ∧ s.size ≤ maxLen := by
    obtain ⟨s, e1, _, _, e2⟩ := open_string Tryd.underlying9 (hval 3 9 v3 rfl rfl) h3
    exact ⟨s, e1, e2⟩
  subst hs03
  obtain ⟨l3, rfl⟩ : ∃ l : List UInt8, s3 = ⟨l.toArray⟩ := ⟨s3.data.toList, by cases s3; simp⟩
  have hl3 : l3.length ≤ 9223372036854775807 := by have : (⟨l3.toArray⟩ : ByteArray).size ≤ maxLen := hs3; rw [ba_size] at this; exact this
  obtain ⟨a4, len4, cap4, rfl⟩ := okWide_slice Tryd.underlying22 (hval 4 22 v4 rfl rfl)
  obtain ⟨r4, hr4⟩ : ∃ l, OArg W (.slice a4 len4 cap4) l := by
    obtain ⟨fuel, hf⟩ := h4
    exact open_row hf
  clear hA0 hval0
  simp only [List.append_nil] at hW' hlt
  have good := good_of_laid hL hsh
  refine (makesLaw_c x0 x1 l2 l3 r4 _ hx0 hx1 hl2 hl3 W good hr4).mono fun e W' ⟨he, hb⟩ => ?_
  subst he
  refine ⟨_, rfl, _, _, _, [], p0 ++ p1 ++ p2 ++ p3 ++ p4, [], hW', ?_, ?_, rfl, hb.frame _, fun h => by cases h⟩
  · exact trodAll_mk1 (shut_bool Tryd.underlying4 _)
  · have key := trodAll_mk5 (Below.trod vMakes_laidOut vMakes_read0.1 vMakes_read0.2 h0 hb (fun x hx => hlt x (by simp [hx]))) (Below.trod vMakes_laidOut vMakes_read1.1 vMakes_read1.2 h1 hb (fun x hx => hlt x (by simp [hx]))) (Below.trod vMakes_laidOut vMakes_read2.1 vMakes_read2.2 h2 hb (fun x hx => hlt x (by simp [hx]))) (Below.trod vMakes_laidOut vMakes_read3.1 vMakes_read3.2 h3 hb (fun x hx => hlt x (by simp [hx]))) (Below.trod vMakes_laidOut vMakes_read4.1 vMakes_read4.2 h4 hb (fun x hx => hlt x (by simp [hx])))
    simp only [← List.append_assoc] at key
    exact key

theorem vMakes_said : Rows.ValueMakesSaid :=
  OpenClaim.holds_of_cond 5 Tryd.f5 rfl rfl rfl rfl rfl rfl rfl ⟨rfl, rfl, rfl, rfl, rfl⟩ rfl rfl rfl rfl rfl (by kernel_rfl) Tryd.func5 (by kernel_rfl)
    (of_decide_eq_true (by kernel_rfl)) (by unfold Func.isWrapper; rw [if_neg (of_decide_eq_false (by kernel_rfl))]; exact ⟨rfl, rfl⟩)
    (fun os started H enc _ F => by rw [OpenClaim.pre_eq_preRow]; exact vMakes_lifted os started H enc F)

theorem vMakes_plain (f : FuncId) (fn : Func) (hf : Tryd.pinned.checked.prog.funcNamed "errata/erratalaw03.ValueMakes" = some f) (hfn : Tryd.pinned.checked.prog.funcs[f]? = some fn) :
    true = Tryd.pinned.checked.prog.looks [] ∧ ∀ (j : Nat) t, fn.params[j]? = some t → Tryd.pinned.checked.prog.wantsStandIn t = false := by
  obtain rfl : f = 5 := Option.some.inj ((show Tryd.prog.funcNamed "errata/erratalaw03.ValueMakes" = some 5 by kernel_rfl).symm.trans hf) |>.symm
  obtain rfl : fn = Tryd.f5 := (Option.some.inj (Tryd.func5.symm.trans hfn)).symm
  refine ⟨by kernel_rfl, fun j t ht => ?_⟩
  rw [Tryd.params5] at ht
  have hm : t ∈ [3, 3, 9, 9, 22] := by simpa using Array.mem_of_getElem? ht
  have hall : ([3, 3, 9, 9, 22].all fun u => !Tryd.prog.wantsStandIn u) = true := by kernel_rfl
  exact (show Tryd.prog.wantsStandIn t = false by simpa using List.all_eq_true.1 hall t hm)

/-- ValueMakes. -/
theorem vMakes_holds : Rows.ValueMakesCardSaid :=
  Claim7.holds_tied_plain_at .later [] _ _ _ _ vMakes_said (fun _ h => by cases h) (by kernel_rfl) (fun _ h => by cases h) valueMakes_row_tie rfl ⟨rfl, rfl⟩ (by kernel_rfl) rfl vMakes_plain (by kernel_rfl)
end Go.Proofs.YtefaigbbleienaaDoor
