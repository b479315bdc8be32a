/-
  CellReads is true for every input: the row. Condition: the program's listed table is as its text lays it (tied).
-/
import Derived.Test.YtninopllfbiccaaDoorCReads
import Derived.Test.YtninopllfbiccaaDoorCOp
namespace Go.Proofs.YtninopllfbiccaaDoor
set_option maxRecDepth 100000
open Go Go.RowKit Go.ChangeShapes Go.WideShapes Go.ChangeAt Dk
open Go.ChangeMaps (open_string shut_string)

theorem cReads_laidOut : laidOutB Tryd.prog = true := by kernel_rfl
theorem cReads_read0 : Tryd.prog.readableRec 9 = true ∧ 9 < Tryd.prog.types.size := ⟨by kernel_rfl, of_decide_eq_true (by kernel_rfl)⟩
theorem cReads_read1 : Tryd.prog.readableRec 3 = true ∧ 3 < Tryd.prog.types.size := ⟨by kernel_rfl, of_decide_eq_true (by kernel_rfl)⟩

set_option maxRecDepth 100000 in
theorem cReads_lifted (os : Os) (started : os.Started) (H : Type) (enc : TypeId × Value → H) (F : Stop.Interp) :
    ReturnsInHanded {} Tryd.checked os 4 .any ((OpenSpec.ofChange Rows.cellReadsSpec).preRow enc Tryd.prog Tryd.f4 Rows.cellReadsRow.domain false Rows.cellReadsRow.laid) (((OpenSpec.ofChange Rows.cellReadsSpec).at F).post enc Tryd.prog Tryd.f4 false true false false) := by
  have hx : ∃ places, DataW.whole enc Tryd.prog ((World.laidAll Tryd.prog os Rows.cellReadsRow.laid).forCall (fun _ _ => 0) ⟨#[], #[.string ⟨#[]⟩, .string ⟨#[]⟩, .int .i64 0], []⟩).memory Tryd.f4.params.toList Rows.cellReadsSpec.vars false #[Value.string ⟨#[]⟩, .string ⟨#[]⟩, .int .i64 0].toList 8 = some ([.lit (.string []), .lit (.string []), .lit (.int .i64 0)], [], places) := ⟨[], by kernel_rfl⟩
  obtain ⟨places, hx⟩ := hx
  refine returnsInHanded_of_row (C := Tryd.checked) (s := OpenSpec.ofChange Rows.cellReadsSpec) own started (by kernel_rfl) Tryd.func4
    (witness_row_atRef (enc := enc) (C := Tryd.checked) false (World.laidAll Tryd.prog os Rows.cellReadsRow.laid) #[.string ⟨#[]⟩, .string ⟨#[]⟩, .int .i64 0] (World.laidAll_os _ _ _) (by kernel_rfl) (by kernel_rfl) (by kernel_rfl)
      (OpenSpec.preRow_of_cond 8 hx (by kernel_rfl) (fun k hk => by cases hk) (by kernel_rfl) (laid_met os _))) ?_
  intro W base args ds gs before hval0 hW _ _ _ hL _ _
  have htab := tab_of_laid hL
  have hval : ∀ (j : Nat) t v, Tryd.f4.params[j]? = some t → args[j]? = some v → Value.okWide Tryd.prog W .any base t v := hval0
  have hW' := hW
  have hlt := hW.lt
  obtain ⟨p, q, hA0, hV, rfl, hfz, hnd⟩ := hW
  have hA : DataW.TrodAll enc Tryd.prog W 0 (fun _ => true) true Tryd.f4.params.toList args.toList ds p := hA0
  rw [Tryd.params4] at hA hval
  obtain ⟨v0, v1, v2, d0, d1, d2, p0, p1, p2, rfl, rfl, rfl, h0, h1, h2⟩ := trodAll_three hA
  obtain ⟨rfl, rfl⟩ := trodVars_none hV
  obtain ⟨s0, e0, q0⟩ : ∃ s : ByteArray, v0 = .string s ∧ s.size ≤ maxLen := by
    obtain ⟨s, e1, _, _, e2⟩ := open_string Tryd.underlying9 (hval 0 9 v0 rfl rfl) h0
    exact ⟨s, e1, e2⟩
  subst e0
  obtain ⟨s, rfl⟩ : ∃ b : List UInt8, s0 = ⟨b.toArray⟩ := ⟨s0.data.toList, by cases s0; simp⟩
  have hs : s.length ≤ 9223372036854775807 := by have : (⟨s.toArray⟩ : ByteArray).size ≤ maxLen := q0; rw [ba_size'] at this; exact this
  obtain ⟨s1, e1, q1⟩ : ∃ s : ByteArray, v1 = .string s ∧ s.size ≤ maxLen := by
    obtain ⟨s, e1, _, _, e2⟩ := open_string Tryd.underlying9 (hval 1 9 v1 rfl rfl) h1
    exact ⟨s, e1, e2⟩
  subst e1
  obtain ⟨t, rfl⟩ : ∃ b : List UInt8, s1 = ⟨b.toArray⟩ := ⟨s1.data.toList, by cases s1; simp⟩
  have ht : t.length ≤ 9223372036854775807 := by have : (⟨t.toArray⟩ : ByteArray).size ≤ maxLen := q1; rw [ba_size'] at this; exact this
  obtain ⟨f, e2, hf⟩ : ∃ f : Int, v2 = .int .i64 f ∧ In64 f := by
    obtain ⟨a, e1, _, _, wa⟩ := open_int Tryd.underlying3 (hval 2 3 v2 rfl rfl) h2
    exact ⟨a, e1, bounds_i64 wa⟩
  subst e2
  clear hA0 hval0
  simp only [List.append_nil] at hW' hlt
  refine (reads_law s t hs ht f hf W htab).mono fun e W' ⟨he, hb⟩ => ?_
  subst he
  refine ⟨_, rfl, _, _, _, [], p0 ++ p1 ++ p2, [], hW', ?_, ?_, rfl, hb.frame _, fun h => by cases h⟩
  · exact trodAll_mk1 (shut_bool Tryd.underlying4 _)
  · have key := trodAll_mk3 (Below.trod cReads_laidOut cReads_read0.1 cReads_read0.2 h0 hb (fun x hx => hlt x (by simp [hx]))) (Below.trod cReads_laidOut cReads_read0.1 cReads_read0.2 h1 hb (fun x hx => hlt x (by simp [hx]))) (Below.trod cReads_laidOut cReads_read1.1 cReads_read1.2 h2 hb (fun x hx => hlt x (by simp [hx])))
    simp only [← List.append_assoc] at key
    exact key

/-- CellReads. -/
theorem cReads_said : Rows.CellReadsSaid :=
  OpenClaim.holds_of_cond 4 Tryd.f4 rfl rfl rfl rfl rfl rfl rfl ⟨rfl, rfl, rfl, rfl, rfl⟩ rfl rfl rfl rfl rfl (by kernel_rfl) Tryd.func4 (by kernel_rfl)
    (of_decide_eq_true (by kernel_rfl)) (by unfold Func.isWrapper; rw [if_neg (of_decide_eq_false (by kernel_rfl))]; exact ⟨rfl, rfl⟩)
    (fun os started H enc _ F => by rw [OpenClaim.pre_eq_preRow]; exact cReads_lifted os started H enc F)

theorem cReads_plain (f : FuncId) (fn : Func) (hf : Tryd.pinned.checked.prog.funcNamed "errata/erratalaw05.CellReads" = some f) (hfn : Tryd.pinned.checked.prog.funcs[f]? = some fn) :
    false = Tryd.pinned.checked.prog.looks [] ∧ ∀ (j : Nat) t, fn.params[j]? = some t → Tryd.pinned.checked.prog.wantsStandIn t = false := by
  obtain rfl : f = 4 := Option.some.inj ((show Tryd.prog.funcNamed "errata/erratalaw05.CellReads" = some 4 by kernel_rfl).symm.trans hf) |>.symm
  obtain rfl : fn = Tryd.f4 := (Option.some.inj (Tryd.func4.symm.trans hfn)).symm
  refine ⟨by kernel_rfl, fun j t ht => ?_⟩
  rw [Tryd.params4] at ht
  have hm : t ∈ [9, 9, 3] := by simpa using Array.mem_of_getElem? ht
  have hall : ([9, 9, 3].all fun u => !Tryd.prog.wantsStandIn u) = true := by kernel_rfl
  exact (show Tryd.prog.wantsStandIn t = false by simpa using List.all_eq_true.1 hall t hm)

/-- CellReads. -/
theorem cReads_holds : Rows.CellReadsCardSaid :=
  Claim7.holds_tied_plain_at .later [] _ _ _ _ cReads_said (fun _ h => by cases h) (by kernel_rfl) (fun _ h => by cases h) cellReads_row_tie rfl ⟨rfl, rfl⟩ (by kernel_rfl) rfl cReads_plain (by kernel_rfl)
end Go.Proofs.YtninopllfbiccaaDoor
