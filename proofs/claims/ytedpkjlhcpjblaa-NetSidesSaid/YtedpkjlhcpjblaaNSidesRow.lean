/-
  NetSides is true for every input: the row. No condition.
-/
import Derived.Test.YtedpkjlhcpjblaaNSides
namespace Go.Proofs.Ytedpkjlhcpjblaa
open Go Go.RowKit Go.ChangeShapes Go.WideShapes Go.ChangeAt Nt
open Go.ChangeMaps (open_string shut_string)

theorem nSides_laidOut : laidOutB Try.prog = true := by kernel_rfl
theorem nSides_read0 : Try.prog.readableRec 3 = true ∧ 3 < Try.prog.types.size := ⟨by kernel_rfl, of_decide_eq_true (by kernel_rfl)⟩
theorem nSides_read1 : Try.prog.readableRec 4 = true ∧ 4 < Try.prog.types.size := ⟨by kernel_rfl, of_decide_eq_true (by kernel_rfl)⟩

set_option maxRecDepth 100000 in
theorem nSides_lifted (os : Os) (started : os.Started) (H : Type) (enc : TypeId × Value → H) (F : Stop.Interp) :
    ReturnsInHanded {} Try.checked os 6 .any ((OpenSpec.ofChange Rows.netSidesSpec).preRow enc Try.prog Try.f6 Rows.netSidesRow.domain false Rows.netSidesRow.laid) (((OpenSpec.ofChange Rows.netSidesSpec).at F).post enc Try.prog Try.f6 false true false false) := by
  have hx : ∃ places, DataW.whole enc Try.prog ((World.laidAll Try.prog os []).forCall (fun _ _ => 0) ⟨#[], #[.int .i64 0, .bool false, .int .i64 0], []⟩).memory Try.f6.params.toList Rows.netSidesSpec.vars false #[Value.int .i64 0, .bool false, .int .i64 0].toList 8 = some ([.lit (.int .i64 0), .lit (.bool false), .lit (.int .i64 0)], [], places) := ⟨[], by kernel_rfl⟩
  obtain ⟨places, hx⟩ := hx
  refine returnsInHanded_of_row (C := Try.checked) (s := OpenSpec.ofChange Rows.netSidesSpec) own started (by kernel_rfl) Try.func6
    (witness_row_atRef (enc := enc) (C := Try.checked) false (World.laidAll Try.prog os []) #[.int .i64 0, .bool false, .int .i64 0] (World.laidAll_os _ _ _) (by kernel_rfl) (by kernel_rfl) (by kernel_rfl)
      (OpenSpec.preRow_of_cond 8 hx (by kernel_rfl) (fun k hk => by cases hk) (by kernel_rfl) (laid_met os _))) ?_
  intro W base args ds gs before hval0 hW _ _ _ _ _ _
  have hval : ∀ (j : Nat) t v, Try.f6.params[j]? = some t → args[j]? = some v → Value.okWide Try.prog W .any base t v := hval0
  have hW' := hW
  have hlt := hW.lt
  obtain ⟨p, q, hA0, hV, rfl, hfz, hnd⟩ := hW
  have hA : DataW.TrodAll enc Try.prog W 0 (fun _ => true) true Try.f6.params.toList args.toList ds p := hA0
  rw [Try.params6] at hA hval
  obtain ⟨v0, v1, v2, d0, d1, d2, p0, p1, p2, rfl, rfl, rfl, h0, h1, h2⟩ := trodAll_three hA
  obtain ⟨rfl, rfl⟩ := trodVars_none hV
  obtain ⟨mask, e0, hmask⟩ : ∃ f : Int, v0 = .int .i64 f ∧ In64 f := by
    obtain ⟨a, e1, _, _, wa⟩ := open_int Try.underlying3 (hval 0 3 v0 rfl rfl) h0
    exact ⟨a, e1, bounds_i64 wa⟩
  subst e0
  obtain ⟨late, rfl⟩ := okWide_bool Try.underlying4 (hval 1 4 v1 rfl rfl)
  obtain ⟨more, e2, hmore⟩ : ∃ f : Int, v2 = .int .i64 f ∧ In64 f := by
    obtain ⟨a, e1, _, _, wa⟩ := open_int Try.underlying3 (hval 2 3 v2 rfl rfl) h2
    exact ⟨a, e1, bounds_i64 wa⟩
  subst e2
  clear hA0 hval0
  simp only [List.append_nil] at hW' hlt
  refine (sides_law mask late more W).mono fun e W' ⟨he, hb⟩ => ?_
  subst he
  refine ⟨_, rfl, _, _, _, [], p0 ++ p1 ++ p2, [], hW', ?_, ?_, rfl, hb.frame _, fun h => by cases h⟩
  · exact trodAll_mk1 (shut_bool Try.underlying4 _)
  · have key := trodAll_mk3 (Below.trod nSides_laidOut nSides_read0.1 nSides_read0.2 h0 hb (fun x hx => hlt x (by simp [hx]))) (Below.trod nSides_laidOut nSides_read1.1 nSides_read1.2 h1 hb (fun x hx => hlt x (by simp [hx]))) (Below.trod nSides_laidOut nSides_read0.1 nSides_read0.2 h2 hb (fun x hx => hlt x (by simp [hx])))
    simp only [← List.append_assoc] at key
    exact key

/-- NetSides. -/
theorem nSides_said : Rows.NetSidesSaid :=
  OpenClaim.holds_of_cond 6 Try.f6 rfl rfl rfl rfl rfl rfl rfl ⟨rfl, rfl, rfl, rfl, rfl⟩ rfl rfl rfl rfl rfl (by kernel_rfl) Try.func6 (by kernel_rfl)
    (of_decide_eq_true (by kernel_rfl)) (by unfold Func.isWrapper; rw [if_neg (of_decide_eq_false (by kernel_rfl))]; exact ⟨rfl, rfl⟩)
    (fun os started H enc _ F => by rw [OpenClaim.pre_eq_preRow]; exact nSides_lifted os started H enc F)
end Go.Proofs.Ytedpkjlhcpjblaa
