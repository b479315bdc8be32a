/-
  DiskArms is true for every input: the row. No condition.
-/
import Derived.Test.YthibikdnoogfoaaDArms2
import Derived.Test.YthibikdnoogfoaaDOpen
namespace Go.Proofs.Ythibikdnoogfoaa
open Go Go.RowKit Go.ChangeShapes Go.WideShapes Go.ChangeAt Dk
open Go.ChangeMaps (open_string shut_string)

theorem dArms_laidOut : laidOutB Try.prog = true := by kernel_rfl
theorem dArms_read0 : Try.prog.readableRec 22 = true ∧ 22 < Try.prog.types.size := ⟨by kernel_rfl, of_decide_eq_true (by kernel_rfl)⟩
theorem dArms_read1 : Try.prog.readableRec 3 = true ∧ 3 < Try.prog.types.size := ⟨by kernel_rfl, of_decide_eq_true (by kernel_rfl)⟩
theorem dArms_read3 : Try.prog.readableRec 31 = true ∧ 31 < Try.prog.types.size := ⟨by kernel_rfl, of_decide_eq_true (by kernel_rfl)⟩

set_option maxRecDepth 100000 in
theorem dArms_lifted (os : Os) (started : os.Started) (H : Type) (enc : TypeId × Value → H) (F : Stop.Interp) :
    ReturnsInHanded {} Try.checked os 6 .any ((OpenSpec.ofChange Rows.diskArmsSpec).preRow enc Try.prog Try.f6 Rows.diskArmsRow.domain false Rows.diskArmsRow.laid) (((OpenSpec.ofChange Rows.diskArmsSpec).at F).post enc Try.prog Try.f6 false true false false) := by
  have hx : ∃ places, DataW.whole enc Try.prog ((World.laidAll Try.prog os []).forCall (fun _ _ => 0) ⟨#[], #[.slice none 0 0, .int .i64 0, .slice none 0 0], []⟩).memory Try.f6.params.toList Rows.diskArmsSpec.vars false #[Value.slice none 0 0, .int .i64 0, .slice none 0 0].toList 8 = some ([.nil, .lit (.int .i64 0), .nil], [], places) := ⟨[], by kernel_rfl⟩
  obtain ⟨places, hx⟩ := hx
  refine returnsInHanded_of_row (C := Try.checked) (s := OpenSpec.ofChange Rows.diskArmsSpec) own started (by kernel_rfl) Try.func6
    (witness_row_atRef (enc := enc) (C := Try.checked) false (World.laidAll Try.prog os []) #[.slice none 0 0, .int .i64 0, .slice none 0 0] (World.laidAll_os _ _ _) (by kernel_rfl) (by kernel_rfl) (by kernel_rfl)
      (OpenSpec.preRow_of_cond 8 hx (by kernel_rfl) (fun k hk => by cases hk) (by kernel_rfl) (laid_met os _))) ?_
  intro W base args ds gs before hval0 hW _ _ _ _ _ _
  have hval : ∀ (j : Nat) t v, Try.f6.params[j]? = some t → args[j]? = some v → Value.okWide Try.prog W .any base t v := hval0
  have hW' := hW
  have hlt := hW.lt
  obtain ⟨p, q, hA0, hV, rfl, hfz, hnd⟩ := hW
  have hA : DataW.TrodAll enc Try.prog W 0 (fun _ => true) true Try.f6.params.toList args.toList ds p := hA0
  rw [Try.params6] at hA hval
  obtain ⟨v0, v1, v3, d0, d1, d3, p0, p1, p3, rfl, rfl, rfl, h0, h1, h3⟩ := trodAll_three hA
  obtain ⟨rfl, rfl⟩ := trodVars_none hV
  obtain ⟨a0, len0, cap0, rfl⟩ := okWide_slice Try.underlying22 (hval 0 22 v0 rfl rfl)
  obtain ⟨l, hl⟩ : ∃ l, ActsIn W (.slice a0 len0 cap0) l := by
    obtain ⟨fuel, hf⟩ := h0
    exact open_acts hf
  obtain ⟨f, hf1⟩ : ∃ f : Int, v1 = .int .i64 f := by
    obtain ⟨a, e1, _, _, _⟩ := open_int Try.underlying3 (hval 1 3 v1 rfl rfl) h1
    exact ⟨a, e1⟩
  subst hf1
  obtain ⟨a3, len3, cap3, rfl⟩ := okWide_slice Try.underlying31 (hval 2 31 v3 rfl rfl)
  obtain ⟨keep, ka, kc, hke, hks, hkl, hki⟩ : ∃ l a c, Value.slice a3 len3 cap3 = .slice a l.length c ∧ SrcV W 1 (.slice a3 len3 cap3) l.length (intsV l) ∧ l.length ≤ 9223372036854775807 ∧ ∀ k ∈ l, In64 k := by
    obtain ⟨fuel, hf⟩ := h3
    exact open_intsV hf
  rw [hke] at hks
  injection hke with e1 e2 e3
  subst e1 e2 e3
  clear hA0 hval0
  simp only [List.append_nil] at hW' hlt
  refine (arms_law _ l f keep hkl hki _ _ W hl hks).mono fun e W' ⟨he, hb⟩ => ?_
  subst he
  refine ⟨_, rfl, _, _, _, [], p0 ++ p1 ++ p3, [], hW', ?_, ?_, rfl, hb.frame _, fun h => by cases h⟩
  · exact trodAll_mk1 (shut_bool Try.underlying4 _)
  · have key := trodAll_mk3 (Below.trod dArms_laidOut dArms_read0.1 dArms_read0.2 h0 hb (fun x hx => hlt x (by simp [hx]))) (Below.trod dArms_laidOut dArms_read1.1 dArms_read1.2 h1 hb (fun x hx => hlt x (by simp [hx]))) (Below.trod dArms_laidOut dArms_read3.1 dArms_read3.2 h3 hb (fun x hx => hlt x (by simp [hx])))
    simp only [← List.append_assoc] at key
    exact key

/-- DiskArms. -/
theorem dArms_said : Rows.DiskArmsSaid :=
  OpenClaim.holds_of_cond 6 Try.f6 rfl rfl rfl rfl rfl rfl rfl ⟨rfl, rfl, rfl, rfl, rfl⟩ rfl rfl rfl rfl rfl (by kernel_rfl) Try.func6 (by kernel_rfl)
    (of_decide_eq_true (by kernel_rfl)) (by unfold Func.isWrapper; rw [if_neg (of_decide_eq_false (by kernel_rfl))]; exact ⟨rfl, rfl⟩)
    (fun os started H enc _ F => by rw [OpenClaim.pre_eq_preRow]; exact dArms_lifted os started H enc F)
end Go.Proofs.Ythibikdnoogfoaa
