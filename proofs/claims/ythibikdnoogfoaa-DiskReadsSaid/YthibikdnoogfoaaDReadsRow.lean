/-
  DiskReads is true for every input: the row. No condition.
-/
import Derived.Test.YthibikdnoogfoaaDReads2
import Derived.Test.YthibikdnoogfoaaDOpen
namespace Go.Proofs.Ythibikdnoogfoaa
open Go Go.RowKit Go.ChangeShapes Go.WideShapes Go.ChangeAt Dk
open Go.ChangeMaps (open_string shut_string)

theorem dReads_laidOut : laidOutB Try.prog = true := by kernel_rfl
theorem dReads_read0 : Try.prog.readableRec 22 = true ∧ 22 < Try.prog.types.size := ⟨by kernel_rfl, of_decide_eq_true (by kernel_rfl)⟩
theorem dReads_read1 : Try.prog.readableRec 3 = true ∧ 3 < Try.prog.types.size := ⟨by kernel_rfl, of_decide_eq_true (by kernel_rfl)⟩
theorem dReads_read3 : Try.prog.readableRec 9 = true ∧ 9 < Try.prog.types.size := ⟨by kernel_rfl, of_decide_eq_true (by kernel_rfl)⟩

set_option maxRecDepth 100000 in
theorem dReads_lifted (os : Os) (started : os.Started) (H : Type) (enc : TypeId × Value → H) (F : Stop.Interp) :
    ReturnsInHanded {} Try.checked os 7 .any ((OpenSpec.ofChange Rows.diskReadsSpec).preRow enc Try.prog Try.f7 Rows.diskReadsRow.domain false Rows.diskReadsRow.laid) (((OpenSpec.ofChange Rows.diskReadsSpec).at F).post enc Try.prog Try.f7 false true false false) := by
  have hx : ∃ places, DataW.whole enc Try.prog ((World.laidAll Try.prog os []).forCall (fun _ _ => 0) ⟨#[], #[.slice none 0 0, .int .i64 0, .int .i64 0, .string ⟨#[]⟩, .int .i64 0], []⟩).memory Try.f7.params.toList Rows.diskReadsSpec.vars false #[Value.slice none 0 0, .int .i64 0, .int .i64 0, .string ⟨#[]⟩, .int .i64 0].toList 8 = some ([.nil, .lit (.int .i64 0), .lit (.int .i64 0), .lit (.string []), .lit (.int .i64 0)], [], places) := ⟨[], by kernel_rfl⟩
  obtain ⟨places, hx⟩ := hx
  refine returnsInHanded_of_row (C := Try.checked) (s := OpenSpec.ofChange Rows.diskReadsSpec) own started (by kernel_rfl) Try.func7
    (witness_row_atRef (enc := enc) (C := Try.checked) false (World.laidAll Try.prog os []) #[.slice none 0 0, .int .i64 0, .int .i64 0, .string ⟨#[]⟩, .int .i64 0] (World.laidAll_os _ _ _) (by kernel_rfl) (by kernel_rfl) (by kernel_rfl)
      (OpenSpec.preRow_of_cond 8 hx (by kernel_rfl) (fun k hk => by cases hk) (by kernel_rfl) (laid_met os _))) ?_
  intro W base args ds gs before hval0 hW _ _ _ _ _ _
  have hval : ∀ (j : Nat) t v, Try.f7.params[j]? = some t → args[j]? = some v → Value.okWide Try.prog W .any base t v := hval0
  have hW' := hW
  have hlt := hW.lt
  obtain ⟨p, q, hA0, hV, rfl, hfz, hnd⟩ := hW
  have hA : DataW.TrodAll enc Try.prog W 0 (fun _ => true) true Try.f7.params.toList args.toList ds p := hA0
  rw [Try.params7] at hA hval
  obtain ⟨v0, v1, v2, v3, v4, d0, d1, d2, d3, d4, p0, p1, p2, p3, p4, rfl, rfl, rfl, h0, h1, h2, h3, h4⟩ := trodAll_five hA
  obtain ⟨rfl, rfl⟩ := trodVars_none hV
  obtain ⟨a0, len0, cap0, rfl⟩ := okWide_slice Try.underlying22 (hval 0 22 v0 rfl rfl)
  obtain ⟨l, hl⟩ : ∃ l, ActsIn W (.slice a0 len0 cap0) l := by
    obtain ⟨fuel, hf⟩ := h0
    exact open_acts hf
  obtain ⟨f, hf1, hfi⟩ : ∃ f : Int, v1 = .int .i64 f ∧ In64 f := by
    obtain ⟨a, e1, _, _, wa⟩ := open_int Try.underlying3 (hval 1 3 v1 rfl rfl) h1
    exact ⟨a, e1, bounds_i64 wa⟩
  subst hf1
  obtain ⟨at', hf2, hai⟩ : ∃ f : Int, v2 = .int .i64 f ∧ In64 f := by
    obtain ⟨a, e1, _, _, wa⟩ := open_int Try.underlying3 (hval 2 3 v2 rfl rfl) h2
    exact ⟨a, e1, bounds_i64 wa⟩
  subst hf2
  obtain ⟨s, hs0, hs⟩ : ∃ s : ByteArray, v3 = .string s ∧ s.size ≤ maxLen := by
    obtain ⟨s, e1, _, _, e2⟩ := open_string Try.underlying9 (hval 3 9 v3 rfl rfl) h3
    exact ⟨s, e1, e2⟩
  subst hs0
  obtain ⟨b, rfl⟩ : ∃ b : List UInt8, s = ⟨b.toArray⟩ := ⟨s.data.toList, by cases s; simp⟩
  have hb : b.length ≤ 9223372036854775807 := by have : (⟨b.toArray⟩ : ByteArray).size ≤ maxLen := hs; rw [ba_size'] at this; exact this
  obtain ⟨sz, hf4, hzi⟩ : ∃ f : Int, v4 = .int .i64 f ∧ In64 f := by
    obtain ⟨a, e1, _, _, wa⟩ := open_int Try.underlying3 (hval 4 3 v4 rfl rfl) h4
    exact ⟨a, e1, bounds_i64 wa⟩
  subst hf4
  clear hA0 hval0
  simp only [List.append_nil] at hW' hlt
  refine (reads_law _ l f at' sz b hfi hai hzi hb W hl).mono fun e W' ⟨he, hb⟩ => ?_
  subst he
  refine ⟨_, rfl, _, _, _, [], p0 ++ p1 ++ p2 ++ p3 ++ p4, [], hW', ?_, ?_, rfl, hb.frame _, fun h => by cases h⟩
  · exact trodAll_mk1 (shut_bool Try.underlying4 _)
  · have key := trodAll_mk5 (Below.trod dReads_laidOut dReads_read0.1 dReads_read0.2 h0 hb (fun x hx => hlt x (by simp [hx]))) (Below.trod dReads_laidOut dReads_read1.1 dReads_read1.2 h1 hb (fun x hx => hlt x (by simp [hx]))) (Below.trod dReads_laidOut dReads_read1.1 dReads_read1.2 h2 hb (fun x hx => hlt x (by simp [hx]))) (Below.trod dReads_laidOut dReads_read3.1 dReads_read3.2 h3 hb (fun x hx => hlt x (by simp [hx]))) (Below.trod dReads_laidOut dReads_read1.1 dReads_read1.2 h4 hb (fun x hx => hlt x (by simp [hx])))
    simp only [← List.append_assoc] at key
    exact key

/-- DiskReads. -/
theorem dReads_said : Rows.DiskReadsSaid :=
  OpenClaim.holds_of_cond 7 Try.f7 rfl rfl rfl rfl rfl rfl rfl ⟨rfl, rfl, rfl, rfl, rfl⟩ rfl rfl rfl rfl rfl (by kernel_rfl) Try.func7 (by kernel_rfl)
    (of_decide_eq_true (by kernel_rfl)) (by unfold Func.isWrapper; rw [if_neg (of_decide_eq_false (by kernel_rfl))]; exact ⟨rfl, rfl⟩)
    (fun os started H enc _ F => by rw [OpenClaim.pre_eq_preRow]; exact dReads_lifted os started H enc F)
end Go.Proofs.Ythibikdnoogfoaa
