/-
  ReplicaBack is true for every input of bulk at most 1048576: the row. Condition: the library's listed variables are as its text lays them (tied).
-/
import Derived.Test.YtkmojcpiadpbaaaGreatDoorKLaw
import Derived.Test.YtkmojcpiadpbaaaGreatDoorVGood
namespace Go.Proofs.YtkmojcpiadpbaaaGreatDoor
open Go Go.RowKit Go.ChangeShapes Go.WideShapes Go.ChangeAt Rp Wire
open Go.ChangeMaps (open_string shut_string)

theorem kBack_laidOut : laidOutB Tryz.prog = true := by kernel_rfl
theorem kBack_read0 : Tryz.prog.readableRec 24 = true ∧ 24 < Tryz.prog.types.size := ⟨by kernel_rfl, of_decide_eq_true (by kernel_rfl)⟩
theorem kBack_read1 : Tryz.prog.readableRec 9 = true ∧ 9 < Tryz.prog.types.size := ⟨by kernel_rfl, of_decide_eq_true (by kernel_rfl)⟩
theorem ba_sizeK (l : List UInt8) : (⟨l.toArray⟩ : ByteArray).size = l.length := by show l.toArray.size = _; simp

set_option maxRecDepth 100000 in
theorem kBack_lifted (os : Os) (started : os.Started) (H : Type) (enc : TypeId × Value → H) (F : Stop.Interp) :
    ReturnsInHanded {} Tryz.checked os 3 .any ((Rows.OpenSpec.upto Rows.replicaBackSpec).preRow enc Tryz.prog Tryz.f3 Rows.replicaBackUptoRow.domain false Rows.replicaBackUptoRow.laid) (((Rows.OpenSpec.upto Rows.replicaBackSpec).at F).post enc Tryz.prog Tryz.f3 false true false false) := by
  have hx : ∃ places, DataW.whole enc Tryz.prog ((World.laidAll Tryz.prog os Rows.replicaBackUptoRow.laid).forCall (fun _ _ => 0) ⟨#[], #[.agg #[.int .i64 0, .int .i64 0, .int .i64 0, .int .i64 0, .int .i64 0, .int .i64 0, .int .i64 0, .bool false, .slice none 0 0], .string ⟨#[]⟩], []⟩).memory Tryz.f3.params.toList Rows.replicaBackSpec.vars false #[Value.agg #[.int .i64 0, .int .i64 0, .int .i64 0, .int .i64 0, .int .i64 0, .int .i64 0, .int .i64 0, .bool false, .slice none 0 0], .string ⟨#[]⟩].toList 8 = some ([.agg [.lit (.int .i64 0), .lit (.int .i64 0), .lit (.int .i64 0), .lit (.int .i64 0), .lit (.int .i64 0), .lit (.int .i64 0), .lit (.int .i64 0), .lit (.bool false), .nil], .lit (.string [])], [], places) := ⟨[], by kernel_rfl⟩
  obtain ⟨places, hx⟩ := hx
  refine returnsInHanded_of_row (C := Tryz.checked) (s := (Rows.OpenSpec.upto Rows.replicaBackSpec)) own started (by kernel_rfl) Tryz.func3
    (witness_row_atRef (enc := enc) (C := Tryz.checked) false (World.laidAll Tryz.prog os Rows.replicaBackUptoRow.laid) #[.agg #[.int .i64 0, .int .i64 0, .int .i64 0, .int .i64 0, .int .i64 0, .int .i64 0, .int .i64 0, .bool false, .slice none 0 0], .string ⟨#[]⟩] (World.laidAll_os _ _ _) (by kernel_rfl) (by kernel_rfl) (by kernel_rfl)
      (OpenSpec.preRow_of_cond 8 hx (by kernel_rfl) (fun k hk => by cases hk; kernel_rfl) (by kernel_rfl) (laid_met os _))) ?_
  intro W base args ds gs before hval0 hW _ hcond _ hL hsh _
  have hgt := good_of_laid hL hsh
  have hbulk : Rows.uptoBulkAll (ds ++ gs) ≤ 1048576 := of_decide_eq_true (hcond _ rfl)
  have hval : ∀ (j : Nat) t v, Tryz.f3.params[j]? = some t → args[j]? = some v → Value.okWide Tryz.prog W .any base t v := hval0
  have hW' := hW
  have hlt := hW.lt
  obtain ⟨p, q, hA0, hV, rfl, hfz, hnd⟩ := hW
  have hA : DataW.TrodAll enc Tryz.prog W 0 (fun _ => true) true Tryz.f3.params.toList args.toList ds p := hA0
  rw [Tryz.params3] at hA hval
  obtain ⟨v0, v1, d0, d1, p0, p1, rfl, rfl, rfl, h0, h1⟩ := trodAll_two hA
  obtain ⟨rfl, rfl⟩ := trodVars_none hV
  have hb0 : Rows.uptoBulk d0 ≤ 1048576 := Nat.le_trans (bulk_all (by simp)) hbulk
  obtain ⟨m, hm0, hmi⟩ := open_msg (hval 0 24 v0 rfl rfl) h0
  subst hm0
  have hm : MsgIn W m 1048576 := ⟨hmi.head, hmi.src, hmi.len, fun x hx => ⟨(hmi.ents x hx).1, Nat.le_trans (hmi.ents x hx).2 hb0⟩⟩
  obtain ⟨s1, e1, q1⟩ : ∃ s : ByteArray, v1 = .string s ∧ s.size ≤ maxLen := by
    obtain ⟨s, e1, _, _, e2⟩ := open_string Tryz.underlying9 (hval 1 9 v1 rfl rfl) h1
    exact ⟨s, e1, e2⟩
  subst e1
  obtain ⟨s, rfl⟩ : ∃ b : List UInt8, s1 = ⟨b.toArray⟩ := ⟨s1.data.toList, by cases s1; simp⟩
  have hs : s.length ≤ 9223372036854775807 := by have : (⟨s.toArray⟩ : ByteArray).size ≤ maxLen := q1; rw [ba_sizeK] at this; exact this
  clear hA0 hval0
  simp only [List.append_nil] at hW' hlt
  refine (back_law m s W hgt hm hs).mono fun e W' ⟨he, hb⟩ => ?_
  subst he
  refine ⟨_, rfl, _, _, _, [], p0 ++ p1, [], hW', ?_, ?_, rfl, hb.frame _, fun h => by cases h⟩
  · exact trodAll_mk1 (shut_bool Tryz.underlying4 _)
  · have key := trodAll_mk2 (Below.trod kBack_laidOut kBack_read0.1 kBack_read0.2 h0 hb (fun x hx => hlt x (by simp [hx]))) (Below.trod kBack_laidOut kBack_read1.1 kBack_read1.2 h1 hb (fun x hx => hlt x (by simp [hx])))
    exact key

/-- ReplicaBack. -/
theorem kBack_said : Rows.ReplicaBackUptoSaid :=
  OpenClaim.holds_of_cond 3 Tryz.f3 rfl rfl rfl rfl rfl rfl rfl ⟨rfl, rfl, rfl, rfl, rfl⟩ rfl rfl rfl rfl rfl (by kernel_rfl) Tryz.func3 (by kernel_rfl)
    (of_decide_eq_true (by kernel_rfl)) (by unfold Func.isWrapper; rw [if_neg (of_decide_eq_false (by kernel_rfl))]; exact ⟨rfl, rfl⟩)
    (fun os started H enc _ F => by rw [OpenClaim.pre_eq_preRow]; exact kBack_lifted os started H enc F)

theorem kBack_plain (f : FuncId) (fn : Func) (hf : Tryz.pinned.checked.prog.funcNamed "errata/erratalaw08.ReplicaBack" = some f) (hfn : Tryz.pinned.checked.prog.funcs[f]? = some fn) :
    true = Tryz.pinned.checked.prog.looks [] ∧ ∀ (j : Nat) t, fn.params[j]? = some t → Tryz.pinned.checked.prog.wantsStandIn t = false := by
  obtain rfl : f = 3 := Option.some.inj ((show Tryz.prog.funcNamed "errata/erratalaw08.ReplicaBack" = some 3 by kernel_rfl).symm.trans hf) |>.symm
  obtain rfl : fn = Tryz.f3 := (Option.some.inj (Tryz.func3.symm.trans hfn)).symm
  refine ⟨by kernel_rfl, fun j t ht => ?_⟩
  rw [Tryz.params3] at ht
  have hm : t ∈ [24, 9] := by simpa using Array.mem_of_getElem? ht
  have hall : ([24, 9].all fun u => !Tryz.prog.wantsStandIn u) = true := by kernel_rfl
  exact (show Tryz.prog.wantsStandIn t = false by simpa using List.all_eq_true.1 hall t hm)

/-- ReplicaBack. -/
theorem kBack_holds : Rows.ReplicaBackUptoCardSaid :=
  Claim7.holds_tied_plain_at .later [] _ _ _ _ kBack_said (fun _ h => by cases h) (by kernel_rfl) (fun _ h => by cases h) replicaBackUpto_row_tie rfl ⟨rfl, rfl⟩ (by kernel_rfl) rfl kBack_plain (by kernel_rfl)
end Go.Proofs.YtkmojcpiadpbaaaGreatDoor
