/-
  JournalReads is true for every input: the row. Condition: the program's listed table is as its text lays it (tied).
-/
import Derived.Test.YtljgfnglknpfaaaDoorJReadsW
namespace Go.Proofs.YtljgfnglknpfaaaDoor
open Go Go.RowKit Go.ChangeShapes Go.WideShapes Go.ChangeAt Dk
open Go.ChangeMaps (open_string shut_string)

theorem jReads_laidOut : laidOutB Tryd.prog = true := by kernel_rfl
theorem jReads_read0 : Tryd.prog.readableRec 9 = true ∧ 9 < Tryd.prog.types.size := ⟨by kernel_rfl, of_decide_eq_true (by kernel_rfl)⟩
theorem jReads_read1 : Tryd.prog.readableRec 3 = true ∧ 3 < Tryd.prog.types.size := ⟨by kernel_rfl, of_decide_eq_true (by kernel_rfl)⟩

set_option maxRecDepth 100000 in
theorem jReads_lifted (os : Os) (started : os.Started) (H : Type) (enc : TypeId × Value → H) (F : Stop.Interp) :
    ReturnsInHanded {} Tryd.checked os 3 .any ((OpenSpec.ofChange Rows.journalReadsSpec).preRow enc Tryd.prog Tryd.f3 Rows.journalReadsRow.domain false Rows.journalReadsRow.laid) (((OpenSpec.ofChange Rows.journalReadsSpec).at F).post enc Tryd.prog Tryd.f3 false true false false) := by
  have hx : ∃ places, DataW.whole enc Tryd.prog ((World.laidAll Tryd.prog os Rows.journalReadsRow.laid).forCall (fun _ _ => 0) ⟨#[], #[.string ⟨#[]⟩, .int .i64 0, .int .i64 0, .string ⟨#[]⟩], []⟩).memory Tryd.f3.params.toList Rows.journalReadsSpec.vars false #[Value.string ⟨#[]⟩, .int .i64 0, .int .i64 0, .string ⟨#[]⟩].toList 8 = some ([.lit (.string []), .lit (.int .i64 0), .lit (.int .i64 0), .lit (.string [])], [], places) := ⟨[], by kernel_rfl⟩
  obtain ⟨places, hx⟩ := hx
  refine returnsInHanded_of_row (C := Tryd.checked) (s := OpenSpec.ofChange Rows.journalReadsSpec) own started (by kernel_rfl) Tryd.func3
    (witness_row_atRef (enc := enc) (C := Tryd.checked) false (World.laidAll Tryd.prog os Rows.journalReadsRow.laid) #[.string ⟨#[]⟩, .int .i64 0, .int .i64 0, .string ⟨#[]⟩] (World.laidAll_os _ _ _) (by kernel_rfl) (by kernel_rfl) (by kernel_rfl)
      (OpenSpec.preRow_of_cond 8 hx (by kernel_rfl) (fun k hk => by cases hk) (by kernel_rfl) (laid_met os _))) ?_
  intro W base args ds gs before hval0 hW _ _ _ hL hsh _
  have hgt := good_of_laid hL hsh
  have hval : ∀ (j : Nat) t v, Tryd.f3.params[j]? = some t → args[j]? = some v → Value.okWide Tryd.prog W .any base t v := hval0
  have hW' := hW
  have hlt := hW.lt
  obtain ⟨p, q, hA0, hV, rfl, hfz, hnd⟩ := hW
  have hA : DataW.TrodAll enc Tryd.prog W 0 (fun _ => true) true Tryd.f3.params.toList args.toList ds p := hA0
  rw [Tryd.params3] at hA hval
  obtain ⟨v0, v1, v2, v3, d0, d1, d2, d3, p0, p1, p2, p3, rfl, rfl, rfl, h0, h1, h2, h3⟩ := trodAll_four hA
  obtain ⟨rfl, rfl⟩ := trodVars_none hV
  obtain ⟨s0, e0, q0⟩ : ∃ s : ByteArray, v0 = .string s ∧ s.size ≤ maxLen := by
    obtain ⟨s, e1, _, _, e2⟩ := open_string Tryd.underlying9 (hval 0 9 v0 rfl rfl) h0
    exact ⟨s, e1, e2⟩
  subst e0
  obtain ⟨log, rfl⟩ : ∃ b : List UInt8, s0 = ⟨b.toArray⟩ := ⟨s0.data.toList, by cases s0; simp⟩
  have hlog : log.length ≤ 9223372036854775807 := by have : (⟨log.toArray⟩ : ByteArray).size ≤ maxLen := q0; rw [ba_size'] at this; exact this
  obtain ⟨bytes, e1, hbytes⟩ : ∃ f : Int, v1 = .int .i64 f ∧ In64 f := by
    obtain ⟨a, e1, _, _, wa⟩ := open_int Tryd.underlying3 (hval 1 3 v1 rfl rfl) h1
    exact ⟨a, e1, bounds_i64 wa⟩
  subst e1
  obtain ⟨n, e2, hn⟩ : ∃ f : Int, v2 = .int .i64 f ∧ In64 f := by
    obtain ⟨a, e1, _, _, wa⟩ := open_int Tryd.underlying3 (hval 2 3 v2 rfl rfl) h2
    exact ⟨a, e1, bounds_i64 wa⟩
  subst e2
  obtain ⟨s3, e3, q3⟩ : ∃ s : ByteArray, v3 = .string s ∧ s.size ≤ maxLen := by
    obtain ⟨s, e1, _, _, e2⟩ := open_string Tryd.underlying9 (hval 3 9 v3 rfl rfl) h3
    exact ⟨s, e1, e2⟩
  subst e3
  obtain ⟨raw, rfl⟩ : ∃ b : List UInt8, s3 = ⟨b.toArray⟩ := ⟨s3.data.toList, by cases s3; simp⟩
  have hraw : raw.length ≤ 9223372036854775807 := by have : (⟨raw.toArray⟩ : ByteArray).size ≤ maxLen := q3; rw [ba_size'] at this; exact this
  clear hA0 hval0
  simp only [List.append_nil] at hW' hlt
  refine (jreads_law log hlog bytes hbytes n hn raw hraw W hgt).mono fun e W' ⟨he, hb⟩ => ?_
  subst he
  refine ⟨_, rfl, _, _, _, [], p0 ++ p1 ++ p2 ++ p3, [], hW', ?_, ?_, rfl, hb.frame _, fun h => by cases h⟩
  · exact trodAll_mk1 (shut_bool Tryd.underlying4 _)
  · have key := trodAll_mk4 (Below.trod jReads_laidOut jReads_read0.1 jReads_read0.2 h0 hb (fun x hx => hlt x (by simp [hx]))) (Below.trod jReads_laidOut jReads_read1.1 jReads_read1.2 h1 hb (fun x hx => hlt x (by simp [hx]))) (Below.trod jReads_laidOut jReads_read1.1 jReads_read1.2 h2 hb (fun x hx => hlt x (by simp [hx]))) (Below.trod jReads_laidOut jReads_read0.1 jReads_read0.2 h3 hb (fun x hx => hlt x (by simp [hx])))
    simp only [← List.append_assoc] at key
    exact key

/-- JournalReads. -/
theorem jReads_said : Rows.JournalReadsSaid :=
  OpenClaim.holds_of_cond 3 Tryd.f3 rfl rfl rfl rfl rfl rfl rfl ⟨rfl, rfl, rfl, rfl, rfl⟩ rfl rfl rfl rfl rfl (by kernel_rfl) Tryd.func3 (by kernel_rfl)
    (of_decide_eq_true (by kernel_rfl)) (by unfold Func.isWrapper; rw [if_neg (of_decide_eq_false (by kernel_rfl))]; exact ⟨rfl, rfl⟩)
    (fun os started H enc _ F => by rw [OpenClaim.pre_eq_preRow]; exact jReads_lifted os started H enc F)

theorem jReads_plain (f : FuncId) (fn : Func) (hf : Tryd.pinned.checked.prog.funcNamed "errata/erratalaw06.JournalReads" = some f) (hfn : Tryd.pinned.checked.prog.funcs[f]? = some fn) :
    true = Tryd.pinned.checked.prog.looks [] ∧ ∀ (j : Nat) t, fn.params[j]? = some t → Tryd.pinned.checked.prog.wantsStandIn t = false := by
  obtain rfl : f = 3 := Option.some.inj ((show Tryd.prog.funcNamed "errata/erratalaw06.JournalReads" = some 3 by kernel_rfl).symm.trans hf) |>.symm
  obtain rfl : fn = Tryd.f3 := (Option.some.inj (Tryd.func3.symm.trans hfn)).symm
  refine ⟨by kernel_rfl, fun j t ht => ?_⟩
  rw [Tryd.params3] at ht
  have hm : t ∈ [9, 3, 3, 9] := by simpa using Array.mem_of_getElem? ht
  have hall : ([9, 3, 3, 9].all fun u => !Tryd.prog.wantsStandIn u) = true := by kernel_rfl
  exact (show Tryd.prog.wantsStandIn t = false by simpa using List.all_eq_true.1 hall t hm)

/-- JournalReads. -/
theorem jReads_holds : Rows.JournalReadsCardSaid :=
  Claim7.holds_tied_plain_at .later [] _ _ _ _ jReads_said (fun _ h => by cases h) (by kernel_rfl) (fun _ h => by cases h) journalReads_row_tie rfl ⟨rfl, rfl⟩ (by kernel_rfl) rfl jReads_plain (by kernel_rfl)
end Go.Proofs.YtljgfnglknpfaaaDoor
