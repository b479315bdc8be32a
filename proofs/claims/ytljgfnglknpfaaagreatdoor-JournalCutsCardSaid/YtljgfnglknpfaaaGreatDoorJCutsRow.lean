/-
  JournalCuts is true for every input: the row. Condition: the program's listed table is as its text lays it (tied).
-/
import Derived.Test.YtljgfnglknpfaaaGreatDoorJCutsW
import Derived.Test.YtljgfnglknpfaaaGreatDoorJCap
namespace Go.Proofs.YtljgfnglknpfaaaGreatDoor
open Go Go.RowKit Go.ChangeShapes Go.WideShapes Go.ChangeAt Dk
open Go.ChangeMaps (open_string shut_string)

theorem jCuts_laidOut : laidOutB Tryz.prog = true := by kernel_rfl
theorem jCuts_read0 : Tryz.prog.readableRec 32 = true ∧ 32 < Tryz.prog.types.size := ⟨by kernel_rfl, of_decide_eq_true (by kernel_rfl)⟩
theorem jCuts_read1 : Tryz.prog.readableRec 3 = true ∧ 3 < Tryz.prog.types.size := ⟨by kernel_rfl, of_decide_eq_true (by kernel_rfl)⟩

set_option maxRecDepth 100000 in
theorem jCuts_lifted (os : Os) (started : os.Started) (H : Type) (enc : TypeId × Value → H) (F : Stop.Interp) :
    ReturnsInHanded {} Tryz.checked os 5 .any ((OpenSpec.ofChange Rows.journalCutsSpec).preRow enc Tryz.prog Tryz.f5 Rows.journalCutsRow.domain false Rows.journalCutsRow.laid) (((OpenSpec.ofChange Rows.journalCutsSpec).at F).post enc Tryz.prog Tryz.f5 false true false false) := by
  have hx : ∃ places, DataW.whole enc Tryz.prog ((World.laidAll Tryz.prog os Rows.journalCutsRow.laid).forCall (fun _ _ => 0) ⟨#[], #[.slice none 0 0, .int .i64 0, .slice none 0 0], []⟩).memory Tryz.f5.params.toList Rows.journalCutsSpec.vars false #[Value.slice none 0 0, .int .i64 0, .slice none 0 0].toList 8 = some ([.nil, .lit (.int .i64 0), .nil], [], places) := ⟨[], by kernel_rfl⟩
  obtain ⟨places, hx⟩ := hx
  refine returnsInHanded_of_row (C := Tryz.checked) (s := OpenSpec.ofChange Rows.journalCutsSpec) own started (by kernel_rfl) Tryz.func5
    (witness_row_atRef (enc := enc) (C := Tryz.checked) false (World.laidAll Tryz.prog os Rows.journalCutsRow.laid) #[.slice none 0 0, .int .i64 0, .slice none 0 0] (World.laidAll_os _ _ _) (by kernel_rfl) (by kernel_rfl) (by kernel_rfl)
      (OpenSpec.preRow_of_cond 8 hx (by kernel_rfl) (fun k hk => by cases hk) (by kernel_rfl) (laid_met os _))) ?_
  intro W base args ds gs before hval0 hW _ _ _ hL hsh _
  have hgt := good_of_laid hL hsh
  have hval : ∀ (j : Nat) t v, Tryz.f5.params[j]? = some t → args[j]? = some v → Value.okWide Tryz.prog W .any base t v := hval0
  have hW' := hW
  have hlt := hW.lt
  obtain ⟨p, q, hA0, hV, rfl, hfz, hnd⟩ := hW
  have hA : DataW.TrodAll enc Tryz.prog W 0 (fun _ => true) true Tryz.f5.params.toList args.toList ds p := hA0
  rw [Tryz.params5] at hA hval
  obtain ⟨v0, v1, v2, d0, d1, d2, p0, p1, p2, rfl, rfl, rfl, h0, h1, h2⟩ := trodAll_three hA
  obtain ⟨rfl, rfl⟩ := trodVars_none hV
  obtain ⟨a0, len0, cap0, rfl⟩ := okWide_slice Tryz.underlying32 (hval 0 32 v0 rfl rfl)
  obtain ⟨a, ka0, kc0, hke0, ha, hla, hca⟩ : ∃ l a c, Value.slice a0 len0 cap0 = .slice a l.length c ∧ SrcV W 1 (.slice a0 len0 cap0) l.length (strsV l) ∧ l.length ≤ 9223372036854775807 ∧ l.length ≤ c := by
    obtain ⟨fuel, hf⟩ := h0
    exact open_strsC hf
  rw [hke0] at ha
  injection hke0 with e1 e2 e3
  subst e1 e2 e3
  obtain ⟨n, e1, hn⟩ : ∃ f : Int, v1 = .int .i64 f ∧ In64 f := by
    obtain ⟨a, e1, _, _, wa⟩ := open_int Tryz.underlying3 (hval 1 3 v1 rfl rfl) h1
    exact ⟨a, e1, bounds_i64 wa⟩
  subst e1
  obtain ⟨a2, len2, cap2, rfl⟩ := okWide_slice Tryz.underlying32 (hval 2 32 v2 rfl rfl)
  obtain ⟨b, ka2, kc2, hke2, hb, hlb⟩ : ∃ l a c, Value.slice a2 len2 cap2 = .slice a l.length c ∧ SrcV W 1 (.slice a2 len2 cap2) l.length (strsV l) ∧ l.length ≤ 9223372036854775807 := by
    obtain ⟨fuel, hf⟩ := h2
    exact open_strsV hf
  rw [hke2] at hb
  injection hke2 with e1 e2 e3
  subst e1 e2 e3
  clear hA0 hval0
  simp only [List.append_nil] at hW' hlt
  refine (jcuts_law _ _ a b n hn hla hlb (fun _ _ e => by injection e with _ _ e; rw [← e]; exact hca) W ha hb hgt).mono fun e W' ⟨he, hb⟩ => ?_
  subst he
  refine ⟨_, rfl, _, _, _, [], p0 ++ p1 ++ p2, [], hW', ?_, ?_, rfl, hb.frame _, fun h => by cases h⟩
  · exact trodAll_mk1 (shut_bool Tryz.underlying4 _)
  · have key := trodAll_mk3 (Below.trod jCuts_laidOut jCuts_read0.1 jCuts_read0.2 h0 hb (fun x hx => hlt x (by simp [hx]))) (Below.trod jCuts_laidOut jCuts_read1.1 jCuts_read1.2 h1 hb (fun x hx => hlt x (by simp [hx]))) (Below.trod jCuts_laidOut jCuts_read0.1 jCuts_read0.2 h2 hb (fun x hx => hlt x (by simp [hx])))
    simp only [← List.append_assoc] at key
    exact key

/-- JournalCuts. -/
theorem jCuts_said : Rows.JournalCutsSaid :=
  OpenClaim.holds_of_cond 5 Tryz.f5 rfl rfl rfl rfl rfl rfl rfl ⟨rfl, rfl, rfl, rfl, rfl⟩ rfl rfl rfl rfl rfl (by kernel_rfl) Tryz.func5 (by kernel_rfl)
    (of_decide_eq_true (by kernel_rfl)) (by unfold Func.isWrapper; rw [if_neg (of_decide_eq_false (by kernel_rfl))]; exact ⟨rfl, rfl⟩)
    (fun os started H enc _ F => by rw [OpenClaim.pre_eq_preRow]; exact jCuts_lifted os started H enc F)

theorem jCuts_plain (f : FuncId) (fn : Func) (hf : Tryz.pinned.checked.prog.funcNamed "errata/erratalaw06.JournalCuts" = some f) (hfn : Tryz.pinned.checked.prog.funcs[f]? = some fn) :
    true = Tryz.pinned.checked.prog.looks [] ∧ ∀ (j : Nat) t, fn.params[j]? = some t → Tryz.pinned.checked.prog.wantsStandIn t = false := by
  obtain rfl : f = 5 := Option.some.inj ((show Tryz.prog.funcNamed "errata/erratalaw06.JournalCuts" = some 5 by kernel_rfl).symm.trans hf) |>.symm
  obtain rfl : fn = Tryz.f5 := (Option.some.inj (Tryz.func5.symm.trans hfn)).symm
  refine ⟨by kernel_rfl, fun j t ht => ?_⟩
  rw [Tryz.params5] at ht
  have hm : t ∈ [32, 3, 32] := by simpa using Array.mem_of_getElem? ht
  have hall : ([32, 3, 32].all fun u => !Tryz.prog.wantsStandIn u) = true := by kernel_rfl
  exact (show Tryz.prog.wantsStandIn t = false by simpa using List.all_eq_true.1 hall t hm)

/-- JournalCuts. -/
theorem jCuts_holds : Rows.JournalCutsCardSaid :=
  Claim7.holds_tied_plain_at .later [] _ _ _ _ jCuts_said (fun _ h => by cases h) (by kernel_rfl) (fun _ h => by cases h) journalCuts_row_tie rfl ⟨rfl, rfl⟩ (by kernel_rfl) rfl jCuts_plain (by kernel_rfl)
end Go.Proofs.YtljgfnglknpfaaaGreatDoor
