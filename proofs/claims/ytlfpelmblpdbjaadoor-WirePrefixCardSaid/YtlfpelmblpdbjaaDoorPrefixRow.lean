/-
  WirePrefix is true for every two values: the row and its card. Conditions: the listed variables of the library are as the program's text lays them (tied).
-/
import Derived.Test.YtlfpelmblpdbjaaDoorPrefixB
import Derived.Test.YtlfpelmblpdbjaaDoorOpen
import Derived.Test.YtlfpelmblpdbjaaDoorGood
namespace Go.Proofs.YtlfpelmblpdbjaaDoor
open Go Go.RowKit Go.ChangeShapes Go.WideShapes Go.ChangeAt
open Go.ChangeMaps (open_string shut_string)

theorem prefix_laidOut : laidOutB Tryd.prog = true := by kernel_rfl

theorem prefix_read0 : Tryd.prog.readableRec 25 = true ∧ 25 < Tryd.prog.types.size := ⟨by kernel_rfl, of_decide_eq_true (by kernel_rfl)⟩
theorem prefix_read1 : Tryd.prog.readableRec 25 = true ∧ 25 < Tryd.prog.types.size := ⟨by kernel_rfl, of_decide_eq_true (by kernel_rfl)⟩

set_option maxRecDepth 100000 in
theorem prefix_lifted (os : Os) (started : os.Started) (H : Type) (enc : TypeId × Value → H) (F : Stop.Interp) :
    ReturnsInHanded {} Tryd.checked os 7 .any ((OpenSpec.ofChange Rows.wirePrefixSpec).preRow enc Tryd.prog Tryd.f7 Rows.wirePrefixRow.domain false Rows.wirePrefixRow.laid) (((OpenSpec.ofChange Rows.wirePrefixSpec).at F).post enc Tryd.prog Tryd.f7 false true false false) := by
  have hx : ∃ places, DataW.whole enc Tryd.prog ((World.doorLaid Tryd.prog 200 os).forCall (fun _ _ => 0) ⟨#[], #[.agg #[.int .i64 0, .int .i64 0, .string ⟨#[]⟩, .slice none 0 0, .slice none 0 0], .agg #[.int .i64 0, .int .i64 0, .string ⟨#[]⟩, .slice none 0 0, .slice none 0 0]], []⟩).memory Tryd.f7.params.toList Rows.wirePrefixSpec.vars false #[Value.agg #[.int .i64 0, .int .i64 0, .string ⟨#[]⟩, .slice none 0 0, .slice none 0 0], .agg #[.int .i64 0, .int .i64 0, .string ⟨#[]⟩, .slice none 0 0, .slice none 0 0]].toList 8 = some ([.agg [.lit (.int .i64 0), .lit (.int .i64 0), .lit (.string []), .nil, .nil], .agg [.lit (.int .i64 0), .lit (.int .i64 0), .lit (.string []), .nil, .nil]], [], places) := ⟨[], by kernel_rfl⟩
  obtain ⟨places, hx⟩ := hx
  refine returnsInHanded_of_row (C := Tryd.checked) (s := OpenSpec.ofChange Rows.wirePrefixSpec) own started (by kernel_rfl) Tryd.func7
    (witness_row_atRef (enc := enc) (C := Tryd.checked) false (World.doorLaid Tryd.prog 200 os) #[.agg #[.int .i64 0, .int .i64 0, .string ⟨#[]⟩, .slice none 0 0, .slice none 0 0], .agg #[.int .i64 0, .int .i64 0, .string ⟨#[]⟩, .slice none 0 0, .slice none 0 0]] rfl (by kernel_rfl) (by kernel_rfl) (by kernel_rfl)
      (OpenSpec.preRow_of_cond 8 hx (by kernel_rfl) (fun k hk => by cases hk) (by kernel_rfl) (door_met os _))) ?_
  intro W base args ds gs before hval0 hW _ _ _ hL hsh _
  have hval : ∀ (j : Nat) t v, Tryd.f7.params[j]? = some t → args[j]? = some v → Value.okWide Tryd.prog W .any base t v := hval0
  have hW' := hW
  have hlt := hW.lt
  obtain ⟨p, q, hA0, hV, rfl, hfz, hnd⟩ := hW
  have hA : DataW.TrodAll enc Tryd.prog W 0 (fun _ => true) true Tryd.f7.params.toList args.toList ds p := hA0
  rw [Tryd.params7] at hA hval
  obtain ⟨v0, v1, d0, d1, p0, p1, rfl, rfl, rfl, h0, h1⟩ := trodAll_two hA
  obtain ⟨rfl, rfl⟩ := trodVars_none hV
  obtain ⟨y0, u0, z0, hv0, hy0⟩ : ∃ (y : Val) (u z : Value), v0 = y.agg u z ∧ ValAt W y u z := by
    obtain ⟨fuel, hf⟩ := h0
    obtain ⟨y, u, z, hc, hy⟩ := open_val hf
    obtain ⟨cs, hcv, _⟩ := okWide_struct Tryd.underlying25 (hval 0 25 v0 rfl rfl)
    refine ⟨y, u, z, ?_, hy⟩
    rw [hcv] at hc ⊢
    have hcs : cs.toList = [.int .i64 y.k, .int .i64 y.n, .string ⟨y.s.toArray⟩, u, z] := hc
    have hce : cs = #[.int .i64 y.k, .int .i64 y.n, .string ⟨y.s.toArray⟩, u, z] := Array.ext' hcs
    rw [hce]
    rfl
  subst hv0
  obtain ⟨y1, u1, z1, hv1, hy1⟩ : ∃ (y : Val) (u z : Value), v1 = y.agg u z ∧ ValAt W y u z := by
    obtain ⟨fuel, hf⟩ := h1
    obtain ⟨y, u, z, hc, hy⟩ := open_val hf
    obtain ⟨cs, hcv, _⟩ := okWide_struct Tryd.underlying25 (hval 1 25 v1 rfl rfl)
    refine ⟨y, u, z, ?_, hy⟩
    rw [hcv] at hc ⊢
    have hcs : cs.toList = [.int .i64 y.k, .int .i64 y.n, .string ⟨y.s.toArray⟩, u, z] := hc
    have hce : cs = #[.int .i64 y.k, .int .i64 y.n, .string ⟨y.s.toArray⟩, u, z] := Array.ext' hcs
    rw [hce]
    rfl
  subst hv1
  clear hA0 hval0
  simp only [List.append_nil] at hW' hlt
  have good := good_of_laid hL hsh
  refine (prefix_c y0 y1 _ _ _ _ W good hy0 hy1).mono fun e W' ⟨he, hb⟩ => ?_
  subst he
  refine ⟨_, rfl, _, _, _, [], p0 ++ p1, [], hW', ?_, ?_, rfl, hb.frame _, fun h => by cases h⟩
  · exact trodAll_mk1 (shut_bool Tryd.underlying4 _)
  · exact trodAll_mk2 (Below.trod prefix_laidOut prefix_read0.1 prefix_read0.2 h0 hb (fun x hx => hlt x (by simp [hx]))) (Below.trod prefix_laidOut prefix_read1.1 prefix_read1.2 h1 hb (fun x hx => hlt x (by simp [hx])))

theorem prefix_said : Rows.WirePrefixSaid :=
  OpenClaim.holds_of_cond 7 Tryd.f7 rfl rfl rfl rfl rfl rfl rfl ⟨rfl, rfl, rfl, rfl, rfl⟩ rfl rfl rfl rfl rfl (by kernel_rfl) Tryd.func7 (by kernel_rfl)
    (of_decide_eq_true (by kernel_rfl)) (by unfold Func.isWrapper; rw [if_neg (of_decide_eq_false (by kernel_rfl))]; exact ⟨rfl, rfl⟩)
    (fun os started H enc _ F => by rw [OpenClaim.pre_eq_preRow]; exact prefix_lifted os started H enc F)

theorem prefix_plain (f : FuncId) (fn : Func) (hf : Tryd.pinned.checked.prog.funcNamed "errata/erratalaw01.WirePrefix" = some f) (hfn : Tryd.pinned.checked.prog.funcs[f]? = some fn) :
    true = Tryd.pinned.checked.prog.looks [] ∧ ∀ (j : Nat) t, fn.params[j]? = some t → Tryd.pinned.checked.prog.wantsStandIn t = false := by
  obtain rfl : f = 7 := Option.some.inj ((show Tryd.prog.funcNamed "errata/erratalaw01.WirePrefix" = some 7 by kernel_rfl).symm.trans hf) |>.symm
  obtain rfl : fn = Tryd.f7 := (Option.some.inj (Tryd.func7.symm.trans hfn)).symm
  refine ⟨by kernel_rfl, fun j t ht => ?_⟩
  rw [Tryd.params7] at ht
  have hm : t ∈ [25, 25] := by simpa using Array.mem_of_getElem? ht
  have hall : ([25, 25].all fun u => !Tryd.prog.wantsStandIn u) = true := by kernel_rfl
  exact (show Tryd.prog.wantsStandIn t = false by simpa using List.all_eq_true.1 hall t hm)

/-- WirePrefix. -/
theorem prefix_holds : Rows.WirePrefixCardSaid :=
  Claim7.holds_tied_plain_at .later [] _ _ _ _ prefix_said (fun _ h => by cases h) (by kernel_rfl) (fun _ h => by cases h) wirePrefix_row_tie rfl ⟨rfl, rfl⟩ (by kernel_rfl) rfl prefix_plain (by kernel_rfl)
end Go.Proofs.YtlfpelmblpdbjaaDoor
