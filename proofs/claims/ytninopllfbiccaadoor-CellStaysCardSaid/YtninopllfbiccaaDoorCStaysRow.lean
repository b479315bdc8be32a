/-
  CellStays is true for every input: the row. Condition: the program's listed table is as its text lays it (tied).
-/
import Derived.Test.YtninopllfbiccaaDoorCStays
import Derived.Test.YtninopllfbiccaaDoorCOp
namespace Go.Proofs.YtninopllfbiccaaDoor
set_option maxRecDepth 100000
open Go Go.RowKit Go.ChangeShapes Go.WideShapes Go.ChangeAt Dk
open Go.ChangeMaps (open_string shut_string)

theorem cStays_laidOut : laidOutB Tryd.prog = true := by kernel_rfl
theorem cStays_read0 : Tryd.prog.readableRec 22 = true ∧ 22 < Tryd.prog.types.size := ⟨by kernel_rfl, of_decide_eq_true (by kernel_rfl)⟩
theorem cStays_read1 : Tryd.prog.readableRec 9 = true ∧ 9 < Tryd.prog.types.size := ⟨by kernel_rfl, of_decide_eq_true (by kernel_rfl)⟩
theorem cStays_read2 : Tryd.prog.readableRec 36 = true ∧ 36 < Tryd.prog.types.size := ⟨by kernel_rfl, of_decide_eq_true (by kernel_rfl)⟩

set_option maxRecDepth 100000 in
theorem cStays_lifted (os : Os) (started : os.Started) (H : Type) (enc : TypeId × Value → H) (F : Stop.Interp) :
    ReturnsInHanded {} Tryd.checked os 6 .any ((OpenSpec.ofChange Rows.cellStaysSpec).preRow enc Tryd.prog Tryd.f6 Rows.cellStaysRow.domain false Rows.cellStaysRow.laid) (((OpenSpec.ofChange Rows.cellStaysSpec).at F).post enc Tryd.prog Tryd.f6 false true false false) := by
  have hx : ∃ places, DataW.whole enc Tryd.prog ((World.laidAll Tryd.prog os Rows.cellStaysRow.laid).forCall (fun _ _ => 0) ⟨#[], #[.slice none 0 0, .string ⟨#[]⟩, .slice none 0 0, .slice none 0 0], []⟩).memory Tryd.f6.params.toList Rows.cellStaysSpec.vars false #[Value.slice none 0 0, .string ⟨#[]⟩, .slice none 0 0, .slice none 0 0].toList 8 = some ([.nil, .lit (.string []), .nil, .nil], [], places) := ⟨[], by kernel_rfl⟩
  obtain ⟨places, hx⟩ := hx
  refine returnsInHanded_of_row (C := Tryd.checked) (s := OpenSpec.ofChange Rows.cellStaysSpec) own started (by kernel_rfl) Tryd.func6
    (witness_row_atRef (enc := enc) (C := Tryd.checked) false (World.laidAll Tryd.prog os Rows.cellStaysRow.laid) #[.slice none 0 0, .string ⟨#[]⟩, .slice none 0 0, .slice none 0 0] (World.laidAll_os _ _ _) (by kernel_rfl) (by kernel_rfl) (by kernel_rfl)
      (OpenSpec.preRow_of_cond 8 hx (by kernel_rfl) (fun k hk => by cases hk) (by kernel_rfl) (laid_met os _))) ?_
  intro W base args ds gs before hval0 hW _ _ _ hL _ _
  have htab := tab_of_laid hL
  have hval : ∀ (j : Nat) t v, Tryd.f6.params[j]? = some t → args[j]? = some v → Value.okWide Tryd.prog W .any base t v := hval0
  have hW' := hW
  have hlt := hW.lt
  obtain ⟨p, q, hA0, hV, rfl, hfz, hnd⟩ := hW
  have hA : DataW.TrodAll enc Tryd.prog W 0 (fun _ => true) true Tryd.f6.params.toList args.toList ds p := hA0
  rw [Tryd.params6] at hA hval
  obtain ⟨v0, v1, v2, v3, d0, d1, d2, d3, p0, p1, p2, p3, rfl, rfl, rfl, h0, h1, h2, h3⟩ := trodAll_four hA
  obtain ⟨rfl, rfl⟩ := trodVars_none hV
  obtain ⟨a0, len0, cap0, rfl⟩ := okWide_slice Tryd.underlying22 (hval 0 22 v0 rfl rfl)
  obtain ⟨l, hl⟩ : ∃ l, OpsIn W (.slice a0 len0 cap0) l := by
    obtain ⟨fuel, hf⟩ := h0
    exact open_ops hf
  obtain ⟨s1, e1, q1⟩ : ∃ s : ByteArray, v1 = .string s ∧ s.size ≤ maxLen := by
    obtain ⟨s, e1, _, _, e2⟩ := open_string Tryd.underlying9 (hval 1 9 v1 rfl rfl) h1
    exact ⟨s, e1, e2⟩
  subst e1
  obtain ⟨s, rfl⟩ : ∃ b : List UInt8, s1 = ⟨b.toArray⟩ := ⟨s1.data.toList, by cases s1; simp⟩
  have hs : s.length ≤ 9223372036854775807 := by have : (⟨s.toArray⟩ : ByteArray).size ≤ maxLen := q1; rw [ba_size'] at this; exact this
  obtain ⟨a2, len2, cap2, rfl⟩ := okWide_slice Tryd.underlying36 (hval 2 36 v2 rfl rfl)
  obtain ⟨one, ka2, kc2, hke2, hone, hlone, hione⟩ : ∃ l a c, Value.slice a2 len2 cap2 = .slice a l.length c ∧ SrcV W 1 (.slice a2 len2 cap2) l.length (intsV l) ∧ l.length ≤ 9223372036854775807 ∧ ∀ k ∈ l, In64 k := by
    obtain ⟨fuel, hf⟩ := h2
    exact open_intsV hf
  rw [hke2] at hone
  injection hke2 with e1 e2 e3
  subst e1 e2 e3
  obtain ⟨a3, len3, cap3, rfl⟩ := okWide_slice Tryd.underlying36 (hval 3 36 v3 rfl rfl)
  obtain ⟨two, ka3, kc3, hke3, htwo, hltwo, hitwo⟩ : ∃ l a c, Value.slice a3 len3 cap3 = .slice a l.length c ∧ SrcV W 1 (.slice a3 len3 cap3) l.length (intsV l) ∧ l.length ≤ 9223372036854775807 ∧ ∀ k ∈ l, In64 k := by
    obtain ⟨fuel, hf⟩ := h3
    exact open_intsV hf
  rw [hke3] at htwo
  injection hke3 with e1 e2 e3
  subst e1 e2 e3
  clear hA0 hval0
  simp only [List.append_nil] at hW' hlt
  refine (stays_law _ l s one two hs hlone hione hltwo hitwo _ _ _ _ W hl hone htwo htab).mono fun e W' ⟨he, hb⟩ => ?_
  subst he
  refine ⟨_, rfl, _, _, _, [], p0 ++ p1 ++ p2 ++ p3, [], hW', ?_, ?_, rfl, hb.frame _, fun h => by cases h⟩
  · exact trodAll_mk1 (shut_bool Tryd.underlying4 _)
  · have key := trodAll_mk4 (Below.trod cStays_laidOut cStays_read0.1 cStays_read0.2 h0 hb (fun x hx => hlt x (by simp [hx]))) (Below.trod cStays_laidOut cStays_read1.1 cStays_read1.2 h1 hb (fun x hx => hlt x (by simp [hx]))) (Below.trod cStays_laidOut cStays_read2.1 cStays_read2.2 h2 hb (fun x hx => hlt x (by simp [hx]))) (Below.trod cStays_laidOut cStays_read2.1 cStays_read2.2 h3 hb (fun x hx => hlt x (by simp [hx])))
    simp only [← List.append_assoc] at key
    exact key

/-- CellStays. -/
theorem cStays_said : Rows.CellStaysSaid :=
  OpenClaim.holds_of_cond 6 Tryd.f6 rfl rfl rfl rfl rfl rfl rfl ⟨rfl, rfl, rfl, rfl, rfl⟩ rfl rfl rfl rfl rfl (by kernel_rfl) Tryd.func6 (by kernel_rfl)
    (of_decide_eq_true (by kernel_rfl)) (by unfold Func.isWrapper; rw [if_neg (of_decide_eq_false (by kernel_rfl))]; exact ⟨rfl, rfl⟩)
    (fun os started H enc _ F => by rw [OpenClaim.pre_eq_preRow]; exact cStays_lifted os started H enc F)

theorem cStays_plain (f : FuncId) (fn : Func) (hf : Tryd.pinned.checked.prog.funcNamed "errata/erratalaw05.CellStays" = some f) (hfn : Tryd.pinned.checked.prog.funcs[f]? = some fn) :
    false = Tryd.pinned.checked.prog.looks [] ∧ ∀ (j : Nat) t, fn.params[j]? = some t → Tryd.pinned.checked.prog.wantsStandIn t = false := by
  obtain rfl : f = 6 := Option.some.inj ((show Tryd.prog.funcNamed "errata/erratalaw05.CellStays" = some 6 by kernel_rfl).symm.trans hf) |>.symm
  obtain rfl : fn = Tryd.f6 := (Option.some.inj (Tryd.func6.symm.trans hfn)).symm
  refine ⟨by kernel_rfl, fun j t ht => ?_⟩
  rw [Tryd.params6] at ht
  have hm : t ∈ [22, 9, 36, 36] := by simpa using Array.mem_of_getElem? ht
  have hall : ([22, 9, 36, 36].all fun u => !Tryd.prog.wantsStandIn u) = true := by kernel_rfl
  exact (show Tryd.prog.wantsStandIn t = false by simpa using List.all_eq_true.1 hall t hm)

/-- CellStays. -/
theorem cStays_holds : Rows.CellStaysCardSaid :=
  Claim7.holds_tied_plain_at .later [] _ _ _ _ cStays_said (fun _ h => by cases h) (by kernel_rfl) (fun _ h => by cases h) cellStays_row_tie rfl ⟨rfl, rfl⟩ (by kernel_rfl) rfl cStays_plain (by kernel_rfl)
end Go.Proofs.YtninopllfbiccaaDoor
