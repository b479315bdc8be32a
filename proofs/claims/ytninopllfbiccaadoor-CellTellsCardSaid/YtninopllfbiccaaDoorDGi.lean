/-
  The reference's disk: comes, Write, Sync, Truncate, Arm, New.
-/
import Derived.Test.YtninopllfbiccaaDoorDGh
namespace Go.Proofs.YtninopllfbiccaaDoor
set_option maxRecDepth 100000
open Go Go.RowKit Go.Maps Dk

theorem RAt.keepAt {w : World} {r : Nat} {fv qv kv : Value} {X : R} (h : RAt w r fv qv kv X) : KeepAt w kv X.keep (fun k => k = r ∨ fv.ownBlock = some k ∨ qv.ownBlock = some k) := by
  obtain ⟨a, c, rfl, _⟩ := own_shape h.keep
  refine ⟨a, c, rfl, fun hne => ?_⟩
  obtain ⟨g, rfl, hg⟩ := own_at h.keep rfl (List.length_pos_iff.2 hne)
  refine ⟨g, 0, rfl, fun e => ?_, fun j x hx => ?_⟩
  · rcases e with e | e | e
    · exact h.nk (by rw [← e]; exact hg)
    · exact h.fk g e hg
    · exact h.qk g e hg
  · have := own_cell h.keep rfl j (.int .i64 x) (by simp only [intsV, List.getElem?_map, hx]; rfl)
    rw [Lib.add_plain] at this
    exact this
theorem addR_rest (X : R) (f a : Nat) (s : List UInt8) : (addR X f a s).lost = X.lost ∧ (addR X f a s).down = X.down ∧ (addR X f a s).left = X.left ∧ (addR X f a s).keep = X.keep := by
  unfold addR
  split <;> exact ⟨rfl, rfl, rfl, rfl⟩
def lessR (X : R) : R := { X with left := X.left - 1 }
def comesR (X : R) (f a : Int) (s : List UInt8) : R :=
  if X.down || decide (X.left = 0) then X else if 0 < (lessR X).left then lessR X else if ok f && fitsM a s then crashR (addR (lessR X) f.toNat a.toNat s) X.keep else crashR (lessR X) X.keep
/-- What is asked of a state after a step, for the next one. -/
theorem lessR_ok {X : R} (h : X.Ok) : (lessR X).Ok := ⟨h.range, h.nodup, h.small, h.len, h.sec, h.lost, by show ((X.left - 1 : Nat) : Int) ≤ _; have := h.left; omega, h.keepIn, h.keepLen⟩

set_option maxHeartbeats 4000000 in
set_option maxRecDepth 100000 in
theorem rcomes_c (r : Nat) (fv qv kv : Value) (X : R) (hX : X.Ok) (f a : Int) (s : List UInt8) (hf : In64 f) (ha : In64 a) (hs : s.length ≤ 1000000) (hA : ok f = true → fitsM a s = true → (addR (lessR X) f.toNat a.toNat s).Ok) (w : World) (h : RAt w r fv qv kv X) :
    Calls Tryd.prog 52 #[.pointer (some ⟨r, 0, none⟩), .int .i64 f, .int .i64 a, .string ⟨s.toArray⟩] w fun e w' => e = .returned (.tuple #[]) ∧ RStep w w' r fv qv kv (comesR X f a s) := by
  unfold comesR
  have c3 := h.c3
  have c4 := h.c4
  have z4 := h.z 4
  have c5 := h.c5
  cases hd : X.down with
  | true =>
    rw [hd] at c3
    have H := Lib.hid h
    clear h hA
    go_enter Tryd.func52, Tryd.ntmps52
    go_wp2_with fail
    refine bodyPost_ret (results_none rfl _ _ _) rfl ?_
    exact ⟨rfl, RStep.below H.out (Below.refl _ _)⟩
  | false =>
    rw [hd] at c3
    obtain ⟨L, hL⟩ : ∃ L, L = X.left := ⟨_, rfl⟩
    have hLb : (L : Int) ≤ 9223372036854775807 := by rw [hL]; exact hX.left
    rw [← hL] at c4
    by_cases hl0 : L = 0
    · have e : decide (X.left = 0) = true := by rw [← hL]; exact decide_eq_true hl0
      rw [e]
      subst hl0
      have H := Lib.hid h
      clear h hA e hL
      go_enter Tryd.func52, Tryd.ntmps52
      go_wp2_with fail
      refine bodyPost_ret (results_none rfl _ _ _) rfl ?_
      exact ⟨rfl, RStep.below H.out (Below.refl _ _)⟩
    · have e : decide (X.left = 0) = false := by rw [← hL]; exact decide_eq_false hl0
      rw [e]
      clear e
      have hl0' : ¬ (L : Int) = 0 := by omega
      obtain ⟨M, hM⟩ : ∃ M, M = L - 1 := ⟨_, rfl⟩
      have hM1 : (L : Int) - 1 = (M : Int) := by omega
      have hYl : (lessR X).left = M := by show X.left - 1 = M; rw [hM, hL]
      rw [hYl]
      obtain ⟨W1, hW1⟩ : ∃ W1, W1 = w.setCell ⟨r, 4, none⟩ (.int .i64 (M : Int)) := ⟨_, rfl⟩
      have hk1 : Kept (fun k => k = r) w W1 := by rw [hW1]; exact Kept.set r 4 w _
      have hR1 : RAt W1 r fv qv kv (lessR X) := by
        have := h.recell hk1 X.lost M X.down (by rw [hW1]; exact cells6_set h.cell 4 (.int .i64 (M : Int)) (by omega))
        have e : lessR X = { X with lost := X.lost, left := M, down := X.down } := by unfold lessR; rw [hM, hL]
        rw [e]; exact this
      have hst : RStep w W1 r fv qv kv (lessR X) := RStep.mk hR1 (fun k e => Or.inl e) (fun k e => Or.inl e) (hk1.mono (fun k _ e => Or.inl e))
      have j4 : W1.cell? ⟨r, 4, none⟩ = some (.int .i64 (M : Int)) := by rw [hR1.c4, hYl]
      have HST := Lib.hid hst
      have HR1 := Lib.hid hR1
      have HK1 := Lib.hid hk1
      have hYo := lessR_ok hX
      clear h hst hk1 hL hM
      by_cases hm0 : 0 < M
      · have hm0' : (0 : Int) < (M : Int) := by omega
        rw [if_neg (by simp), if_pos hm0]
        clear hR1 hA
        go_enter Tryd.func52, Tryd.ntmps52
        go_wp2_with fail
        refine bodyPost_ret (results_none rfl _ _ _) rfl ?_
        rw [← hW1]
        exact ⟨rfl, HST.out⟩
      · have hm0' : ¬ (0 : Int) < (M : Int) := by omega
        rw [if_neg (by simp), if_neg hm0]
        have FI := Lib.hid (fun wx => rfits_c a s hs wx)
        have kvs : ∃ ka kc, kv = .slice ka X.keep.length kc := by
          obtain ⟨ka, kc, e, _⟩ := own_shape hR1.keep
          exact ⟨ka, kc, e⟩
        obtain ⟨ka, kc, rfl⟩ := kvs
        by_cases hf0 : f < 0
        · have e : ok f = false := by unfold ok; exact decide_eq_false (by omega)
          rw [e, if_neg (by simp)]
          clear e
          have q := rcrash_c r fv qv (.slice ka X.keep.length kc) (lessR X) hYo (.slice ka X.keep.length kc) X.keep W1 hR1 (show KeepAt W1 (.slice ka X.keep.length kc) X.keep _ from hR1.keepAt) (by have := hX.keepLen; omega)
          have Q := Lib.hid q
          have j5 := hR1.c5
          clear hR1 hA q
          go_enter Tryd.func52, Tryd.ntmps52
          go_wp2_with (first | (go_at_call 53; refine (FI.out _).mono ?_; rintro e w2 ⟨rfl, h2⟩; rw [h2]; clear h2) | (go_at_call 21; (try rw [← hW1]); refine Q.out.mono ?_; rintro e w3 ⟨rfl, hs3⟩))
          go_end0
          exact ⟨rfl, RStep.trans HR1.out (fun k e => Or.inl e) (fun k e => Or.inl e) (HK1.out.mono (fun k _ e => Or.inl e)) hs3⟩
        · by_cases hf15 : 15 < f
          · have e : ok f = false := by unfold ok; exact decide_eq_false (by omega)
            rw [e, if_neg (by simp)]
            clear e
            have q := rcrash_c r fv qv (.slice ka X.keep.length kc) (lessR X) hYo (.slice ka X.keep.length kc) X.keep W1 hR1 (show KeepAt W1 (.slice ka X.keep.length kc) X.keep _ from hR1.keepAt) (by have := hX.keepLen; omega)
            have Q := Lib.hid q
            have j5 := hR1.c5
            clear hR1 hA q
            go_enter Tryd.func52, Tryd.ntmps52
            go_wp2_with (first | (go_at_call 53; refine (FI.out _).mono ?_; rintro e w2 ⟨rfl, h2⟩; rw [h2]; clear h2) | (go_at_call 21; (try rw [← hW1]); refine Q.out.mono ?_; rintro e w3 ⟨rfl, hs3⟩))
            go_end0
            exact ⟨rfl, RStep.trans HR1.out (fun k e => Or.inl e) (fun k e => Or.inl e) (HK1.out.mono (fun k _ e => Or.inl e)) hs3⟩
          · have hok : ok f = true := by unfold ok; exact decide_eq_true (by omega)
            cases hfi : fitsM a s with
            | false =>
              rw [if_neg (by simp)]
              have FI := Lib.hid (fun wx => by have := FI.out wx; rw [hfi] at this; exact this)
              have q := rcrash_c r fv qv (.slice ka X.keep.length kc) (lessR X) hYo (.slice ka X.keep.length kc) X.keep W1 hR1 (show KeepAt W1 (.slice ka X.keep.length kc) X.keep _ from hR1.keepAt) (by have := hX.keepLen; omega)
              have Q := Lib.hid q
              have j5 := hR1.c5
              clear hR1 hA q
              go_enter Tryd.func52, Tryd.ntmps52
              go_wp2_with (first | (go_at_call 53; refine (FI.out _).mono ?_; rintro e w2 ⟨rfl, h2⟩; rw [h2]; clear h2) | (go_at_call 21; (try rw [← hW1]); refine Q.out.mono ?_; rintro e w3 ⟨rfl, hs3⟩))
              go_end0
              exact ⟨rfl, RStep.trans HR1.out (fun k e => Or.inl e) (fun k e => Or.inl e) (HK1.out.mono (fun k _ e => Or.inl e)) hs3⟩
            | true =>
              rw [if_pos (by rw [hok]; rfl)]
              have FI := Lib.hid (fun wx => by have := FI.out wx; rw [hfi] at this; exact this)
              have hAo := hA hok hfi
              obtain ⟨m, rfl⟩ := Int.eq_ofNat_of_zero_le (show 0 ≤ f by omega)
              have hfi' := hfi
              unfold fitsM at hfi'
              rw [Bool.and_eq_true, decide_eq_true_eq, decide_eq_true_eq] at hfi'
              obtain ⟨n, rfl⟩ := Int.eq_ofNat_of_zero_le hfi'.1
              simp only [Int.toNat_natCast] at hAo ⊢
              have qa := radd_c r fv qv (.slice ka X.keep.length kc) (lessR X) hYo m n (by omega) s (by omega) W1 hR1
              have hzk : (addR (lessR X) m n s).keep = X.keep := (addR_rest _ _ _ _).2.2.2
              obtain ⟨Z, hZ⟩ : ∃ Z, Z = addR (lessR X) m n s := ⟨_, rfl⟩
              rw [← hZ] at hAo qa hzk ⊢
              have QA := Lib.hid (qa.mono (R' := fun e w2 => e = .returned (.tuple #[]) ∧ ∃ fv2 qv2, w2.cell? ⟨r, 5, none⟩ = some (.slice ka X.keep.length kc) ∧ Hid (∀ w3, RStep w2 w3 r fv2 qv2 (.slice ka X.keep.length kc) (crashR Z X.keep) → RStep w w3 r fv qv (.slice ka X.keep.length kc) (crashR Z X.keep)) ∧
                  Hid (Calls Tryd.prog 21 #[.pointer (some ⟨r, 0, none⟩), .slice ka X.keep.length kc] w2 fun e w' => e = .returned (.tuple #[]) ∧ RStep w2 w' r fv2 qv2 (.slice ka X.keep.length kc) (crashR Z X.keep))) (by
                rintro e w2 ⟨rfl, fv2, qv2, b0, b1, b2, bk⟩
                have hka := b0.keepAt
                rw [hzk] at hka
                refine ⟨rfl, fv2, qv2, b0.c5, Lib.hid (fun w3 h3 => ?_), Lib.hid (rcrash_c r fv2 qv2 _ Z hAo _ X.keep w2 b0 hka (by have := hX.keepLen; omega))⟩
                exact RStep.trans HR1.out (fun k e => Or.inl e) (fun k e => Or.inl e) (HK1.out.mono (fun k _ e => Or.inl e)) (RStep.trans b0 b1 b2 bk h3)))
              clear hR1 hA qa hAo hzk hZ hfi hfi' hok
              go_enter Tryd.func52, Tryd.ntmps52
              go_wp2_with (first | (go_at_call 53; refine (FI.out _).mono ?_; rintro e w2 ⟨rfl, h2⟩; rw [h2]; clear h2) | (go_at_call 54; (try rw [← hW1]); refine QA.out.mono ?_; rintro e w2 ⟨rfl, fv2, qv2, j5, HT, HCR⟩) | (go_at_call 21; refine HCR.out.mono ?_; rintro e w3 ⟨rfl, hs3⟩))
              go_end0
              exact ⟨rfl, HT.out _ hs3⟩
end Go.Proofs.YtninopllfbiccaaDoor
