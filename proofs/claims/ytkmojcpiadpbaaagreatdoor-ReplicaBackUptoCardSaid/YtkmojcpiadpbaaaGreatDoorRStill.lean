/-
  A region whose operations but the last few only read, walked once, by the quick steps of a quiet walk.
-/
import Derived.Test.YtkmojcpiadpbaaaGreatDoorRAdv
import Derived.StillTailTactics
namespace Go.Proofs.YtkmojcpiadpbaaaGreatDoor
open Go

theorem still_of_quiet {P : Program} {ops : Array Oper} {w : World} {Q : Act → Prop} : ∀ (l : List Oper) (a : Act), wpQuiet P ops (fun w' => w' = w) Q l a → wpStill P ops w Q l a
  | [], _, h => h
  | o :: rest, a, h => by
    unfold wpQuiet at h
    unfold wpStill
    by_cases hw : Region.wanted o (yielded ops a.tmps) = true
    · rw [if_pos hw] at h ⊢
      obtain ⟨v, h1, h2⟩ := h
      have h1 := h1 w rfl
      have h2 := still_of_quiet rest _ h2
      unfold Oper.still
      unfold Oper.quietAt at h1
      cases hr : (execOp a.eval o).run P w with
      | ok n w' =>
        rw [hr] at h1
        cases n with
        | value u =>
          obtain ⟨e1, e2⟩ := h1
          exact ⟨e1, by rw [e2]; exact h2⟩
        | skip =>
          obtain ⟨e1, e2⟩ := h1
          exact ⟨e1, by rw [← e2]; exact h2⟩
        | enter f args =>
          obtain ⟨e1, hc⟩ := h1
          exact ⟨e1, v, hc, h2⟩
        | _ => exact h1.elim
      | halt x w' =>
        rw [hr] at h1
        exact h1.elim
    · rw [if_neg hw] at h ⊢
      exact still_of_quiet rest _ h
end Go.Proofs.YtkmojcpiadpbaaaGreatDoor
