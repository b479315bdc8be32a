/-
  What the small functions of package producer return: within, named, ascending, right, Right, stored, follows.
-/
import Derived.Test.YtmgpfkckafdbmaaQBase
import Derived.Lib.MinMax
namespace Go.Proofs.Ytmgpfkckafdbmaa
set_option maxRecDepth 100000
open Go Go.RowKit Pq

theorem within_c (n : Int) (w : World) : Calls Try.prog 38 #[.int .i64 n] w fun e w' => e = .returned (.bool (decide (inB n))) ∧ w' = w := by
  by_cases h : 0 ≤ n
  · by_cases h2 : n ≤ 1099511627776
    · have e : decide (inB n) = true := decide_eq_true ⟨h, h2⟩
      rw [e]
      clear e
      go_enter Try.func38, Try.ntmps38
      go_wp2_with fail
      go_ret
      exact ⟨rfl, rfl⟩
    · have e : decide (inB n) = false := decide_eq_false (fun f => h2 f.2)
      rw [e]
      clear e
      go_enter Try.func38, Try.ntmps38
      go_wp2_with fail
      go_ret
      exact ⟨rfl, rfl⟩
  · have e : decide (inB n) = false := decide_eq_false (fun f => h f.1)
    rw [e]
    clear e
    go_enter Try.func38, Try.ntmps38
    go_wp2_with fail
    go_ret
    exact ⟨rfl, rfl⟩
theorem named_c (n : Int) (w : World) : Calls Try.prog 36 #[.int .i64 n] w fun e w' => e = .returned (.bool (decide (inA n))) ∧ w' = w := by
  have q := within_c n w
  by_cases h : inB n
  · rw [decide_eq_true h] at q
    have Q := Lib.hid q
    clear q
    by_cases h2 : n < 1099511627776
    · have e : decide (inA n) = true := decide_eq_true ⟨h.1, by omega⟩
      rw [e]
      clear e h
      go_enter Try.func36, Try.ntmps36
      go_wp2_with (go_at_call 38; refine Q.out.mono ?_; rintro e w1 ⟨rfl, hw⟩; rw [hw]; clear hw)
      go_ret
      exact ⟨rfl, rfl⟩
    · have e : decide (inA n) = false := decide_eq_false (fun f => h2 (by have := f.2; omega))
      rw [e]
      clear e h
      go_enter Try.func36, Try.ntmps36
      go_wp2_with (go_at_call 38; refine Q.out.mono ?_; rintro e w1 ⟨rfl, hw⟩; rw [hw]; clear hw)
      go_ret
      exact ⟨by rw [decide_eq_false (show ¬ n < 1099511627776 by omega)]; rfl, rfl⟩
  · rw [decide_eq_false h] at q
    have Q := Lib.hid q
    clear q
    have e : decide (inA n) = false := decide_eq_false (fun f => h ⟨f.1, by have := f.2; omega⟩)
    rw [e]
    clear e h
    go_enter Try.func36, Try.ntmps36
    go_wp2_with (go_at_call 38; refine Q.out.mono ?_; rintro e w1 ⟨rfl, hw⟩; rw [hw]; clear hw)
    go_ret
    exact ⟨rfl, rfl⟩
instance : ∀ (m : Int) (l : List Int), Decidable (Asc m l)
  | _, [] => isTrue trivial
  | m, x :: l => by
    have := instDecidableAsc x l
    unfold Asc
    infer_instance
theorem asc_drop {l : List Int} {k : Nat} {x : Int} (hx : l[k]? = some x) (m : Int) : Asc m (l.drop k) ↔ m < x ∧ inB x ∧ Asc x (l.drop (k + 1)) := by
  obtain ⟨h1, h2⟩ := List.getElem?_eq_some_iff.1 hx
  rw [List.drop_eq_getElem_cons h1, h2]
  exact Iff.rfl
theorem okP_iff (p : P) : OkP p ↔ inB p.ep ∧ inB p.nx ∧ (p.last.length : Int) = min p.nx 20 ∧ Asc (-1) p.last := ⟨fun h => ⟨h.ep, h.nx, h.len, h.asc⟩, fun h => ⟨h.1, h.2.1, h.2.2.1, h.2.2.2⟩⟩
instance (p : P) : Decidable (OkP p) := decidable_of_iff _ (okP_iff p).symm
instance : ∀ (m : Int) (s : List P), Decidable (Tab m s)
  | _, [] => isTrue trivial
  | m, p :: s => by
    have := instDecidableTab p.id s
    unfold Tab
    infer_instance
instance (s : List P) : Decidable (Right s) := by unfold Right; infer_instance
theorem decide_and5 {A B C D E : Prop} [Decidable A] [Decidable B] [Decidable C] [Decidable D] [Decidable E] {X : Prop} [Decidable X] (h : X ↔ A ∧ B ∧ C ∧ D ∧ E) : decide X = (decide A && (decide B && (decide C && (decide D && decide E)))) := by
  rw [← Bool.decide_and, ← Bool.decide_and, ← Bool.decide_and, ← Bool.decide_and]
  exact decide_eq_decide.2 h
end Go.Proofs.Ytmgpfkckafdbmaa
