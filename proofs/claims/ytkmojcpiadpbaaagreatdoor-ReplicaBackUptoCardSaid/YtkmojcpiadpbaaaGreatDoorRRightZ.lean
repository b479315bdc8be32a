/-
  Whether a message is right; the tests.
-/
import Derived.Test.YtkmojcpiadpbaaaGreatDoorRTest
import Derived.Lib.QuietBelow
namespace Go.Proofs.YtkmojcpiadpbaaaGreatDoor
set_option maxRecDepth 100000
open Go Go.RowKit Go.Sort Rp

theorem right_false {id : Int} {m : Msg} (h : ¬ Right id m) : right id m = false := by
  cases hr : right id m with
  | true => exact absurd (right_iff.1 hr) h
  | false => rfl
theorem right_sound {id : Int} {m : Msg} (h : 0 ≤ m.k ∧ m.k ≤ 3 ∧ m.dst = id ∧ m.fr ≠ id ∧ 0 ≤ m.fr ∧ m.fr ≤ 2 ∧ 1 ≤ m.tm ∧ m.tm ≤ 1099511627776 ∧ 0 ≤ m.ix ∧ m.ix ≤ 4000 ∧ 0 ≤ m.pv ∧ m.pv ≤ m.tm ∧ 0 ≤ m.cm ∧ m.cm ≤ 4000 ∧ m.rs.length ≤ 8 ∧ (0 < m.ix ∨ m.pv = 0) ∧ m.ix + m.rs.length ≤ 4000) : right id m = sound m.rs (max 1 m.pv) m.tm := by
  unfold right
  rw [decide_eq_true h, Bool.true_and]
theorem two_true {p q : Prop} [Decidable p] [Decidable q] (h : p ∧ q) : (decide p && decide q) = true := by simp [h]
theorem two_dec {p q : Prop} [Decidable p] [Decidable q] (h : ¬ (p ∧ q)) : (decide p && decide q) = false := by
  rw [Bool.and_eq_false_iff, decide_eq_false_iff_not, decide_eq_false_iff_not]
  by_cases hp : p
  · exact Or.inr (fun hq => h ⟨hp, hq⟩)
  · exact Or.inl hp
theorem within_q (n a b : Int) (v : Bool) (h : (decide (a ≤ n) && decide (n ≤ b)) = v) (W : World) : Calls Tryz.prog 27 #[.int .i64 n, .int .i64 a, .int .i64 b] W fun e w' => e = .returned (.bool v) ∧ Below W.heap.size W w' :=
  (within_c n a b W).mono fun e w' hh => ⟨by rw [hh.1, h], by rw [hh.2]; exact Below.refl _ _⟩
theorem isReplica_q (n : Int) (v : Bool) (h : (decide (0 ≤ n) && decide (n ≤ 2)) = v) (W : World) : Calls Tryz.prog 41 #[.int .i64 n] W fun e w' => e = .returned (.bool v) ∧ Below W.heap.size W w' :=
  (isReplica_c n W).mono fun e w' hh => ⟨by rw [hh.1, h], by rw [hh.2]; exact Below.refl _ _⟩
end Go.Proofs.YtkmojcpiadpbaaaGreatDoor
