/-
  Lists of entries that are compared.
  One of two lists is the beginning of the other one.
-/
import Derived.Test.YtkmojcpiadpbaaaGreatDoorRMem
import Derived.BigRegion
import Derived.Deep.QuietTactic
import Derived.BigQuiet
namespace Go.Proofs.YtkmojcpiadpbaaaGreatDoor
set_option maxRecDepth 100000
open Go Go.RowKit Rp

theorem eq_rec (p q : Rec) (w : World) : (binOp .eql 27 (.agg #[.int .i64 p.t, .string ⟨p.d.toArray⟩]) (.agg #[.int .i64 q.t, .string ⟨q.d.toArray⟩])).run Tryz.prog w = .ok (.bool (decide (p = q))) w := by
  rw [run_eql_struct, run_equalIn_agg _ 9999 _ _ _ (by kernel_rfl) (by kernel_rfl)]
  have p0 : ∀ (x y : Value) (w : World), (part 3 #[x, y] 0).run Tryz.prog w = .ok x w := fun x y w => run_part_plain w (by kernel_rfl) rfl
  have p1 : ∀ (x y : Value) (w : World), (part 9 #[x, y] 1).run Tryz.prog w = .ok y w := fun x y w => run_part_plain w (by kernel_rfl) rfl
  have ei : ∀ (a b : Int) (w : World), (Op.equalIn 9999 3 (.int .i64 a) (.int .i64 b)).run Tryz.prog w = .ok (a == b) w := fun a b w => run_equalIn_int w 9998 3 .i64 .i64 a b Tryz.underlying3
  have es : ∀ (a b : ByteArray) (w : World), (Op.equalIn 9999 9 (.string a) (.string b)).run Tryz.prog w = .ok (a.toList == b.toList) w := fun a b w => run_equalIn_string w 9998 9 a b Tryz.underlying9
  have hs : ∀ a b : List UInt8, ((⟨a.toArray⟩ : ByteArray).toList == (⟨b.toArray⟩ : ByteArray).toList) = decide (a = b) := fun a b => by
    rw [ByteArray.toList_eq, ByteArray.toList_eq]
    simp [Bool.beq_eq_decide_eq]
  simp only [Program.fieldsOf, Tryz.underlying27, Op.eqFields, ne_eq, String.reduceEq, not_false_eq_true, if_true, Sem.run_bind, p0, p1, ei, es, Result.andThen_ok, Sem.run_ite, Sem.run_pure, hs]
  obtain ⟨a, s⟩ := p
  obtain ⟨a', s'⟩ := q
  by_cases h1 : a = a'
  · by_cases h2 : s = s'
    · simp [h1, h2]
    · simp [h1, h2]
  · simp [h1]
theorem neq_rec (p q : Rec) (w : World) : (binOp .neq 27 (.agg #[.int .i64 p.t, .string ⟨p.d.toArray⟩]) (.agg #[.int .i64 q.t, .string ⟨q.d.toArray⟩])).run Tryz.prog w = .ok (.bool (!decide (p = q))) w := by
  have h := eq_rec p q w
  rw [run_eql_struct] at h
  rw [run_neq_struct]
  cases hr : (Op.equalIn 10000 27 (.agg #[.int .i64 p.t, .string ⟨p.d.toArray⟩]) (.agg #[.int .i64 q.t, .string ⟨q.d.toArray⟩])).run Tryz.prog w with
  | ok b w1 =>
    rw [hr] at h
    simp only [Result.andThen] at h ⊢
    injection h with h1 h2
    injection h1 with h1
    rw [h1, h2]
  | halt x w1 =>
    rw [hr] at h
    simp [Result.andThen] at h
set_option maxHeartbeats 1000000 in
/-- The same entries. -/
theorem same_c {G G' : Nat → Prop} (w : World) (l : List Rec) (a1 : Option Addr) (c1 : Nat) (h1 : Src G w a1 c1 l.length (recsV l)) (a2 : Option Addr) (c2 : Nat) (h2 : Src G' w a2 c2 l.length (recsV l)) (hn : l.length ≤ 1000000) :
    Calls Tryz.prog 37 #[.slice a1 l.length c1, .slice a2 l.length c2] w fun e w' => e = .returned (.bool true) ∧ ∃ n, w' = w.drewN n := by
  obtain ⟨L, hL⟩ : ∃ L, l.length = L := ⟨_, rfl⟩
  have HC := Lib.hid (fun (k : Nat) (hk : k < L) => (show ∃ (x : Rec) (b1 o1 b2 o2 : Nat), a1 = some ⟨b1, o1, none⟩ ∧ a2 = some ⟨b2, o2, none⟩ ∧ Hid (w.cell? ⟨b1, o1 + k * 2, none⟩ = some (.int .i64 x.t) ∧ w.cell? ⟨b1, o1 + k * 2 + 1, none⟩ = some (.string ⟨x.d.toArray⟩) ∧ w.cell? ⟨b2, o2 + k * 2, none⟩ = some (.int .i64 x.t) ∧ w.cell? ⟨b2, o2 + k * 2 + 1, none⟩ = some (.string ⟨x.d.toArray⟩)) from by
    have hx : l[k]? = some (l[k]'(by omega)) := List.getElem?_eq_getElem _
    obtain ⟨b1, o1, e1, q1, q2⟩ := rec_cells h1 rfl hx
    obtain ⟨b2, o2, e2, q3, q4⟩ := rec_cells h2 rfl hx
    exact ⟨l[k]'(by omega), b1, o1, b2, o2, e1, e2, Lib.hid ⟨q1, q2, q3, q4⟩⟩))
  have hle1 : L ≤ c1 := by have := h1.1; omega
  have hle2 : L ≤ c2 := by have := h2.1; omega
  rw [hL] at hn ⊢
  clear h1 h2 hL
  have hll : ((L : Int) == (L : Int)) = true := by simp
  go_enter Tryz.func37, Tryz.ntmps37
  go_wp2_with fail
  go_loopw [5] (fun v5 wr => ∃ (k n : Nat), k ≤ L ∧ v5 = .int .i64 (k : Int) ∧ wr = w.drewN n) (fun v5 _ => L - (intOf v5).toNat)
  case atStart => exact ⟨0, 0, Nat.zero_le _, rfl, rfl⟩
  case round =>
    obtain ⟨k, n, hk, rfl, hw⟩ := hrel
    rw [hw]
    clear hw
    by_cases hkl : k < L
    · have hkl' : (k : Int) < (L : Int) := by omega
      obtain ⟨x, b1, o1, b2, o2, rfl, rfl, HQ⟩ := HC.out k hkl
      obtain ⟨q1, q2, q3, q4⟩ := HQ.out
      have E : ∀ W : World, (binOp .neq 27 (.agg #[.int .i64 x.t, .string ⟨x.d.toArray⟩]) (.agg #[.int .i64 x.t, .string ⟨x.d.toArray⟩])).run Tryz.prog W = .ok (.bool false) W := fun W => by
        rw [neq_rec]
        simp
      go_wp2_with fail
      go_region
      all_goals
        go_wp2_with fail
        go_roundw
        case rel => exact ⟨k + 1, n + 1, hkl, by go_num, by first | rfl | trivial⟩
        case measure => simp [intOf]; omega
    · have hkl' : ¬ (k : Int) < (L : Int) := by omega
      go_wp2_with fail
      go_ret
      exact ⟨rfl, n, rfl⟩
end Go.Proofs.YtkmojcpiadpbaaaGreatDoor

namespace Go.Proofs.YtkmojcpiadpbaaaGreatDoor
set_option maxRecDepth 100000
open Go Go.RowKit Rp

end Go.Proofs.YtkmojcpiadpbaaaGreatDoor
