/-
  disk's methods Sync and Truncate.
-/
import Derived.Test.YtninopllfbiccaaDoorDOps
namespace Go.Proofs.YtninopllfbiccaaDoor
set_option maxRecDepth 100000
open Go Go.RowKit Go.Maps Dk

/-- What is known behind the count of a call, where there was no crash. -/
theorem strike_open (d : Nat) (S : Nat → Prop) (X : D) (f : Int) (hf : -9223372036854775808 ≤ f ∧ f ≤ 9223372036854775807) (w : World) (h : DiskIn w d S X) :
    Calls Tryd.prog 51 #[.pointer (some ⟨d, 0, none⟩)] w fun e w1 => e = .returned (.bool X.strike.2) ∧ ∃ (bm : Nat) (blk : Nat → Nat) (own : Nat → Nat → Prop) (qv kv : Value), (w1.cell? ⟨d, 0, none⟩ = some (.map (some bm)) ∧ w1.cell? ⟨d, 3, none⟩ = some (.int .i64 (X.strike.1.lost : Int)) ∧ w1.frozen? ⟨d, 3, none⟩ = false ∧
      (Instr.lookup 57 (.map (some bm)) (.int .i64 f) true).run Tryd.prog w1 = .ok (if ok f then .tuple #[.pointer (some ⟨blk f.toNat, 0, none⟩), .bool true] else .tuple #[.pointer none, .bool false]) w1) ∧
      Hid (DiskAt w1 d bm blk own qv kv X.strike.1 ∧ (∀ k, InD d bm own qv kv k → After S w k) ∧ Kept S w w1) := by
  refine (strike_c d S X w h).mono ?_
  rintro e w1 ⟨rfl, ⟨bm, blk, own, qv, kv, hd, hS⟩, hk⟩
  exact ⟨rfl, bm, blk, own, qv, kv, ⟨hd.c0, hd.c3, hd.z 3, hd.files.look2 f hf⟩, hd, hS, hk⟩

set_option maxRecDepth 100000 in
theorem sync_c (d : Nat) (S : Nat → Prop) (X : D) (f : Int) (hf : -9223372036854775808 ≤ f ∧ f ≤ 9223372036854775807) (w : World) (h : DiskIn w d S X) :
    Calls Tryd.prog 40 #[.pointer (some ⟨d, 0, none⟩), .int .i64 f] w fun e w' => e = .returned (.int .i64 (X.sync f).2) ∧ DiskIn w' d (After S w) (X.sync f).1 ∧ Kept S w w' := by
  have k2 : w.cell? ⟨d, 2, none⟩ = some (.bool X.down) := by obtain ⟨bm, blk, own, qv, kv, h, _⟩ := h; exact h.c2
  unfold D.sync
  by_cases hd : X.down = true
  · rw [if_pos hd]
    rw [hd] at k2
    have H := Lib.hid h
    clear h
    go_enter Tryd.func40, Tryd.ntmps40
    go_wp2_with fail
    go_ret
    exact ⟨rfl, H.out.same _, Kept.refl _ _⟩
  · rw [if_neg hd]
    have hd' : X.down = false := by simpa using hd
    rw [hd'] at k2
    dsimp only
    have q := strike_open d S X f hf w h
    obtain ⟨Y, hY⟩ : ∃ Y, Y = X.strike := ⟨_, rfl⟩
    rw [← hY] at q ⊢
    cases hst : Y.2 with
    | true =>
      rw [hst] at q
      have Q := Lib.hid q
      simp only [if_true]
      clear h q hY hd hd'
      go_enter Tryd.func40, Tryd.ntmps40
      go_wp2_with (go_at_call 51; refine Q.out.mono ?_; rintro e w1 ⟨rfl, bm, blk, own, qv, kv, _, hp⟩)
      go_ret
      obtain ⟨h1, h2, h3⟩ := hp.out
      exact ⟨rfl, ⟨bm, blk, own, qv, kv, h1, h2⟩, h3⟩
    | false =>
      rw [hst] at q
      simp only [Bool.false_eq_true, if_false]
      cases ho : ok f with
      | false =>
        rw [ho] at q
        simp only [Bool.false_eq_true, if_false] at q ⊢
        have Q := Lib.hid q
        clear h q hY hd hd'
        go_enter Tryd.func40, Tryd.ntmps40
        go_wp2_with (go_at_call 51; refine Q.out.mono ?_; rintro e w1 ⟨rfl, bm, blk, own, qv, kv, ⟨j0, j3, z3, hl⟩, hp⟩)
        go_ret
        obtain ⟨h1, h2, h3⟩ := hp.out
        exact ⟨rfl, ⟨bm, blk, own, qv, kv, h1, h2⟩, h3⟩
      | true =>
        rw [ho] at q
        simp only [if_true] at q ⊢
        by_cases hl0 : 0 < Y.1.lost
        · rw [if_pos hl0]
          obtain ⟨m, hm⟩ : ∃ m, Y.1.lost = m + 1 := ⟨Y.1.lost - 1, by omega⟩
          rw [hm] at q
          have q2 := q.mono (R' := fun e w1 => e = .returned (.bool false) ∧ ∃ (bm : Nat) (blk : Nat → Nat) (own : Nat → Nat → Prop) (qv kv : Value), (w1.cell? ⟨d, 0, none⟩ = some (.map (some bm)) ∧ w1.cell? ⟨d, 3, none⟩ = some (.int .i64 ((m : Int) + 1)) ∧ w1.frozen? ⟨d, 3, none⟩ = false ∧
            (Instr.lookup 57 (.map (some bm)) (.int .i64 f) true).run Tryd.prog w1 = .ok (.tuple #[.pointer (some ⟨blk f.toNat, 0, none⟩), .bool true]) w1) ∧
            Hid (DiskAt w1 d bm blk own qv kv Y.1 ∧ (∀ k, InD d bm own qv kv k → After S w k) ∧ Kept S w w1) ∧ (m : Int) ≤ 9223372036854775806) (by
            rintro e w1 ⟨rfl, bm, blk, own, qv, kv, ⟨a1, a2, a3, a4⟩, hp⟩
            exact ⟨rfl, bm, blk, own, qv, kv, ⟨a1, a2, a3, a4⟩, hp, by have := hp.out.1.lost; omega⟩)
          have Q := Lib.hid q2
          have HM := Lib.hid hm
          have e1 : Y.1.lost - 1 = m := by omega
          rw [e1]
          clear h q q2 hY hd hd' hm e1 hl0
          go_enter Tryd.func40, Tryd.ntmps40
          go_wp2_with (go_at_call 51; refine Q.out.mono ?_; rintro e w1 ⟨rfl, bm, blk, own, qv, kv, ⟨j0, j3, z3, hl⟩, hp, hmb⟩)
          go_ret
          obtain ⟨h1, h2, h3⟩ := hp.out
          have hk := Kept.set d 3 w1 (.int .i64 (m : Int))
          exact ⟨rfl, ⟨bm, blk, own, qv, kv, h1.recell hk Y.1.down m Y.1.left (cells6_set h1.cell 3 (.int .i64 (m : Int)) (by omega)) (by omega) h1.left, h2⟩, h3.trans hk (fun k hk' e => by
            subst e
            rcases h2 k (Or.inl rfl) with h | h
            · exact h
            · omega)⟩
        · rw [if_neg hl0]
          have hz : Y.1.lost = 0 := by omega
          rw [hz] at q
          obtain ⟨i, rfl⟩ : ∃ i : Nat, f = i := ⟨f.toNat, by simp [ok] at ho; omega⟩
          have hi : i < 16 := by simp [ok] at ho; omega
          simp only [Int.toNat_natCast] at q ⊢
          have q2 : ∀ w1, Kept S w w1 → DiskIn w1 d (After S w) Y.1 → Calls Tryd.prog 55 #[.pointer (some ⟨d, 0, none⟩), .int .i64 (i : Int)] w1 fun e w' => e = .returned (.tuple #[]) ∧ Hid (DiskIn w' d (After S w) (Y.1.settle i) ∧ Kept S w w') := by
            intro w1 hk hin
            refine (settle_c d (After S w) Y.1 i hi w1 hin).mono ?_
            rintro e w2 ⟨rfl, h1, h2⟩
            exact ⟨rfl, h1.mono (fun k _ => After.trans hk.size k), After.kept hk h2⟩
          have Q := Lib.hid q
          have Q2 := Lib.hid q2
          clear h q q2 hY hd hd' hl0 hz ho
          go_enter Tryd.func40, Tryd.ntmps40
          go_wp2_with (first
            | (go_at_call 51; refine Q.out.mono ?_; rintro e w1 ⟨rfl, bm, blk, own, qv, kv, ⟨j0, j3, z3, hl⟩, hp⟩)
            | (go_at_call 55; refine (Q2.out _ hp.out.2.2 ⟨bm, blk, own, qv, kv, hp.out.1, hp.out.2.1⟩).mono ?_; rintro e w2 ⟨rfl, hp2⟩))
          go_ret
          exact ⟨rfl, hp2.out.1, hp2.out.2⟩
end Go.Proofs.YtninopllfbiccaaDoor
