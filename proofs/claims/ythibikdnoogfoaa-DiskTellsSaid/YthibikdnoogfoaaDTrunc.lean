/-
  disk's method Truncate.
-/
import Derived.Test.YthibikdnoogfoaaDSync
namespace Go.Proofs.Ythibikdnoogfoaa
open Go Go.RowKit Go.Maps Dk

theorem DiskAt.refile {w w' : World} {d bm : Nat} {blk : Nat → Nat} {own own' : Nat → Nat → Prop} {qv kv : Value} {X : D} (h : DiskAt w d bm blk own qv kv X) {g : Nat → F} (hF : FilesIn w' blk own' g) {T : Nat → Prop} (hk : Kept T w w') (hT : ∀ k, T k → ∃ i, i < 16 ∧ own i k)
    (ho : ∀ i, i < 16 → ∀ k, own' i k → own i k ∨ w.heap.size ≤ k) (hi : D.Inv { X with file := g }) : DiskAt w' d bm blk own' qv kv { X with file := g } := by
  have hnd : ∀ k, InD d bm own qv kv k → (k = d ∨ k = bm ∨ qv.ownBlock = some k ∨ kv.ownBlock = some k) → ¬ T k := fun k _ e ht => by
    obtain ⟨i, hi, ho⟩ := hT k ht
    have := h.ownNe i hi k ho
    rcases e with e | e | e | e
    · exact this.1 e
    · exact this.2.1 e
    · exact this.2.2.1 e
    · exact this.2.2.2 e
  refine { cell := hk.heap h.cell (hnd d (Or.inl rfl) (Or.inl rfl)), files := h.files.kept hk (hnd bm (Or.inr (Or.inl rfl)) (Or.inr (Or.inl rfl))), queue := own_kept h.queue hk (fun k e => hnd k (Or.inr (Or.inr (Or.inl e))) (Or.inr (Or.inr (Or.inl e)))), keep := own_kept h.keep hk (fun k e => hnd k (Or.inr (Or.inr (Or.inr (Or.inl e)))) (Or.inr (Or.inr (Or.inr e)))), file := hF.file, inv := hi, lost := h.lost, left := h.left, keepIn := h.keepIn, keepLen := h.keepLen, ownLt := hF.lt, ownNe := fun i hi k hx => ?_, ownOne := hF.one, apart := h.apart }
  rcases ho i hi k hx with h1 | h1
  · exact h.ownNe i hi k h1
  · have g1 := h.lt (Or.inl rfl)
    have g2 := h.lt (Or.inr (Or.inl rfl))
    exact ⟨by omega, by omega, fun e => by have := own_lt h.queue e; omega, fun e => by have := own_lt h.keep e; omega⟩

/-- A cut of a file of which nothing is pending. -/
theorem dcut_c (d bm : Nat) (blk : Nat → Nat) (own : Nat → Nat → Prop) (qv kv : Value) (X : D) (i n : Nat) (hi : i < 16) (w : World) (h : DiskAt w d bm blk own qv kv X) (hp : ∀ m, (X.file i).pend m = false) (hn : n ≤ (X.file i).now.length) :
    Calls Try.prog 52 #[.pointer (some ⟨blk i, 0, none⟩), .int .i64 n] w fun e w' => e = .returned (.tuple #[]) ∧ ∃ own', DiskAt w' d bm blk own' qv kv { X with file := upd X.file i ((X.file i).cut n) } ∧ (∀ j, j < 16 → ∀ k, own' j k → own j k ∨ w.heap.size ≤ k) ∧ Kept (own i) w w' := by
  obtain ⟨nv, dv, mb, hF, hS⟩ := h.file i hi
  have hdn := F.inv_none (h.inv.file i hi) hp
  refine (cut_c (blk i) nv dv mb (X.file i) n w hF hn (by rw [hdn]; exact hn) (h.inv.file i hi).small).mono ?_
  rintro e w' ⟨rfl, nv', dv', hF', hk, e1, e2⟩
  have hk' := hk.mono (S' := own i) (fun k _ e => hS k (Or.inl e))
  have hst := h.filesIn.step hi hk' (fun _ e => e) (f := (X.file i).cut n) ⟨nv', dv', mb, hF', fun x hin => Or.inl (hS x (by
    rcases hin with hx | hx | hx | hx
    · exact Or.inl hx
    · exact Or.inr (Or.inl hx)
    · exact Or.inr (Or.inr (Or.inl (by rw [← e1]; exact hx)))
    · exact Or.inr (Or.inr (Or.inr (by rw [← e2]; exact hx)))))⟩
  have hinv : D.Inv { X with file := upd X.file i ((X.file i).cut n) } := by
    refine ⟨fun g hg => ?_, fun g m => ?_, h.inv.nodup⟩
    · show (upd X.file i _ g).Inv
      unfold upd
      split
      · exact F.cut_inv (h.inv.file i hi) hp
      · exact h.inv.file g hg
    · rw [show ({ X with file := upd X.file i ((X.file i).cut n) } : D).queue = X.queue from rfl, h.inv.queue]
      show _ ↔ g < 16 ∧ (upd X.file i _ g).pend m = true
      unfold upd
      split
      · next e => subst e; rfl
      · rfl
  exact ⟨rfl, _, h.refile hst hk' (fun k e => ⟨i, hi, e⟩) (fun j _ k hx => ownUp_or hx) hinv, fun j _ k hx => ownUp_or hx, hk'⟩

set_option maxHeartbeats 1000000 in
set_option maxRecDepth 100000 in
theorem trunc_c (d : Nat) (S : Nat → Prop) (X : D) (f size : Int) (hf : -9223372036854775808 ≤ f ∧ f ≤ 9223372036854775807) (hsz : -9223372036854775808 ≤ size ∧ size ≤ 9223372036854775807) (w : World) (h : DiskIn w d S X) :
    Calls Try.prog 30 #[.pointer (some ⟨d, 0, none⟩), .int .i64 f, .int .i64 size] w fun e w' => e = .returned (.int .i64 (X.trunc f size).2) ∧ DiskIn w' d (After S w) (X.trunc f size).1 ∧ Kept S w w' := by
  have k2 : w.cell? ⟨d, 2, none⟩ = some (.bool X.down) := by obtain ⟨bm, blk, own, qv, kv, h, _⟩ := h; exact h.c2
  unfold D.trunc
  by_cases hd : X.down = true
  · rw [if_pos hd]
    rw [hd] at k2
    have H := Lib.hid h
    clear h
    go_enter Try.func30, Try.ntmps30
    go_wp2_with fail
    go_ret
    exact ⟨rfl, H.out.same _, Kept.refl _ _⟩
  · rw [if_neg hd]
    have hd' : X.down = false := by simpa using hd
    rw [hd'] at k2
    dsimp only
    have q := strike_open d S X f hf w h
    obtain ⟨Y, hY⟩ : ∃ Y, Y = X.strike := ⟨_, rfl⟩
    rw [← hY] at q ⊢
    cases hst : Y.2 with
    | true =>
      rw [hst] at q
      have Q := Lib.hid q
      simp only [if_true]
      clear h q hY hd hd'
      go_enter Try.func30, Try.ntmps30
      go_wp2_with (go_at_call 45; refine Q.out.mono ?_; rintro e w1 ⟨rfl, bm, blk, own, qv, kv, _, hp⟩)
      go_ret
      obtain ⟨h1, h2, h3⟩ := hp.out
      exact ⟨rfl, ⟨bm, blk, own, qv, kv, h1, h2⟩, h3⟩
    | false =>
      rw [hst] at q
      simp only [Bool.false_eq_true, if_false]
      cases ho : ok f with
      | false =>
        rw [ho] at q
        simp only [Bool.false_eq_true, if_false, Bool.false_and] at q ⊢
        have Q := Lib.hid q
        clear h q hY hd hd'
        go_enter Try.func30, Try.ntmps30
        go_wp2_with (go_at_call 45; refine Q.out.mono ?_; rintro e w1 ⟨rfl, bm, blk, own, qv, kv, ⟨j0, j3, z3, hl⟩, hp⟩)
        go_ret
        obtain ⟨h1, h2, h3⟩ := hp.out
        exact ⟨rfl, ⟨bm, blk, own, qv, kv, h1, h2⟩, h3⟩
      | true =>
        rw [ho] at q
        simp only [if_true, Bool.true_and] at q ⊢
        obtain ⟨i, rfl⟩ : ∃ i : Nat, f = i := ⟨f.toNat, by simp [ok] at ho; omega⟩
        have hi : i < 16 := by simp [ok] at ho; omega
        simp only [Int.toNat_natCast] at q
        obtain ⟨L, hL⟩ : ∃ L, L = (Y.1.file i).now.length := ⟨_, rfl⟩
        have q2 := q.mono (R' := fun e w1 => e = .returned (.bool false) ∧ ∃ (bm : Nat) (blk : Nat → Nat) (own : Nat → Nat → Prop) (qv kv : Value) (a : Option Addr) (c : Nat), (w1.cell? ⟨d, 0, none⟩ = some (.map (some bm)) ∧ w1.cell? ⟨blk i, 0, none⟩ = some (.slice a L c) ∧
            (Instr.lookup 52 (.map (some bm)) (.int .i64 (i : Int)) true).run Try.prog w1 = .ok (.tuple #[.pointer (some ⟨blk i, 0, none⟩), .bool true]) w1) ∧
            Hid (DiskAt w1 d bm blk own qv kv Y.1 ∧ (∀ k, InD d bm own qv kv k → After S w k) ∧ Kept S w w1)) (by
            rintro e w1 ⟨rfl, bm, blk, own, qv, kv, ⟨a1, a2, a3, a4⟩, hp⟩
            obtain ⟨nv, dv, mb, hF, _⟩ := hp.out.1.file i hi
            obtain ⟨a, c, rfl, _⟩ := own_shape hF.now
            exact ⟨rfl, bm, blk, own, qv, kv, a, c, ⟨a1, by rw [hL]; exact hF.c0, a4⟩, hp⟩)
        have Q := Lib.hid q2
        have HL := Lib.hid hL
        have hL' : L = (Y.1.file (i : Int).toNat).now.length := hL
        by_cases hs0 : size < 0
        · have e1 : decide (0 ≤ size) = false := by simp; omega
          rw [e1]
          simp only [Bool.false_and, Bool.false_eq_true, if_false]
          clear h q q2 hY hd hd' hL hL' e1
          go_enter Try.func30, Try.ntmps30
          go_wp2_with (go_at_call 45; refine Q.out.mono ?_; rintro e w1 ⟨rfl, bm, blk, own, qv, kv, a, c, ⟨j0, jf, hl⟩, hp⟩)
          go_ret
          obtain ⟨h1, h2, h3⟩ := hp.out
          exact ⟨rfl, ⟨bm, blk, own, qv, kv, h1, h2⟩, h3⟩
        · by_cases hs1 : (L : Int) < size
          · have e1 : decide (size ≤ ((Y.1.file (i : Int).toNat).now.length : Int)) = false := by rw [decide_eq_false_iff_not]; omega
            rw [e1]
            simp only [Bool.and_false, Bool.false_eq_true, if_false]
            clear h q q2 hY hd hd' hL hL' e1
            go_enter Try.func30, Try.ntmps30
            go_wp2_with (go_at_call 45; refine Q.out.mono ?_; rintro e w1 ⟨rfl, bm, blk, own, qv, kv, a, c, ⟨j0, jf, hl⟩, hp⟩)
            go_ret
            obtain ⟨h1, h2, h3⟩ := hp.out
            exact ⟨rfl, ⟨bm, blk, own, qv, kv, h1, h2⟩, h3⟩
          · obtain ⟨n, rfl⟩ : ∃ n : Nat, size = n := ⟨size.toNat, by omega⟩
            have e1 : decide (0 ≤ (n : Int)) = true := by simp
            have e2 : decide ((n : Int) ≤ ((Y.1.file (i : Int).toNat).now.length : Int)) = true := by rw [decide_eq_true_eq]; omega
            rw [e1, e2]
            simp only [Bool.and_self, if_true, Int.toNat_natCast]
            have hnL : n ≤ L := by omega
            have q3 : ∀ w1 bm blk own qv kv, DiskAt w1 d bm blk own qv kv Y.1 → (∀ k, InD d bm own qv kv k → After S w k) → Kept S w w1 → Calls Try.prog 46 #[.pointer (some ⟨d, 0, none⟩), .int .i64 (i : Int)] w1 fun e w2 => e = .returned (.tuple #[]) ∧
                ∃ own' qv', Hid (DiskAt w2 d bm blk own' qv' kv (Y.1.settle i) ∧ (∀ k, InD d bm own' qv' kv k → After S w k) ∧ Kept S w w2) := by
              intro w1 bm blk own qv kv h1 h2 h3
              refine (settle_at d bm blk own qv kv Y.1 i hi w1 h1).mono ?_
              rintro e w2 ⟨rfl, own', qv', g1, g2, g3, g4⟩
              refine ⟨rfl, own', qv', g1, fun k hin => ?_, h3.trans g4 (fun k hk e => ?_)⟩
              · rcases hin with e | e | e | e | ⟨j, hj, e⟩
                · exact h2 k (Or.inl e)
                · exact h2 k (Or.inr (Or.inl e))
                · exact h2 k (Or.inr (Or.inr (Or.inl (by rw [← g3]; exact e))))
                · exact h2 k (Or.inr (Or.inr (Or.inr (Or.inl e))))
                · rcases g2 j hj k e with e | e
                  · exact h2 k (Or.inr (Or.inr (Or.inr (Or.inr ⟨j, hj, e⟩))))
                  · exact Or.inr (Nat.le_trans h3.size e)
              · have : After S w k := by
                  rcases e with e | e | e
                  · exact h2 k (Or.inl e)
                  · exact h2 k (Or.inr (Or.inr (Or.inr (Or.inr ⟨i, hi, e⟩))))
                  · exact h2 k (Or.inr (Or.inr (Or.inl e)))
                rcases this with e | e
                · exact e
                · omega
            have q4 : ∀ w2 bm blk own qv kv, DiskAt w2 d bm blk own qv kv (Y.1.settle i) → (∀ k, InD d bm own qv kv k → After S w k) → Kept S w w2 → Calls Try.prog 52 #[.pointer (some ⟨blk i, 0, none⟩), .int .i64 (n : Int)] w2 fun e w3 => e = .returned (.tuple #[]) ∧
                Hid (DiskIn w3 d (After S w) { Y.1.settle i with file := upd (Y.1.settle i).file i (((Y.1.settle i).file i).cut n) } ∧ Kept S w w3) := by
              intro w2 bm blk own qv kv h1 h2 h3
              have e0 : (Y.1.settle i).file i = (Y.1.file i).settle := by simp [D.settle, upd_same]
              refine (dcut_c d bm blk own qv kv (Y.1.settle i) i n hi w2 h1 (fun m => by rw [e0]; rfl) (by rw [e0]; show n ≤ (Y.1.file i).now.length; rw [← hL]; exact hnL)).mono ?_
              rintro e w3 ⟨rfl, own', g1, g2, g4⟩
              refine ⟨rfl, ⟨bm, blk, own', qv, kv, g1, fun k hin => ?_⟩, h3.trans g4 (fun k hk e => ?_)⟩
              · rcases hin with e | e | e | e | ⟨j, hj, e⟩
                · exact h2 k (Or.inl e)
                · exact h2 k (Or.inr (Or.inl e))
                · exact h2 k (Or.inr (Or.inr (Or.inl e)))
                · exact h2 k (Or.inr (Or.inr (Or.inr (Or.inl e))))
                · rcases g2 j hj k e with e | e
                  · exact h2 k (Or.inr (Or.inr (Or.inr (Or.inr ⟨j, hj, e⟩))))
                  · exact Or.inr (Nat.le_trans h3.size e)
              · rcases h2 k (Or.inr (Or.inr (Or.inr (Or.inr ⟨i, hi, e⟩)))) with e | e
                · exact e
                · omega
            have Q3 := Lib.hid q3
            have Q4 := Lib.hid q4
            clear h q q2 q3 q4 hY hd hd' hL hL' e1 e2 ho
            go_enter Try.func30, Try.ntmps30
            go_wp2_with (first
              | (go_at_call 45; refine Q.out.mono ?_; rintro e w1 ⟨rfl, bm, blk, own, qv, kv, a, c, ⟨j0, jf, hl⟩, hp⟩)
              | (go_at_call 46; refine (Q3.out _ _ _ _ _ _ hp.out.1 hp.out.2.1 hp.out.2.2).mono ?_; rintro e w2 ⟨rfl, own2, qv2, hp2⟩)
              | (go_at_call 52; refine (Q4.out _ _ _ _ _ _ hp2.out.1 hp2.out.2.1 hp2.out.2.2).mono ?_; rintro e w3 ⟨rfl, hp3⟩))
            go_ret
            exact ⟨rfl, hp3.out.1, hp3.out.2⟩
end Go.Proofs.Ythibikdnoogfoaa
