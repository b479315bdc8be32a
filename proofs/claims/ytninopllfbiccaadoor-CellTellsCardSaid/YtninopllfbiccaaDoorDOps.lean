/-
  disk's methods Write, Sync, Truncate.
-/
import Derived.Test.YtninopllfbiccaaDoorDDput
namespace Go.Proofs.YtninopllfbiccaaDoor
set_option maxRecDepth 100000
open Go Go.RowKit Go.Maps Dk

theorem DiskIn.same {w : World} {d : Nat} {S : Nat → Prop} {X : D} (h : DiskIn w d S X) (w0 : World) : DiskIn w d (After S w0) X := h.mono (fun _ _ e => Or.inl e)
theorem dput_c (d : Nat) (S : Nat → Prop) (X : D) (f at' : Int) (s : List UInt8) (hf : -9223372036854775808 ≤ f ∧ f ≤ 9223372036854775807) (ha : -9223372036854775808 ≤ at' ∧ at' ≤ 9223372036854775807) (hs : s.length ≤ 9223372036854775807) (w : World) (h : DiskIn w d S X) :
    Calls Tryd.prog 50 #[.pointer (some ⟨d, 0, none⟩), .int .i64 f, .int .i64 at', .string ⟨s.toArray⟩] w fun e w' => e = .returned (.int .i64 (X.put f at' s).2) ∧ DiskIn w' d (After S w) (X.put f at' s).1 ∧ Kept S w w' := by
  by_cases hc : ok f = true ∧ 0 ≤ at' ∧ at' + s.length ≤ 16777216
  · obtain ⟨h1, h2, h3⟩ := hc
    obtain ⟨m, rfl⟩ : ∃ m : Nat, f = m := ⟨f.toNat, by simp [ok] at h1; omega⟩
    obtain ⟨k, rfl⟩ : ∃ k : Nat, at' = k := ⟨at'.toNat, by omega⟩
    have hm : m < 16 := by simp [ok] at h1; omega
    have hput : X.put (m : Int) (k : Int) s = ({ X with file := upd X.file m ((X.file m).write k s), queue := X.queue ++ ((X.file m).added k s).map fun n => (m, n) }, 0) := by
      unfold D.put
      have e2 : decide (0 ≤ (k : Int)) = true := by simp
      rw [h1, e2, if_pos (by rfl), if_pos h3]
      simp only [Int.toNat_natCast]
    rw [hput]
    by_cases hs0 : s = []
    · subst hs0
      have e1 : (X.file m).write k [] = X.file m := by unfold F.write; rw [if_pos rfl]
      have e2 : (X.file m).added k [] = [] := by unfold F.added; rw [if_pos rfl]
      rw [e1, e2, upd_id]
      simp only [List.map_nil, List.append_nil]
      exact dput_none d S X m k w h hm (by simp at h3; omega)
    · exact dput_some d S X m k s w h hm hs0 (by omega)
  · refine (dput_bad d S X f at' s hf ha hs w h hc).mono ?_
    rintro e w' ⟨rfl, h1, rfl⟩
    rw [h1]
    exact ⟨rfl, h.same _, Kept.refl _ _⟩

theorem After.trans {S : Nat → Prop} {a b : World} (h : a.heap.size ≤ b.heap.size) : ∀ k, After (After S a) b k → After S a k := by
  rintro k (e | e)
  · exact e
  · exact Or.inr (Nat.le_trans h e)
theorem After.kept {S : Nat → Prop} {a b c : World} (h1 : Kept S a b) (h2 : Kept (After S a) b c) : Kept S a c := h1.trans h2 (fun k hk e => by
  rcases e with e | e
  · exact e
  · omega)

set_option maxRecDepth 100000 in
theorem write_c (d : Nat) (S : Nat → Prop) (X : D) (f at' : Int) (s : List UInt8) (hf : -9223372036854775808 ≤ f ∧ f ≤ 9223372036854775807) (ha : -9223372036854775808 ≤ at' ∧ at' ≤ 9223372036854775807) (hs : s.length ≤ 9223372036854775807) (w : World) (h : DiskIn w d S X) :
    Calls Tryd.prog 31 #[.pointer (some ⟨d, 0, none⟩), .int .i64 f, .int .i64 at', .string ⟨s.toArray⟩] w fun e w' => e = .returned (.int .i64 (X.write f at' s).2) ∧ DiskIn w' d (After S w) (X.write f at' s).1 ∧ Kept S w w' := by
  have k2 : w.cell? ⟨d, 2, none⟩ = some (.bool X.down) := by obtain ⟨bm, blk, own, qv, kv, h, _⟩ := h; exact h.c2
  unfold D.write
  by_cases hd : X.down = true
  · rw [if_pos hd]
    rw [hd] at k2
    have H := Lib.hid h
    clear h
    go_enter Tryd.func31, Tryd.ntmps31
    go_wp2_with fail
    go_ret
    exact ⟨rfl, H.out.same _, Kept.refl _ _⟩
  · rw [if_neg hd]
    have hd' : X.down = false := by simpa using hd
    rw [hd'] at k2
    dsimp only
    have q := dput_c d S X f at' s hf ha hs w h
    obtain ⟨Y, hY⟩ : ∃ Y, Y = X.put f at' s := ⟨_, rfl⟩
    rw [← hY] at q ⊢
    have q2 : ∀ w1, DiskIn w1 d (After S w) Y.1 → Kept S w w1 → Calls Tryd.prog 51 #[.pointer (some ⟨d, 0, none⟩)] w1 fun e w' => e = .returned (.bool Y.1.strike.2) ∧ Hid (DiskIn w' d (After S w) Y.1.strike.1 ∧ Kept S w w') := by
      intro w1 hi hk
      refine (strike_c d (After S w) Y.1 w1 hi).mono ?_
      rintro e w2 ⟨rfl, hi2, hk2⟩
      exact ⟨rfl, hi2.mono (fun k _ => After.trans hk.size k), After.kept hk hk2⟩
    have Q := Lib.hid q
    have Q2 := Lib.hid q2
    clear h q q2 hY hd hd'
    cases hst : Y.1.strike.2 with
    | true =>
      rw [hst] at Q2
      simp only [if_true]
      go_enter Tryd.func31, Tryd.ntmps31
      go_wp2_with (first
        | (go_at_call 50; refine Q.out.mono ?_; rintro e w1 ⟨rfl, hi, hk⟩)
        | (go_at_call 51; refine (Q2.out _ hi hk).mono ?_; rintro e w2 ⟨rfl, hp⟩))
      go_ret
      exact ⟨rfl, hp.out.1, hp.out.2⟩
    | false =>
      rw [hst] at Q2
      simp only [Bool.false_eq_true, if_false]
      go_enter Tryd.func31, Tryd.ntmps31
      go_wp2_with (first
        | (go_at_call 50; refine Q.out.mono ?_; rintro e w1 ⟨rfl, hi, hk⟩)
        | (go_at_call 51; refine (Q2.out _ hi hk).mono ?_; rintro e w2 ⟨rfl, hp⟩))
      go_ret
      exact ⟨rfl, hp.out.1, hp.out.2⟩
end Go.Proofs.YtninopllfbiccaaDoor
