/-
  disk's schedule: a call is counted, and the scheduled crash comes with it.
-/
import Derived.Test.YtninopllfbiccaaDoorDCrash
namespace Go.Proofs.YtninopllfbiccaaDoor
set_option maxRecDepth 100000
open Go Go.RowKit Go.Maps Dk

set_option maxRecDepth 100000 in
theorem strike_c (d : Nat) (S : Nat → Prop) (X : D) (w : World) (h : DiskIn w d S X) :
    Calls Tryd.prog 51 #[.pointer (some ⟨d, 0, none⟩)] w fun e w' => e = .returned (.bool X.strike.2) ∧ DiskIn w' d (After S w) X.strike.1 ∧ Kept S w w' := by
  obtain ⟨bm, blk, own, qv, kv, h, hS⟩ := h
  have k4 := h.c4
  have z4 := h.z 4
  have hle := h.left
  by_cases h0 : X.left = 0
  · have e : X.strike = (X, false) := by unfold D.strike; rw [if_pos h0]
    rw [e]
    rw [h0] at k4
    have H := Lib.hid h
    clear h
    go_enter Tryd.func51, Tryd.ntmps51
    go_wp2_with fail
    go_ret
    exact ⟨rfl, ⟨bm, blk, own, qv, kv, H.out, fun k hin => Or.inl (hS k hin)⟩, Kept.refl _ _⟩
  · obtain ⟨m, hm⟩ : ∃ m, X.left = m + 1 := ⟨X.left - 1, by omega⟩
    rw [hm] at k4
    have k4' : w.cell? ⟨d, 4, none⟩ = some (.int .i64 ((m : Int) + 1)) := by rw [k4]; rfl
    have hk1 := Kept.set d 4 w (.int .i64 (m : Int))
    have hD1 := h.recell hk1 X.down X.lost m (cells6_set h.cell 4 (.int .i64 (m : Int)) (by omega)) h.lost (by omega)
    obtain ⟨W1, hW1⟩ : ∃ W1, W1 = w.setCell ⟨d, 4, none⟩ (.int .i64 (m : Int)) := ⟨_, rfl⟩
    rw [← hW1] at hD1 hk1
    have hmb : (m : Int) ≤ 9223372036854775806 := by omega
    by_cases hm0 : m = 0
    · subst hm0
      have e : X.strike = (D.crash { X with left := 0 } X.keep, true) := by unfold D.strike; rw [if_neg h0, if_pos hm]
      rw [e]
      obtain ⟨ka, kc, rfl, _, hkc, _⟩ := own_shape h.keep
      have k5w := h.c5
      have k5 : W1.cell? ⟨d, 5, none⟩ = some (.slice ka X.keep.length kc) := hD1.c5
      have hkeep : KeepAt W1 (.slice ka X.keep.length kc) X.keep (fun k => ∃ i, i < 16 ∧ own i k) := by
        refine ⟨ka, kc, rfl, fun hne => ?_⟩
        have hpos : 0 < X.keep.length := List.length_pos_iff.2 hne
        obtain ⟨g, rfl, hg⟩ := own_at hD1.keep rfl hpos
        refine ⟨g, 0, rfl, fun ⟨i, hi, ho⟩ => (hD1.ownNe i hi g ho).2.2.2 hg, fun j x hx => ?_⟩
        have := own_cell hD1.keep rfl j (.int .i64 x) (by simp [intsV]; exact hx)
        rw [Lib.add_plain] at this
        exact this
      have q : Calls Tryd.prog 25 #[.pointer (some ⟨d, 0, none⟩), .slice ka X.keep.length kc] W1 fun e w' => e = .returned (.tuple #[]) ∧ DiskIn w' d (After S w) (D.crash { X with left := 0 } X.keep) ∧ Kept S W1 w' := by
        have hsz := hk1.size
        by_cases hup : X.down = true
        · refine (crash_dn d bm blk own _ _ _ _ W1 hD1 hup).mono ?_
          rintro e w' ⟨rfl, rfl⟩
          have : D.crash { X with left := 0 } X.keep = { X with left := 0 } := by unfold D.crash; rw [if_pos hup]
          rw [this]
          exact ⟨rfl, ⟨bm, blk, own, _, _, hD1, fun k hin => Or.inl (hS k hin)⟩, Kept.refl _ _⟩
        · refine (crash_up d bm blk own _ _ _ _ X.keep W1 hD1 (by simpa using hup) hkeep (by have := h.keepLen; omega) h.keepIn).mono ?_
          rintro e w' ⟨rfl, own', kv', hd, hk, ho, hf⟩
          refine ⟨rfl, ⟨bm, blk, own', _, kv', hd, fun k hin => ?_⟩, hk.mono (fun k _ e => ?_)⟩
          · rcases hin with e | e | e | e | ⟨i, hi, e⟩
            · exact Or.inl (hS k (Or.inl e))
            · exact Or.inl (hS k (Or.inr (Or.inl e)))
            · simp [Value.ownBlock] at e
            · exact Or.inr (by have := hf k e; omega)
            · rcases ho i hi k e with h1 | h1
              · exact Or.inl (hS k (Or.inr (Or.inr (Or.inr (Or.inr ⟨i, hi, h1⟩)))))
              · exact Or.inr (by omega)
          · rcases e with e | ⟨i, hi, e⟩
            · exact hS k (Or.inl e)
            · exact hS k (Or.inr (Or.inr (Or.inr (Or.inr ⟨i, hi, e⟩))))
      have j4 : W1.cell? ⟨d, 4, none⟩ = some (.int .i64 0) := hD1.c4
      have Q := Lib.hid q
      have HW1 := Lib.hid hW1
      have HK1 := Lib.hid hk1
      have HS := Lib.hid hS
      clear h hD1 hkeep q hW1 hk1 hS e k4 hkc
      go_enter Tryd.func51, Tryd.ntmps51
      rw [show (((0 : Nat) : Int)) = 0 from rfl] at HW1
      go_wp2_with (go_at_call 25; rw [← HW1.out]; refine Q.out.mono ?_; rintro e w2 ⟨rfl, hd2, hk2⟩)
      go_ret
      exact ⟨rfl, hd2, (HK1.out.mono (fun k _ e => by subst e; exact HS.out k (Or.inl rfl))).trans hk2 (fun _ _ e => e)⟩
    · have e : X.strike = ({ X with left := X.left - 1 }, false) := by unfold D.strike; rw [if_neg h0, if_neg (by omega)]
      have e2 : X.left - 1 = m := by omega
      rw [e, e2]
      have H := Lib.hid hD1
      have HK1 := Lib.hid hk1
      have HS := Lib.hid hS
      have HW1 := Lib.hid hW1
      have hmp : 0 < m := by omega
      clear h hD1 hk1 hS hW1 e e2 k4
      go_enter Tryd.func51, Tryd.ntmps51
      go_wp2_with fail
      go_ret
      rw [← HW1.out]
      exact ⟨rfl, ⟨bm, blk, own, qv, kv, H.out, fun k hin => Or.inl (HS.out k hin)⟩, HK1.out.mono (fun k _ e => by subst e; exact HS.out k (Or.inl rfl))⟩
end Go.Proofs.YtninopllfbiccaaDoor
