/-
  What a crash leaves of a file: what the model says, and the law's helpers after, byteAt.
-/
import Derived.Test.YthibikdnoogfoaaDReads
import Derived.BigQuiet
namespace Go.Proofs.Ythibikdnoogfoaa
open Go Go.RowKit Go.Maps Dk

/-! ### The model -/
theorem surv_one (k : Nat) : surv [1] k = true := by
  unfold surv
  simp only [List.length_singleton, Nat.mod_one, List.getElem?_cons_zero]
  decide
theorem saveAll_now (keep : List Int) : ∀ (q : List (Nat × Nat)) (k : Nat) (g : Nat → F) (i : Nat), (saveAll keep q k g i).now = (g i).now
  | [], _, _, _ => rfl
  | p :: q, k, g, i => by
    show (saveAll keep q (k + 1) (if surv keep k then saveAt g p else g) i).now = _
    rw [saveAll_now keep q (k + 1) _ i]
    split
    · unfold saveAt upd
      split
      · next e => subst e; rfl
      · rfl
    · rfl
/-- Every pending sector survives: the file is what it was. -/
theorem saveAll_one (i : Nat) : ∀ (q : List (Nat × Nat)) (k : Nat) (g : Nat → F) (pnd : Nat → Bool), F.Inv { g i with pend := pnd } → (∀ n, pnd n = true ↔ (i, n) ∈ q) → q.Nodup → (saveAll [1] q k g i).dur = (g i).now
  | [], _, g, pnd, hI, hq, _ => by
    have := F.inv_none hI (fun n => by
      show pnd n = false
      cases h : pnd n with
      | false => rfl
      | true => exact absurd ((hq n).1 h) (by simp))
    exact this
  | p :: q, k, g, pnd, hI, hq, hn => by
    show (saveAll [1] q (k + 1) (if surv [1] k then saveAt g p else g) i).dur = _
    rw [surv_one, if_pos rfl]
    obtain ⟨hn1, hn2⟩ := List.nodup_cons.1 hn
    obtain ⟨j, m⟩ := p
    by_cases hji : j = i
    · subst hji
      have e1 : saveAt g (j, m) j = (g j).save m := by unfold saveAt; exact upd_same _ _ _
      have hm : pnd m = true := (hq m).2 (List.mem_cons_self ..)
      have hI' := F.save_inv hI (n := m) hm
      have := saveAll_one j q (k + 1) (saveAt g (j, m)) (fun x => pnd x && !(x == m)) (by rw [e1]; exact hI') (fun n => by
        rw [Bool.and_eq_true, hq]
        constructor
        · rintro ⟨h1, h2⟩
          rcases List.mem_cons.1 h1 with h1 | h1
          · injection h1 with _ h3
            simp [h3] at h2
          · exact h1
        · intro h1
          refine ⟨List.mem_cons_of_mem _ h1, ?_⟩
          simp only [Bool.not_eq_true', beq_eq_false_iff_ne]
          rintro rfl
          exact hn1 h1) hn2
      rw [this, e1]
      rfl
    · have e1 : saveAt g (j, m) i = g i := by unfold saveAt; exact upd_other _ _ (fun e => hji e.symm)
      have := saveAll_one i q (k + 1) (saveAt g (j, m)) pnd (by rw [e1]; exact hI) (fun n => by
        rw [hq, List.mem_cons]
        constructor
        · rintro (h | h)
          · injection h with h1 _; exact absurd h1.symm hji
          · exact h
        · exact Or.inr) hn2
      rw [this, e1]
/-- What a crash leaves: no shorter than what is durable, no longer than the file; each sector is the file's or the durable one. -/
structure Left (N B s : List UInt8) : Prop where
  ge : B.length ≤ s.length
  le : s.length ≤ N.length
  sec : ∀ n, (min (64 * n + 64) N.length ≤ s.length ∧ ∀ j, j / 64 = n → j < N.length → bt s j = bt N j) ∨ ∀ j, j / 64 = n → bt s j = bt B j
theorem Left.refl {N B : List UInt8} (h : B.length ≤ N.length) : Left N B B := ⟨Nat.le_refl _, h, fun _ => Or.inr fun _ _ => rfl⟩
theorem Left.save {N B s : List UInt8} (h : Left N B s) {m : Nat} (hm : 64 * m < N.length) : Left N B (put s (64 * m) (Dk.sec N m)) := by
  have hle := h.le
  have hge := h.ge
  have hl : (put s (64 * m) (Dk.sec N m)).length = max s.length (64 * m + min 64 (N.length - 64 * m)) := by rw [put_length, sec_length]
  refine ⟨by rw [hl]; omega, by rw [hl]; omega, fun n => ?_⟩
  by_cases hn : n = m
  · subst hn
    refine Or.inl ⟨by rw [hl]; omega, fun j hj hjN => ?_⟩
    rw [put_bt, sec_length, if_pos (by omega), sec_bt _ _ _ (by omega)]
    congr 1
    omega
  · have hb : ∀ j, j / 64 = n → bt (put s (64 * m) (Dk.sec N m)) j = bt s j := fun j hj => by rw [put_bt, sec_length, if_neg (by omega)]
    rcases h.sec n with ⟨h1, h2⟩ | h2
    · exact Or.inl ⟨by rw [hl]; omega, fun j hj hjN => by rw [hb j hj, h2 j hj hjN]⟩
    · exact Or.inr fun j hj => by rw [hb j hj, h2 j hj]
theorem saveAll_left (keep : List Int) (i : Nat) (N B : List UInt8) : ∀ (q : List (Nat × Nat)) (k : Nat) (g : Nat → F), (g i).now = N → Left N B (g i).dur → (∀ n, (i, n) ∈ q → 64 * n < N.length) → Left N B (saveAll keep q k g i).dur
  | [], _, _, _, h, _ => h
  | p :: q, k, g, hN, h, hq => by
    show Left N B (saveAll keep q (k + 1) (if surv keep k then saveAt g p else g) i).dur
    obtain ⟨j, m⟩ := p
    have hq' : ∀ n, (i, n) ∈ q → 64 * n < N.length := fun n hn => hq n (List.mem_cons_of_mem _ hn)
    split
    · by_cases hji : j = i
      · subst hji
        have e1 : saveAt g (j, m) j = (g j).save m := by unfold saveAt; exact upd_same _ _ _
        refine saveAll_left keep j N B q (k + 1) _ (by rw [e1]; exact hN) (by rw [e1]; unfold F.save; rw [hN]; exact h.save (hq m (List.mem_cons_self ..))) hq'
      · have e1 : saveAt g (j, m) i = g i := by unfold saveAt; exact upd_other _ _ (fun e => hji e.symm)
        exact saveAll_left keep i N B q (k + 1) _ (by rw [e1]; exact hN) (by rw [e1]; exact h) hq'
    · exact saveAll_left keep i N B q (k + 1) g hN h hq'
theorem crash_file {X : D} (hd : X.down = false) (keep : List Int) (i : Nat) : ((X.crash keep).start.file i).now = (saveAll keep X.queue 0 X.file i).dur := by
  unfold D.crash
  rw [if_neg (by rw [hd]; simp)]
  rfl
theorem crash_left {X : D} (hI : X.Inv) (hd : X.down = false) (keep : List Int) {i : Nat} (hi : i < 16) : Left (X.file i).now (X.file i).dur ((X.crash keep).start.file i).now := by
  rw [crash_file hd]
  exact saveAll_left keep i _ _ X.queue 0 X.file rfl (Left.refl (hI.file i hi).le) (fun n hn => (hI.file i hi).inside n ((hI.queue i n).1 hn).2)
theorem crash_all {X : D} (hI : X.Inv) (hd : X.down = false) {i : Nat} (hi : i < 16) : ((X.crash [1]).start.file i).now = (X.file i).now := by
  rw [crash_file hd]
  exact saveAll_one i X.queue 0 X.file (X.file i).pend (hI.file i hi) (fun n => by rw [hI.queue]; exact ⟨fun h => ⟨hi, h⟩, fun h => h.2⟩) hI.nodup
theorem crash_nil {X : D} (hd : X.down = false) (i : Nat) : ((X.crash []).start.file i).now = (X.file i).dur := by
  rw [crash_file hd, saveAll_nil]
theorem crash_up' {X : D} (l : List Int) : (X.crash l).start.down = false := rfl

/-! ### The law's helpers -/
theorem index_str (l : List UInt8) (j : Nat) (h : j < l.length) (_ : l.length ≤ 16777216) (wx : World) : (Instr.index 9 (.string ⟨l.toArray⟩) (.int .i64 (j : Int))).run Try.prog wx = .ok (.int .u8 ((bt l j).toNat : Int)) wx := by
  rw [run_index_string wx 9 ⟨l.toArray⟩ .i64 (j : Int) Try.underlying9, dif_pos ⟨by omega, by rw [ba_size']; omega⟩, bt_lt h]
  rfl

set_option maxHeartbeats 1000000 in
set_option maxRecDepth 100000 in
theorem after_c (d : Nat) (S : Nat → Prop) (X : D) (i : Nat) (hi : i < 16) (v : Value) (l : List Int) (w : World) (h : DiskIn w d S X) (hk : KeepAt w v l (fun k => w.heap.size ≤ k)) (hl : l.length ≤ 9223372036854775807) (hin : ∀ k ∈ l, -9223372036854775808 ≤ k ∧ k ≤ 9223372036854775807) :
    Calls Try.prog 23 #[.pointer (some ⟨d, 0, none⟩), .int .i64 (i : Int), v] w fun e w' => e = .returned (.tuple #[.string ⟨((X.crash l).start.file i).now.toArray⟩, .bool true]) ∧ Below w.heap.size w w' := by
  obtain ⟨va, vc, rfl, hv⟩ := hk
  obtain ⟨q, hq⟩ : ∃ q, q = ((X.crash l).start.file i).now := ⟨_, rfl⟩
  rw [← hq]
  have hf64 : -9223372036854775808 ≤ (i : Int) ∧ (i : Int) ≤ 9223372036854775807 := by omega
  go_enter Try.func23, Try.ntmps23
  go_wp2_with fail
  refine (copy_c d _ _ w h).mono ?_
  rintro e w1 ⟨c, rfl, hc1, hb1⟩
  have s1 := hb1.size
  clear h
  have hk1 : KeepAt w1 (.slice va l.length vc) l (fun k => w.heap.size ≤ k) := ⟨va, vc, rfl, fun hne => by
    obtain ⟨b, off, e1, e2, e3⟩ := hv hne
    exact ⟨b, off, e1, e2, fun j x hx => (Kept.below (S := fun _ => False) hb1).cell (e3 j x hx) (fun e => e)⟩⟩
  clear hv
  go_wp2_with fail
  refine (crash_c c _ _ (.slice va l.length vc) l w1 hc1 hk1 hl hin).mono ?_
  rintro e w2 ⟨rfl, hc2, hk2⟩
  replace hc2 := hc2.up s1
  have hb2 := hb1.trans (hk2.toBelow s1 (fun _ e => e))
  have s2 := hb2.size
  clear hc1 hb1 hk2 hk1
  go_wp2_with fail
  refine (start_c c _ _ w2 hc2).mono ?_
  rintro e w3 ⟨rfl, hc3, hk3⟩
  have hb3 := hb2.trans (hk3.toBelow s2 (fun _ e => e))
  clear hc2 hb2 hk3
  have hN : q.length ≤ 16777216 := by rw [hq]; exact (hc3.inv.file i hi).small
  have r : (X.crash l).start.read (i : Int) 0 16777216 = (q, 0) := by
    have := read_good (X := (X.crash l).start) (a := 0) (n := 16777216) rfl hi
    rw [← hq, List.drop_zero, List.take_of_length_le hN] at this
    exact this
  clear hq hN
  go_wp2_with fail
  refine (read_c c _ _ (i : Int) 0 16777216 hf64 (by omega) (by omega) w3 hc3).mono ?_
  rw [r]
  rintro e w5 ⟨rfl, h5⟩
  rw [h5]
  clear h5 r hc3
  go_wp2_with fail
  go_ret2
  exact ⟨rfl, hb3⟩

set_option maxHeartbeats 1000000 in
set_option maxRecDepth 100000 in
theorem byteAt_c (s : List UInt8) (j : Nat) (hs : s.length ≤ 16777216) (hj : j ≤ 16777216) (w : World) :
    Calls Try.prog 24 #[.string ⟨s.toArray⟩, .int .i64 (j : Int)] w fun e w' => e = .returned (.int .u8 ((bt s j).toNat : Int)) ∧ w' = w := by
  have hj0 : ¬ (j : Int) < 0 := by omega
  go_enter Try.func24, Try.ntmps24
  by_cases h : j < s.length
  · have h' : ¬ (s.length : Int) ≤ (j : Int) := by omega
    have hx := index_str s j h hs
    go_wp2_with fail
    go_ret
    exact ⟨rfl, rfl⟩
  · have h' : (s.length : Int) ≤ (j : Int) := by omega
    rw [bt_ge (by omega)]
    go_wp2_with fail
    go_ret
    exact ⟨rfl, rfl⟩
end Go.Proofs.Ythibikdnoogfoaa
