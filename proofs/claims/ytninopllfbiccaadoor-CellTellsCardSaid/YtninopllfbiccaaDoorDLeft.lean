/-
  What a crash leaves of a file, and files that are settled: what the model says (the same lemmas stand in DSurvive and DSynced: for seats without the disk's laws).
-/
import Derived.Test.YtninopllfbiccaaDoorDModel
namespace Go.Proofs.YtninopllfbiccaaDoor
set_option maxRecDepth 100000
open Dk
/-! ### The model -/
theorem surv_one (k : Nat) : surv [1] k = true := by
  unfold surv
  simp only [List.length_singleton, Nat.mod_one, List.getElem?_cons_zero]
  decide
theorem saveAll_now (keep : List Int) : ∀ (q : List (Nat × Nat)) (k : Nat) (g : Nat → F) (i : Nat), (saveAll keep q k g i).now = (g i).now
  | [], _, _, _ => rfl
  | p :: q, k, g, i => by
    show (saveAll keep q (k + 1) (if surv keep k then saveAt g p else g) i).now = _
    rw [saveAll_now keep q (k + 1) _ i]
    split
    · unfold saveAt upd
      split
      · next e => subst e; rfl
      · rfl
    · rfl
/-- Every pending sector survives: the file is what it was. -/
theorem saveAll_one (i : Nat) : ∀ (q : List (Nat × Nat)) (k : Nat) (g : Nat → F) (pnd : Nat → Bool), F.Inv { g i with pend := pnd } → (∀ n, pnd n = true ↔ (i, n) ∈ q) → q.Nodup → (saveAll [1] q k g i).dur = (g i).now
  | [], _, g, pnd, hI, hq, _ => by
    have := F.inv_none hI (fun n => by
      show pnd n = false
      cases h : pnd n with
      | false => rfl
      | true => exact absurd ((hq n).1 h) (by simp))
    exact this
  | p :: q, k, g, pnd, hI, hq, hn => by
    show (saveAll [1] q (k + 1) (if surv [1] k then saveAt g p else g) i).dur = _
    rw [surv_one, if_pos rfl]
    obtain ⟨hn1, hn2⟩ := List.nodup_cons.1 hn
    obtain ⟨j, m⟩ := p
    by_cases hji : j = i
    · subst hji
      have e1 : saveAt g (j, m) j = (g j).save m := by unfold saveAt; exact upd_same _ _ _
      have hm : pnd m = true := (hq m).2 (List.mem_cons_self ..)
      have hI' := F.save_inv hI (n := m) hm
      have := saveAll_one j q (k + 1) (saveAt g (j, m)) (fun x => pnd x && !(x == m)) (by rw [e1]; exact hI') (fun n => by
        rw [Bool.and_eq_true, hq]
        constructor
        · rintro ⟨h1, h2⟩
          rcases List.mem_cons.1 h1 with h1 | h1
          · injection h1 with _ h3
            simp [h3] at h2
          · exact h1
        · intro h1
          refine ⟨List.mem_cons_of_mem _ h1, ?_⟩
          simp only [Bool.not_eq_true', beq_eq_false_iff_ne]
          rintro rfl
          exact hn1 h1) hn2
      rw [this, e1]
      rfl
    · have e1 : saveAt g (j, m) i = g i := by unfold saveAt; exact upd_other _ _ (fun e => hji e.symm)
      have := saveAll_one i q (k + 1) (saveAt g (j, m)) pnd (by rw [e1]; exact hI) (fun n => by
        rw [hq, List.mem_cons]
        constructor
        · rintro (h | h)
          · injection h with h1 _; exact absurd h1.symm hji
          · exact h
        · exact Or.inr) hn2
      rw [this, e1]
/-- What a crash leaves: no shorter than what is durable, no longer than the file; each sector is the file's or the durable one. -/
structure Left (N B s : List UInt8) : Prop where
  ge : B.length ≤ s.length
  le : s.length ≤ N.length
  sec : ∀ n, (min (64 * n + 64) N.length ≤ s.length ∧ ∀ j, j / 64 = n → j < N.length → bt s j = bt N j) ∨ ∀ j, j / 64 = n → bt s j = bt B j
theorem Left.refl {N B : List UInt8} (h : B.length ≤ N.length) : Left N B B := ⟨Nat.le_refl _, h, fun _ => Or.inr fun _ _ => rfl⟩
theorem Left.save {N B s : List UInt8} (h : Left N B s) {m : Nat} (hm : 64 * m < N.length) : Left N B (put s (64 * m) (Dk.sec N m)) := by
  have hle := h.le
  have hge := h.ge
  have hl : (put s (64 * m) (Dk.sec N m)).length = max s.length (64 * m + min 64 (N.length - 64 * m)) := by rw [put_length, sec_length]
  refine ⟨by rw [hl]; omega, by rw [hl]; omega, fun n => ?_⟩
  by_cases hn : n = m
  · subst hn
    refine Or.inl ⟨by rw [hl]; omega, fun j hj hjN => ?_⟩
    rw [put_bt, sec_length, if_pos (by omega), sec_bt _ _ _ (by omega)]
    congr 1
    omega
  · have hb : ∀ j, j / 64 = n → bt (put s (64 * m) (Dk.sec N m)) j = bt s j := fun j hj => by rw [put_bt, sec_length, if_neg (by omega)]
    rcases h.sec n with ⟨h1, h2⟩ | h2
    · exact Or.inl ⟨by rw [hl]; omega, fun j hj hjN => by rw [hb j hj, h2 j hj hjN]⟩
    · exact Or.inr fun j hj => by rw [hb j hj, h2 j hj]
theorem saveAll_left (keep : List Int) (i : Nat) (N B : List UInt8) : ∀ (q : List (Nat × Nat)) (k : Nat) (g : Nat → F), (g i).now = N → Left N B (g i).dur → (∀ n, (i, n) ∈ q → 64 * n < N.length) → Left N B (saveAll keep q k g i).dur
  | [], _, _, _, h, _ => h
  | p :: q, k, g, hN, h, hq => by
    show Left N B (saveAll keep q (k + 1) (if surv keep k then saveAt g p else g) i).dur
    obtain ⟨j, m⟩ := p
    have hq' : ∀ n, (i, n) ∈ q → 64 * n < N.length := fun n hn => hq n (List.mem_cons_of_mem _ hn)
    split
    · by_cases hji : j = i
      · subst hji
        have e1 : saveAt g (j, m) j = (g j).save m := by unfold saveAt; exact upd_same _ _ _
        refine saveAll_left keep j N B q (k + 1) _ (by rw [e1]; exact hN) (by rw [e1]; unfold F.save; rw [hN]; exact h.save (hq m (List.mem_cons_self ..))) hq'
      · have e1 : saveAt g (j, m) i = g i := by unfold saveAt; exact upd_other _ _ (fun e => hji e.symm)
        exact saveAll_left keep i N B q (k + 1) _ (by rw [e1]; exact hN) (by rw [e1]; exact h) hq'
    · exact saveAll_left keep i N B q (k + 1) g hN h hq'
theorem crash_file {X : D} (hd : X.down = false) (keep : List Int) (i : Nat) : ((X.crash keep).start.file i).now = (saveAll keep X.queue 0 X.file i).dur := by
  unfold D.crash
  rw [if_neg (by rw [hd]; simp)]
  rfl
theorem crash_left {X : D} (hI : X.Inv) (hd : X.down = false) (keep : List Int) {i : Nat} (hi : i < 16) : Left (X.file i).now (X.file i).dur ((X.crash keep).start.file i).now := by
  rw [crash_file hd]
  exact saveAll_left keep i _ _ X.queue 0 X.file rfl (Left.refl (hI.file i hi).le) (fun n hn => (hI.file i hi).inside n ((hI.queue i n).1 hn).2)
/-! ### What the model says: a file that is settled stays so under acts on other files, and under a crash -/
structure Set' (X : D) (i : Nat) (N : List UInt8) : Prop where
  now : (X.file i).now = N
  dur : (X.file i).dur = N
  pend : ∀ n, (X.file i).pend n = false
  queue : ∀ p ∈ X.queue, p.1 ≠ i
theorem saveAll_other (keep : List Int) (i : Nat) : ∀ (q : List (Nat × Nat)) (k : Nat) (g : Nat → F), (∀ p ∈ q, p.1 ≠ i) → saveAll keep q k g i = g i
  | [], _, _, _ => rfl
  | p :: q, k, g, h => by
    show saveAll keep q (k + 1) (if surv keep k then saveAt g p else g) i = g i
    rw [saveAll_other keep i q (k + 1) _ (fun x hx => h x (List.mem_cons_of_mem _ hx))]
    split
    · exact upd_other _ _ (h p (List.mem_cons_self ..)).symm
    · rfl
theorem Set'.crash {X : D} {i : Nat} {N : List UInt8} (h : Set' X i N) (l : List Int) : Set' (X.crash l) i N := by
  unfold D.crash
  split
  · exact h
  · have e : saveAll l X.queue 0 X.file i = X.file i := saveAll_other l i _ _ _ h.queue
    refine ⟨?_, ?_, fun _ => rfl, fun p hp => by cases hp⟩
    · show (saveAll l X.queue 0 X.file i).revert.now = N
      rw [e]; exact h.dur
    · show (saveAll l X.queue 0 X.file i).revert.dur = N
      rw [e]; exact h.dur
theorem Set'.turn {X Y : D} {i : Nat} {N : List UInt8} (h : Set' X i N) (hf : Y.file i = X.file i) (hq : ∀ p ∈ Y.queue, p.1 ≠ i) : Set' Y i N := ⟨by rw [hf]; exact h.now, by rw [hf]; exact h.dur, by rw [hf]; exact h.pend, hq⟩
theorem Set'.strike {X : D} {i : Nat} {N : List UInt8} (h : Set' X i N) : Set' X.strike.1 i N := by
  unfold D.strike
  split
  · exact h
  · split
    · show Set' (D.crash { X with left := 0 } X.keep) i N
      exact Set'.crash (X := { X with left := 0 }) (h.turn (Y := { X with left := 0 }) rfl h.queue) _
    · exact h.turn rfl h.queue
theorem ok_ne {f : Int} {i : Nat} (h : ok f = true) (hne : f ≠ (i : Int)) : i ≠ f.toNat := by
  unfold ok at h
  rw [decide_eq_true_eq] at h
  omega
theorem Set'.put {X : D} {i : Nat} {N : List UInt8} (h : Set' X i N) (f a : Int) (s : List UInt8) (hne : f ≠ (i : Int)) : Set' (X.put f a s).1 i N := by
  unfold D.put
  split
  · next hc =>
    rw [Bool.and_eq_true] at hc
    have hn := ok_ne hc.1 hne
    split
    · refine h.turn (upd_other _ _ hn) (fun p hp => ?_)
      rcases List.mem_append.1 hp with hp | hp
      · exact h.queue p hp
      · obtain ⟨n, _, rfl⟩ := List.mem_map.1 hp
        exact hn.symm
    · exact h
  · exact h
theorem Set'.write {X : D} {i : Nat} {N : List UInt8} (h : Set' X i N) (f a : Int) (s : List UInt8) (hne : f ≠ (i : Int)) : Set' (X.write f a s).1 i N := by
  unfold D.write
  split
  · exact h
  · dsimp only
    split
    · exact (h.put f a s hne).strike
    · exact (h.put f a s hne).strike
theorem Set'.settle {X : D} {i : Nat} {N : List UInt8} (h : Set' X i N) {f : Nat} (hne : i ≠ f) : Set' (X.settle f) i N := h.turn (upd_other _ _ hne) (fun p hp => h.queue p (List.mem_filter.1 hp).1)
theorem Set'.sync {X : D} {i : Nat} {N : List UInt8} (h : Set' X i N) (f : Int) (hne : f ≠ (i : Int)) : Set' (X.sync f).1 i N := by
  unfold D.sync
  split
  · exact h
  · dsimp only
    split
    · exact h.strike
    · split
      · next hf =>
        split
        · exact h.strike.turn rfl h.strike.queue
        · exact h.strike.settle (ok_ne hf hne)
      · exact h.strike
theorem Set'.trunc {X : D} {i : Nat} {N : List UInt8} (h : Set' X i N) (f z : Int) (hne : f ≠ (i : Int)) : Set' (X.trunc f z).1 i N := by
  unfold D.trunc
  split
  · exact h
  · dsimp only
    split
    · exact h.strike
    · split
      · next hf =>
        rw [Bool.and_eq_true, Bool.and_eq_true] at hf
        have hn := ok_ne hf.1.1 hne
        exact (h.strike.settle hn).turn (upd_other _ _ hn) (h.strike.settle hn).queue
      · exact h.strike
theorem strike_keep {X : D} (h : X.strike.2 = false) : X.strike.1.file = X.file ∧ X.strike.1.down = X.down ∧ X.strike.1.queue = X.queue := by
  unfold D.strike at h ⊢
  split
  · exact ⟨rfl, rfl, rfl⟩
  · next h0 =>
    rw [if_neg h0] at h
    split
    · next h1 => rw [if_pos h1] at h; cases h
    · exact ⟨rfl, rfl, rfl⟩
/-- A sync that succeeds. -/
theorem sync_good {X : D} {f : Int} (h : (X.sync f).2 = 0) : ∃ i : Nat, i < 16 ∧ f = (i : Int) ∧ X.down = false ∧ (X.sync f).1.down = false ∧ Set' (X.sync f).1 i (X.file i).now := by
  unfold D.sync at h ⊢
  cases hd : X.down with
  | true => rw [hd] at h; cases h
  | false =>
    rw [hd, if_neg (by simp)] at h
    rw [if_neg (by simp)]
    dsimp only at h ⊢
    cases hs : X.strike.2 with
    | true => rw [hs] at h; cases h
    | false =>
      obtain ⟨k1, k2, k3⟩ := strike_keep hs
      rw [hs, if_neg (by simp)] at h
      rw [if_neg (by simp)]
      cases ho : ok f with
      | false => rw [ho, if_neg (by simp)] at h; cases h
      | true =>
        rw [ho, if_pos rfl] at h
        rw [if_pos rfl]
        by_cases hl : 0 < X.strike.1.lost
        · rw [if_pos hl] at h; cases h
        · rw [if_neg hl]
          unfold ok at ho
          rw [decide_eq_true_eq] at ho
          obtain ⟨i, rfl⟩ := Int.eq_ofNat_of_zero_le ho.1
          refine ⟨i, by omega, rfl, rfl, by show X.strike.1.down = false; rw [k2, hd], ?_⟩
          have e : (X.strike.1.settle (i : Int).toNat).file i = (X.file i).settle := by
            show upd X.strike.1.file (i : Int).toNat _ i = _
            rw [Int.toNat_natCast, upd_same, k1]
          refine ⟨by rw [e]; rfl, by rw [e]; rfl, by rw [e]; exact fun _ => rfl, fun p hp => ?_⟩
          have := (List.mem_filter.1 hp).2
          simpa using this

end Go.Proofs.YtninopllfbiccaaDoor
