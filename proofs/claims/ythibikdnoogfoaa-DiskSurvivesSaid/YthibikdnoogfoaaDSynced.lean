/-
  DiskSynced returns true, for every two lists of acts, file and list of numbers; of what was there nothing has turned.
-/
import Derived.Test.YthibikdnoogfoaaDReads2
namespace Go.Proofs.Ythibikdnoogfoaa
open Go Go.RowKit Go.Maps Dk

/-! ### What the model says: a file that is settled stays so under acts on other files, and under a crash -/
structure Set' (X : D) (i : Nat) (N : List UInt8) : Prop where
  now : (X.file i).now = N
  dur : (X.file i).dur = N
  pend : ∀ n, (X.file i).pend n = false
  queue : ∀ p ∈ X.queue, p.1 ≠ i
theorem saveAll_other (keep : List Int) (i : Nat) : ∀ (q : List (Nat × Nat)) (k : Nat) (g : Nat → F), (∀ p ∈ q, p.1 ≠ i) → saveAll keep q k g i = g i
  | [], _, _, _ => rfl
  | p :: q, k, g, h => by
    show saveAll keep q (k + 1) (if surv keep k then saveAt g p else g) i = g i
    rw [saveAll_other keep i q (k + 1) _ (fun x hx => h x (List.mem_cons_of_mem _ hx))]
    split
    · exact upd_other _ _ (h p (List.mem_cons_self ..)).symm
    · rfl
theorem Set'.crash {X : D} {i : Nat} {N : List UInt8} (h : Set' X i N) (l : List Int) : Set' (X.crash l) i N := by
  unfold D.crash
  split
  · exact h
  · have e : saveAll l X.queue 0 X.file i = X.file i := saveAll_other l i _ _ _ h.queue
    refine ⟨?_, ?_, fun _ => rfl, fun p hp => by cases hp⟩
    · show (saveAll l X.queue 0 X.file i).revert.now = N
      rw [e]; exact h.dur
    · show (saveAll l X.queue 0 X.file i).revert.dur = N
      rw [e]; exact h.dur
theorem Set'.turn {X Y : D} {i : Nat} {N : List UInt8} (h : Set' X i N) (hf : Y.file i = X.file i) (hq : ∀ p ∈ Y.queue, p.1 ≠ i) : Set' Y i N := ⟨by rw [hf]; exact h.now, by rw [hf]; exact h.dur, by rw [hf]; exact h.pend, hq⟩
theorem Set'.strike {X : D} {i : Nat} {N : List UInt8} (h : Set' X i N) : Set' X.strike.1 i N := by
  unfold D.strike
  split
  · exact h
  · split
    · show Set' (D.crash { X with left := 0 } X.keep) i N
      exact Set'.crash (X := { X with left := 0 }) (h.turn (Y := { X with left := 0 }) rfl h.queue) _
    · exact h.turn rfl h.queue
theorem ok_ne {f : Int} {i : Nat} (h : ok f = true) (hne : f ≠ (i : Int)) : i ≠ f.toNat := by
  unfold ok at h
  rw [decide_eq_true_eq] at h
  omega
theorem Set'.put {X : D} {i : Nat} {N : List UInt8} (h : Set' X i N) (f a : Int) (s : List UInt8) (hne : f ≠ (i : Int)) : Set' (X.put f a s).1 i N := by
  unfold D.put
  split
  · next hc =>
    rw [Bool.and_eq_true] at hc
    have hn := ok_ne hc.1 hne
    split
    · refine h.turn (upd_other _ _ hn) (fun p hp => ?_)
      rcases List.mem_append.1 hp with hp | hp
      · exact h.queue p hp
      · obtain ⟨n, _, rfl⟩ := List.mem_map.1 hp
        exact hn.symm
    · exact h
  · exact h
theorem Set'.write {X : D} {i : Nat} {N : List UInt8} (h : Set' X i N) (f a : Int) (s : List UInt8) (hne : f ≠ (i : Int)) : Set' (X.write f a s).1 i N := by
  unfold D.write
  split
  · exact h
  · dsimp only
    split
    · exact (h.put f a s hne).strike
    · exact (h.put f a s hne).strike
theorem Set'.settle {X : D} {i : Nat} {N : List UInt8} (h : Set' X i N) {f : Nat} (hne : i ≠ f) : Set' (X.settle f) i N := h.turn (upd_other _ _ hne) (fun p hp => h.queue p (List.mem_filter.1 hp).1)
theorem Set'.sync {X : D} {i : Nat} {N : List UInt8} (h : Set' X i N) (f : Int) (hne : f ≠ (i : Int)) : Set' (X.sync f).1 i N := by
  unfold D.sync
  split
  · exact h
  · dsimp only
    split
    · exact h.strike
    · split
      · next hf =>
        split
        · exact h.strike.turn rfl h.strike.queue
        · exact h.strike.settle (ok_ne hf hne)
      · exact h.strike
theorem Set'.trunc {X : D} {i : Nat} {N : List UInt8} (h : Set' X i N) (f z : Int) (hne : f ≠ (i : Int)) : Set' (X.trunc f z).1 i N := by
  unfold D.trunc
  split
  · exact h
  · dsimp only
    split
    · exact h.strike
    · split
      · next hf =>
        rw [Bool.and_eq_true, Bool.and_eq_true] at hf
        have hn := ok_ne hf.1.1 hne
        exact (h.strike.settle hn).turn (upd_other _ _ hn) (h.strike.settle hn).queue
      · exact h.strike
theorem Set'.act {X : D} {i : Nat} {N : List UInt8} (h : Set' X i N) (a : Act) (hc : (code a < 4 ∧ a.f ≠ (i : Int)) ∨ code a = 4) : Set' (doM X a).1 i N := by
  unfold doM
  rcases hc with ⟨h4, hne⟩ | h4
  · split
    · exact h.sync _ hne
    · split
      · exact h.trunc _ _ hne
      · rw [if_neg (by omega), if_neg (by omega), if_neg (by omega), if_neg (by omega)]
        exact h.write _ _ _ hne
  · rw [if_neg (by omega), if_neg (by omega), if_pos h4]
    exact h.turn rfl h.queue
theorem strike_keep {X : D} (h : X.strike.2 = false) : X.strike.1.file = X.file ∧ X.strike.1.down = X.down ∧ X.strike.1.queue = X.queue := by
  unfold D.strike at h ⊢
  split
  · exact ⟨rfl, rfl, rfl⟩
  · next h0 =>
    rw [if_neg h0] at h
    split
    · next h1 => rw [if_pos h1] at h; cases h
    · exact ⟨rfl, rfl, rfl⟩
/-- A sync that succeeds. -/
theorem sync_good {X : D} {f : Int} (h : (X.sync f).2 = 0) : ∃ i : Nat, i < 16 ∧ f = (i : Int) ∧ X.down = false ∧ (X.sync f).1.down = false ∧ Set' (X.sync f).1 i (X.file i).now := by
  unfold D.sync at h ⊢
  cases hd : X.down with
  | true => rw [hd] at h; cases h
  | false =>
    rw [hd, if_neg (by simp)] at h
    rw [if_neg (by simp)]
    dsimp only at h ⊢
    cases hs : X.strike.2 with
    | true => rw [hs] at h; cases h
    | false =>
      obtain ⟨k1, k2, k3⟩ := strike_keep hs
      rw [hs, if_neg (by simp)] at h
      rw [if_neg (by simp)]
      cases ho : ok f with
      | false => rw [ho, if_neg (by simp)] at h; cases h
      | true =>
        rw [ho, if_pos rfl] at h
        rw [if_pos rfl]
        by_cases hl : 0 < X.strike.1.lost
        · rw [if_pos hl] at h; cases h
        · rw [if_neg hl]
          unfold ok at ho
          rw [decide_eq_true_eq] at ho
          obtain ⟨i, rfl⟩ := Int.eq_ofNat_of_zero_le ho.1
          refine ⟨i, by omega, rfl, rfl, by show X.strike.1.down = false; rw [k2, hd], ?_⟩
          have e : (X.strike.1.settle (i : Int).toNat).file i = (X.file i).settle := by
            show upd X.strike.1.file (i : Int).toNat _ i = _
            rw [Int.toNat_natCast, upd_same, k1]
          refine ⟨by rw [e]; rfl, by rw [e]; rfl, by rw [e]; exact fun _ => rfl, fun p hp => ?_⟩
          have := (List.mem_filter.1 hp).2
          simpa using this
theorem read_all {X : D} {i : Nat} {N : List UInt8} (hd : X.down = false) (hi : i < 16) (hN : (X.file i).now = N) (hl : N.length ≤ 16777216) : X.read (i : Int) 0 16777216 = (N, 0) := by
  have := read_good (a := 0) (n := 16777216) hd hi
  rw [hN, List.drop_zero, List.take_of_length_le hl] at this
  exact this
theorem KeepAt.on' {w w' : World} {v : Value} {l : List Int} (h : SrcV w 1 v l.length (intsV l)) (hb : Below w.heap.size w w') {S : Nat → Prop} (hS : ∀ k, S k → w.heap.size ≤ k) : KeepAt w' v l S := h.keepAt hb hS
end Go.Proofs.Ythibikdnoogfoaa
