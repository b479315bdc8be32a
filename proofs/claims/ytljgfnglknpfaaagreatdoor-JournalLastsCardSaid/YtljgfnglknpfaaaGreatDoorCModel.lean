/-
  What a crash leaves of a file, and files that are settled: what the model says (the same lemmas stand in DSurvive and DSynced: for seats without the disk's laws).
  A cell in a file of a disk, as a model: what the file holds, what Open and Set do, and what a crash leaves.
-/
import Derived.Test.YtljgfnglknpfaaaGreatDoorDModel
namespace Go.Proofs.YtljgfnglknpfaaaGreatDoor
set_option maxRecDepth 100000
open Dk
/-! ### The model -/
theorem surv_one (k : Nat) : surv [1] k = true := by
  unfold surv
  simp only [List.length_singleton, Nat.mod_one, List.getElem?_cons_zero]
  decide
theorem saveAll_now (keep : List Int) : ∀ (q : List (Nat × Nat)) (k : Nat) (g : Nat → F) (i : Nat), (saveAll keep q k g i).now = (g i).now
  | [], _, _, _ => rfl
  | p :: q, k, g, i => by
    show (saveAll keep q (k + 1) (if surv keep k then saveAt g p else g) i).now = _
    rw [saveAll_now keep q (k + 1) _ i]
    split
    · unfold saveAt upd
      split
      · next e => subst e; rfl
      · rfl
    · rfl
/-- Every pending sector survives: the file is what it was. -/
theorem saveAll_one (i : Nat) : ∀ (q : List (Nat × Nat)) (k : Nat) (g : Nat → F) (pnd : Nat → Bool), F.Inv { g i with pend := pnd } → (∀ n, pnd n = true ↔ (i, n) ∈ q) → q.Nodup → (saveAll [1] q k g i).dur = (g i).now
  | [], _, g, pnd, hI, hq, _ => by
    have := F.inv_none hI (fun n => by
      show pnd n = false
      cases h : pnd n with
      | false => rfl
      | true => exact absurd ((hq n).1 h) (by simp))
    exact this
  | p :: q, k, g, pnd, hI, hq, hn => by
    show (saveAll [1] q (k + 1) (if surv [1] k then saveAt g p else g) i).dur = _
    rw [surv_one, if_pos rfl]
    obtain ⟨hn1, hn2⟩ := List.nodup_cons.1 hn
    obtain ⟨j, m⟩ := p
    by_cases hji : j = i
    · subst hji
      have e1 : saveAt g (j, m) j = (g j).save m := by unfold saveAt; exact upd_same _ _ _
      have hm : pnd m = true := (hq m).2 (List.mem_cons_self ..)
      have hI' := F.save_inv hI (n := m) hm
      have := saveAll_one j q (k + 1) (saveAt g (j, m)) (fun x => pnd x && !(x == m)) (by rw [e1]; exact hI') (fun n => by
        rw [Bool.and_eq_true, hq]
        constructor
        · rintro ⟨h1, h2⟩
          rcases List.mem_cons.1 h1 with h1 | h1
          · injection h1 with _ h3
            simp [h3] at h2
          · exact h1
        · intro h1
          refine ⟨List.mem_cons_of_mem _ h1, ?_⟩
          simp only [Bool.not_eq_true', beq_eq_false_iff_ne]
          rintro rfl
          exact hn1 h1) hn2
      rw [this, e1]
      rfl
    · have e1 : saveAt g (j, m) i = g i := by unfold saveAt; exact upd_other _ _ (fun e => hji e.symm)
      have := saveAll_one i q (k + 1) (saveAt g (j, m)) pnd (by rw [e1]; exact hI) (fun n => by
        rw [hq, List.mem_cons]
        constructor
        · rintro (h | h)
          · injection h with h1 _; exact absurd h1.symm hji
          · exact h
        · exact Or.inr) hn2
      rw [this, e1]
/-- What a crash leaves: no shorter than what is durable, no longer than the file; each sector is the file's or the durable one. -/
structure Left (N B s : List UInt8) : Prop where
  ge : B.length ≤ s.length
  le : s.length ≤ N.length
  sec : ∀ n, (min (64 * n + 64) N.length ≤ s.length ∧ ∀ j, j / 64 = n → j < N.length → bt s j = bt N j) ∨ ∀ j, j / 64 = n → bt s j = bt B j
theorem Left.refl {N B : List UInt8} (h : B.length ≤ N.length) : Left N B B := ⟨Nat.le_refl _, h, fun _ => Or.inr fun _ _ => rfl⟩
theorem Left.save {N B s : List UInt8} (h : Left N B s) {m : Nat} (hm : 64 * m < N.length) : Left N B (put s (64 * m) (Dk.sec N m)) := by
  have hle := h.le
  have hge := h.ge
  have hl : (put s (64 * m) (Dk.sec N m)).length = max s.length (64 * m + min 64 (N.length - 64 * m)) := by rw [put_length, sec_length]
  refine ⟨by rw [hl]; omega, by rw [hl]; omega, fun n => ?_⟩
  by_cases hn : n = m
  · subst hn
    refine Or.inl ⟨by rw [hl]; omega, fun j hj hjN => ?_⟩
    rw [put_bt, sec_length, if_pos (by omega), sec_bt _ _ _ (by omega)]
    congr 1
    omega
  · have hb : ∀ j, j / 64 = n → bt (put s (64 * m) (Dk.sec N m)) j = bt s j := fun j hj => by rw [put_bt, sec_length, if_neg (by omega)]
    rcases h.sec n with ⟨h1, h2⟩ | h2
    · exact Or.inl ⟨by rw [hl]; omega, fun j hj hjN => by rw [hb j hj, h2 j hj hjN]⟩
    · exact Or.inr fun j hj => by rw [hb j hj, h2 j hj]
theorem saveAll_left (keep : List Int) (i : Nat) (N B : List UInt8) : ∀ (q : List (Nat × Nat)) (k : Nat) (g : Nat → F), (g i).now = N → Left N B (g i).dur → (∀ n, (i, n) ∈ q → 64 * n < N.length) → Left N B (saveAll keep q k g i).dur
  | [], _, _, _, h, _ => h
  | p :: q, k, g, hN, h, hq => by
    show Left N B (saveAll keep q (k + 1) (if surv keep k then saveAt g p else g) i).dur
    obtain ⟨j, m⟩ := p
    have hq' : ∀ n, (i, n) ∈ q → 64 * n < N.length := fun n hn => hq n (List.mem_cons_of_mem _ hn)
    split
    · by_cases hji : j = i
      · subst hji
        have e1 : saveAt g (j, m) j = (g j).save m := by unfold saveAt; exact upd_same _ _ _
        refine saveAll_left keep j N B q (k + 1) _ (by rw [e1]; exact hN) (by rw [e1]; unfold F.save; rw [hN]; exact h.save (hq m (List.mem_cons_self ..))) hq'
      · have e1 : saveAt g (j, m) i = g i := by unfold saveAt; exact upd_other _ _ (fun e => hji e.symm)
        exact saveAll_left keep i N B q (k + 1) _ (by rw [e1]; exact hN) (by rw [e1]; exact h) hq'
    · exact saveAll_left keep i N B q (k + 1) g hN h hq'
theorem crash_file {X : D} (hd : X.down = false) (keep : List Int) (i : Nat) : ((X.crash keep).start.file i).now = (saveAll keep X.queue 0 X.file i).dur := by
  unfold D.crash
  rw [if_neg (by rw [hd]; simp)]
  rfl
theorem crash_left {X : D} (hI : X.Inv) (hd : X.down = false) (keep : List Int) {i : Nat} (hi : i < 16) : Left (X.file i).now (X.file i).dur ((X.crash keep).start.file i).now := by
  rw [crash_file hd]
  exact saveAll_left keep i _ _ X.queue 0 X.file rfl (Left.refl (hI.file i hi).le) (fun n hn => (hI.file i hi).inside n ((hI.queue i n).1 hn).2)
/-! ### What the model says: a file that is settled stays so under acts on other files, and under a crash -/
structure Set' (X : D) (i : Nat) (N : List UInt8) : Prop where
  now : (X.file i).now = N
  dur : (X.file i).dur = N
  pend : ∀ n, (X.file i).pend n = false
  queue : ∀ p ∈ X.queue, p.1 ≠ i
theorem saveAll_other (keep : List Int) (i : Nat) : ∀ (q : List (Nat × Nat)) (k : Nat) (g : Nat → F), (∀ p ∈ q, p.1 ≠ i) → saveAll keep q k g i = g i
  | [], _, _, _ => rfl
  | p :: q, k, g, h => by
    show saveAll keep q (k + 1) (if surv keep k then saveAt g p else g) i = g i
    rw [saveAll_other keep i q (k + 1) _ (fun x hx => h x (List.mem_cons_of_mem _ hx))]
    split
    · exact upd_other _ _ (h p (List.mem_cons_self ..)).symm
    · rfl
theorem Set'.crash {X : D} {i : Nat} {N : List UInt8} (h : Set' X i N) (l : List Int) : Set' (X.crash l) i N := by
  unfold D.crash
  split
  · exact h
  · have e : saveAll l X.queue 0 X.file i = X.file i := saveAll_other l i _ _ _ h.queue
    refine ⟨?_, ?_, fun _ => rfl, fun p hp => by cases hp⟩
    · show (saveAll l X.queue 0 X.file i).revert.now = N
      rw [e]; exact h.dur
    · show (saveAll l X.queue 0 X.file i).revert.dur = N
      rw [e]; exact h.dur
theorem Set'.turn {X Y : D} {i : Nat} {N : List UInt8} (h : Set' X i N) (hf : Y.file i = X.file i) (hq : ∀ p ∈ Y.queue, p.1 ≠ i) : Set' Y i N := ⟨by rw [hf]; exact h.now, by rw [hf]; exact h.dur, by rw [hf]; exact h.pend, hq⟩
theorem Set'.strike {X : D} {i : Nat} {N : List UInt8} (h : Set' X i N) : Set' X.strike.1 i N := by
  unfold D.strike
  split
  · exact h
  · split
    · show Set' (D.crash { X with left := 0 } X.keep) i N
      exact Set'.crash (X := { X with left := 0 }) (h.turn (Y := { X with left := 0 }) rfl h.queue) _
    · exact h.turn rfl h.queue
theorem ok_ne {f : Int} {i : Nat} (h : ok f = true) (hne : f ≠ (i : Int)) : i ≠ f.toNat := by
  unfold ok at h
  rw [decide_eq_true_eq] at h
  omega
theorem Set'.put {X : D} {i : Nat} {N : List UInt8} (h : Set' X i N) (f a : Int) (s : List UInt8) (hne : f ≠ (i : Int)) : Set' (X.put f a s).1 i N := by
  unfold D.put
  split
  · next hc =>
    rw [Bool.and_eq_true] at hc
    have hn := ok_ne hc.1 hne
    split
    · refine h.turn (upd_other _ _ hn) (fun p hp => ?_)
      rcases List.mem_append.1 hp with hp | hp
      · exact h.queue p hp
      · obtain ⟨n, _, rfl⟩ := List.mem_map.1 hp
        exact hn.symm
    · exact h
  · exact h
theorem Set'.write {X : D} {i : Nat} {N : List UInt8} (h : Set' X i N) (f a : Int) (s : List UInt8) (hne : f ≠ (i : Int)) : Set' (X.write f a s).1 i N := by
  unfold D.write
  split
  · exact h
  · dsimp only
    split
    · exact (h.put f a s hne).strike
    · exact (h.put f a s hne).strike
theorem Set'.settle {X : D} {i : Nat} {N : List UInt8} (h : Set' X i N) {f : Nat} (hne : i ≠ f) : Set' (X.settle f) i N := h.turn (upd_other _ _ hne) (fun p hp => h.queue p (List.mem_filter.1 hp).1)
theorem Set'.sync {X : D} {i : Nat} {N : List UInt8} (h : Set' X i N) (f : Int) (hne : f ≠ (i : Int)) : Set' (X.sync f).1 i N := by
  unfold D.sync
  split
  · exact h
  · dsimp only
    split
    · exact h.strike
    · split
      · next hf =>
        split
        · exact h.strike.turn rfl h.strike.queue
        · exact h.strike.settle (ok_ne hf hne)
      · exact h.strike
theorem Set'.trunc {X : D} {i : Nat} {N : List UInt8} (h : Set' X i N) (f z : Int) (hne : f ≠ (i : Int)) : Set' (X.trunc f z).1 i N := by
  unfold D.trunc
  split
  · exact h
  · dsimp only
    split
    · exact h.strike
    · split
      · next hf =>
        rw [Bool.and_eq_true, Bool.and_eq_true] at hf
        have hn := ok_ne hf.1.1 hne
        exact (h.strike.settle hn).turn (upd_other _ _ hn) (h.strike.settle hn).queue
      · exact h.strike
theorem strike_keep {X : D} (h : X.strike.2 = false) : X.strike.1.file = X.file ∧ X.strike.1.down = X.down ∧ X.strike.1.queue = X.queue := by
  unfold D.strike at h ⊢
  split
  · exact ⟨rfl, rfl, rfl⟩
  · next h0 =>
    rw [if_neg h0] at h
    split
    · next h1 => rw [if_pos h1] at h; cases h
    · exact ⟨rfl, rfl, rfl⟩
/-- A sync that succeeds. -/
theorem sync_good {X : D} {f : Int} (h : (X.sync f).2 = 0) : ∃ i : Nat, i < 16 ∧ f = (i : Int) ∧ X.down = false ∧ (X.sync f).1.down = false ∧ Set' (X.sync f).1 i (X.file i).now := by
  unfold D.sync at h ⊢
  cases hd : X.down with
  | true => rw [hd] at h; cases h
  | false =>
    rw [hd, if_neg (by simp)] at h
    rw [if_neg (by simp)]
    dsimp only at h ⊢
    cases hs : X.strike.2 with
    | true => rw [hs] at h; cases h
    | false =>
      obtain ⟨k1, k2, k3⟩ := strike_keep hs
      rw [hs, if_neg (by simp)] at h
      rw [if_neg (by simp)]
      cases ho : ok f with
      | false => rw [ho, if_neg (by simp)] at h; cases h
      | true =>
        rw [ho, if_pos rfl] at h
        rw [if_pos rfl]
        by_cases hl : 0 < X.strike.1.lost
        · rw [if_pos hl] at h; cases h
        · rw [if_neg hl]
          unfold ok at ho
          rw [decide_eq_true_eq] at ho
          obtain ⟨i, rfl⟩ := Int.eq_ofNat_of_zero_le ho.1
          refine ⟨i, by omega, rfl, rfl, by show X.strike.1.down = false; rw [k2, hd], ?_⟩
          have e : (X.strike.1.settle (i : Int).toNat).file i = (X.file i).settle := by
            show upd X.strike.1.file (i : Int).toNat _ i = _
            rw [Int.toNat_natCast, upd_same, k1]
          refine ⟨by rw [e]; rfl, by rw [e]; rfl, by rw [e]; exact fun _ => rfl, fun p hp => ?_⟩
          have := (List.mem_filter.1 hp).2
          simpa using this

end Go.Proofs.YtljgfnglknpfaaaGreatDoor

namespace Go.Proofs.YtljgfnglknpfaaaGreatDoor
set_option maxRecDepth 100000
open Dk
namespace Ck

/-- A cell: its slot (0: none), its value, and whether its header is known to be durable. -/
structure C where
  slot : Nat
  val : List UInt8
  sure : Bool

def start (k : Nat) : Nat := if k = 2 then 131072 else 64
def other (k : Nat) : Nat := if k = 1 then 2 else 1
def header (k n : Nat) : List UInt8 := [UInt8.ofNat k, UInt8.ofNat n, UInt8.ofNat (n / 256), UInt8.ofNat (n / 65536), UInt8.ofNat (n / 16777216)]
/-- The length that a header names. -/
def hlen (h : List UInt8) : Nat := (bt h 1).toNat + 256 * (bt h 2).toNat + 65536 * (bt h 3).toNat + 16777216 * (bt h 4).toNat

/-- What Open makes of the bytes of a file. -/
def openB (N : List UInt8) : Option C × Int :=
  if bt N 0 = 0 then (some ⟨0, [], false⟩, 0)
  else if N.length < 5 then (none, 2)
  else if (bt N 0 ≠ 1 ∧ bt N 0 ≠ 2) ∨ 65536 < hlen N then (none, 2)
  else if ((N.drop (start (bt N 0).toNat)).take (hlen N)).length ≠ hlen N then (none, 2)
  else (some ⟨(bt N 0).toNat, (N.drop (start (bt N 0).toNat)).take (hlen N), false⟩, 0)
def openM (d : D) (f : Int) : Option C × Int :=
  if d.down then (none, 9) else if ok f then openB (d.file f.toNat).now else (none, 1)

/-- The steps of Set behind the first sync. -/
def setB (d : D) (f : Int) (c : C) (s : List UInt8) : D × C × Int :=
  let k := other c.slot
  let a := d.write f (start k : Nat) s
  if a.2 ≠ 0 then (a.1, c, a.2) else
  let b := a.1.sync f
  if b.2 ≠ 0 then (b.1, c, b.2) else
  let h := b.1.write f 0 (header k s.length)
  if h.2 ≠ 0 then (h.1, c, h.2) else
  let z := h.1.sync f
  (z.1, ⟨k, s, z.2 == 0⟩, z.2)
def setM (d : D) (f : Int) (c : C) (s : List UInt8) : D × C × Int :=
  if 65536 < s.length then (d, c, 6) else
  if c.sure = false ∧ c.slot ≠ 0 then
    let a := d.sync f
    if a.2 ≠ 0 then (a.1, c, a.2) else setB a.1 f { c with sure := true } s
  else setB d f c s

/-! ### What a file holds -/
/-- The bytes X hold the value v in the slot k (no value: k is 0). -/
structure Holds (X : List UInt8) (k : Nat) (v : List UInt8) : Prop where
  slot : k ≤ 2
  none : k = 0 → bt X 0 = 0 ∧ v = []
  head : k ≠ 0 → 5 ≤ X.length ∧ ∀ i, i < 5 → bt X i = bt (header k v.length) i
  small : v.length ≤ 65536
  long : k ≠ 0 → v = [] ∨ start k + v.length ≤ X.length
  data : ∀ i, i < v.length → bt X (start k + i) = bt v i

theorem start_le (k : Nat) : 64 ≤ start k ∧ start k ≤ 131072 := by unfold start; split <;> omega
theorem other_ne (k : Nat) : other k ≠ k ∧ other k ≠ 0 ∧ other k ≤ 2 := by unfold other; split <;> omega

theorem Holds.of_byte {N B s : List UInt8} {k : Nat} {v : List UInt8} (hN : Holds N k v) (hB : Holds B k v) (hlen : B.length ≤ s.length) (h : ∀ j, bt s j = bt N j ∨ bt s j = bt B j) : Holds s k v := by
  refine ⟨hN.slot, fun hk => ⟨?_, (hN.none hk).2⟩, fun hk => ⟨?_, fun i hi => ?_⟩, hN.small, fun hk => ?_, fun i hi => ?_⟩
  · rcases h 0 with e | e
    · rw [e]; exact (hN.none hk).1
    · rw [e]; exact (hB.none hk).1
  · have := (hB.head hk).1; omega
  · rcases h i with e | e
    · rw [e]; exact (hN.head hk).2 i hi
    · rw [e]; exact (hB.head hk).2 i hi
  · rcases hB.long hk with e | e
    · exact Or.inl e
    · exact Or.inr (by omega)
  · rcases h (start k + i) with e | e
    · rw [e]; exact hN.data i hi
    · rw [e]; exact hB.data i hi
theorem left_byte {N B s : List UInt8} (h : Left N B s) (j : Nat) : bt s j = bt N j ∨ bt s j = bt B j := by
  rcases h.sec (j / 64) with ⟨_, h2⟩ | h2
  · by_cases hj : j < N.length
    · exact Or.inl (h2 j rfl hj)
    · left
      have := h.le
      rw [bt_ge (by omega), bt_ge (by omega)]
  · exact Or.inr (h2 j rfl)
theorem Holds.left {N B s : List UInt8} {k : Nat} {v : List UInt8} (hN : Holds N k v) (hB : Holds B k v) (h : Left N B s) : Holds s k v := hN.of_byte hB h.ge (left_byte h)
theorem left_same {N s : List UInt8} (h : Left N N s) : s = N := by
  refine bt_ext (Nat.le_antisymm h.le h.ge) fun j _ => ?_
  rcases left_byte h j with e | e <;> exact e

theorem Holds.empty {X : List UInt8} (h : bt X 0 = 0) : Holds X 0 [] := ⟨by omega, fun _ => ⟨h, rfl⟩, fun h => absurd rfl h, by simp, fun h => absurd rfl h, fun i hi => by simp at hi⟩
theorem header_length (k n : Nat) : (header k n).length = 5 := rfl

/-- Writing into the other slot leaves what is held. -/
theorem Holds.aside {N : List UInt8} {k : Nat} {v s : List UInt8} (h : Holds N k v) (hs : s.length ≤ 65536) : Holds (put N (start (other k)) s) k v := by
  have hk := h.slot
  have ho := start_le (other k)
  have hkey : ∀ i, i < 5 → bt (put N (start (other k)) s) i = bt N i := fun i hi => by rw [put_bt, if_neg (by omega)]
  refine ⟨h.slot, fun h0 => ⟨by rw [hkey 0 (by omega)]; exact (h.none h0).1, (h.none h0).2⟩, fun h0 => ⟨?_, fun i hi => by rw [hkey i hi]; exact (h.head h0).2 i hi⟩, h.small, fun h0 => ?_, fun i hi => ?_⟩
  · rw [put_length]; have := (h.head h0).1; omega
  · rcases h.long h0 with e | e
    · exact Or.inl e
    · exact Or.inr (by rw [put_length]; omega)
  · by_cases h0 : k = 0
    · rw [(h.none h0).2] at hi; simp at hi
    · have hsm := h.small
      rw [put_bt, if_neg, h.data i hi]
      unfold start other
      have : k = 1 ∨ k = 2 := by omega
      rcases this with rfl | rfl
      · simp only [if_true, if_neg (show ¬ (1 : Nat) = 2 by omega)]; omega
      · simp only [if_true, if_neg (show ¬ (2 : Nat) = 1 by omega), if_neg (show ¬ (1 : Nat) = 2 by omega)]; omega
/-- What is written into the other slot is there. -/
theorem aside_data {N s : List UInt8} {k : Nat} (i : Nat) (hi : i < s.length) : bt (put N (start k) s) (start k + i) = bt s i := by
  rw [put_bt, if_pos (by omega)]; congr 1; omega
theorem put_five {N : List UInt8} {k n : Nat} : (put N 0 (header k n)).length = max N.length 5 := by rw [put_length, header_length]
/-- The header names the other slot. -/
theorem Holds.turned {N s : List UInt8} {k : Nat} (hk : k = 1 ∨ k = 2) (hs : s.length ≤ 65536) (hl : s = [] ∨ start k + s.length ≤ N.length) (hd : ∀ i, i < s.length → bt N (start k + i) = bt s i) : Holds (put N 0 (header k s.length)) k s := by
  have hst := start_le k
  refine ⟨by omega, fun h0 => by omega, fun _ => ⟨by rw [put_five]; omega, fun i hi => ?_⟩, hs, fun _ => ?_, fun i hi => ?_⟩
  · rw [put_bt, if_pos ⟨Nat.zero_le _, by rw [header_length]; omega⟩]; rfl
  · rcases hl with e | e
    · exact Or.inl e
    · exact Or.inr (by rw [put_five]; omega)
  · rw [put_bt, if_neg (by rw [header_length]; omega)]; exact hd i hi
/-- A torn header: the old value or the new one. -/
theorem Holds.torn {N s x v : List UInt8} {k k' : Nat} (h : Holds N k' v) (hk : k = 1 ∨ k = 2) (hs : s.length ≤ 65536) (hl : s = [] ∨ start k + s.length ≤ N.length) (hd : ∀ i, i < s.length → bt N (start k + i) = bt s i)
    (hx : Left (put N 0 (header k s.length)) N x) : Holds x k' v ∨ Holds x k s := by
  have hT := Holds.turned hk hs hl hd
  have hfar : ∀ j, 5 ≤ j → bt (put N 0 (header k s.length)) j = bt N j := fun j hj => by rw [put_bt, if_neg (by rw [header_length]; omega)]
  have hlx := hx.le
  have hgx := hx.ge
  rw [put_five] at hlx
  rcases hx.sec 0 with ⟨h1, h2⟩ | h2
  · right
    rw [put_five] at h1 h2
    have hall : ∀ j, bt x j = bt (put N 0 (header k s.length)) j := fun j => by
      by_cases hj : j / 64 = 0
      · by_cases hj2 : j < max N.length 5
        · exact h2 j hj hj2
        · rw [bt_ge (by omega), bt_ge (by rw [put_five]; omega)]
      · rcases left_byte hx j with e | e
        · exact e
        · rw [e, hfar j (by omega)]
    refine hT.of_byte (B := x) ?_ (Nat.le_refl _) fun j => Or.inr rfl
    have hst := start_le k
    refine ⟨by omega, fun h0 => by omega, fun h0 => ⟨by omega, fun i hi => by rw [hall]; exact (hT.head h0).2 i hi⟩, hs, fun h0 => ?_, fun i hi => by rw [hall]; exact hT.data i hi⟩
    rcases hl with e | e
    · exact Or.inl e
    · exact Or.inr (by omega)
  · left
    have hall : ∀ j, bt x j = bt N j := fun j => by
      by_cases hj : j / 64 = 0
      · exact h2 j hj
      · rcases left_byte hx j with e | e
        · rw [e, hfar j (by omega)]
        · exact e
    exact h.of_byte h (by omega) fun j => Or.inr (hall j)

theorem toNat_ofNat (n : Nat) : (UInt8.ofNat n).toNat = n % 256 := rfl
theorem hlen_header {X : List UInt8} {k n : Nat} (hn : n < 4294967296) (h : ∀ i, i < 5 → bt X i = bt (header k n) i) : hlen X = n := by
  unfold hlen
  rw [h 1 (by omega), h 2 (by omega), h 3 (by omega), h 4 (by omega)]
  show (UInt8.ofNat n).toNat + 256 * (UInt8.ofNat (n / 256)).toNat + 65536 * (UInt8.ofNat (n / 65536)).toNat + 16777216 * (UInt8.ofNat (n / 16777216)).toNat = n
  simp only [toNat_ofNat]
  omega
theorem Holds.open {X : List UInt8} {k : Nat} {v : List UInt8} (h : Holds X k v) : openB X = (some ⟨k, v, false⟩, 0) := by
  unfold openB
  by_cases h0 : k = 0
  · subst h0
    obtain ⟨h1, rfl⟩ := h.none rfl
    rw [if_pos h1]
  · obtain ⟨h1, h2⟩ := h.head h0
    have hsm := h.small
    have hb0 : bt X 0 = UInt8.ofNat k := h2 0 (by omega)
    have hhl : hlen X = v.length := hlen_header (by omega) h2
    have hdat : (X.drop (start k)).take v.length = v := by
      have hlen' : ((X.drop (start k)).take v.length).length = v.length := by
        rcases h.long h0 with e | e
        · subst e; simp
        · simp; omega
      refine bt_ext hlen' fun i hi => ?_
      rw [hlen'] at hi
      rw [bt_take, if_pos hi, bt_drop]
      exact h.data i hi
    have hk : k = 1 ∨ k = 2 := by have := h.slot; omega
    have hne : bt X 0 ≠ 0 := by rw [hb0]; rcases hk with rfl | rfl <;> decide
    have hto : (bt X 0).toNat = k := by rw [hb0]; rcases hk with rfl | rfl <;> rfl
    rw [if_neg hne, if_neg (by omega), if_neg, if_neg, hhl, hto, hdat]
    · rw [hhl, hto, hdat]; simp
    · rw [hhl]
      rintro (⟨e1, e2⟩ | e)
      · rw [hb0] at e1 e2
        rcases hk with rfl | rfl
        · exact e1 rfl
        · exact e2 rfl
      · omega

/-- The machine has gone down, and has left something of a file. -/
def Gone (N B : List UInt8) (e : F) : Prop := ∃ x, Left N B x ∧ e.now = x ∧ e.dur = x
theorem crash_gone {X : D} (hI : X.Inv) (hd : X.down = false) (keep : List Int) {i : Nat} (hi : i < 16) : Gone (X.file i).now (X.file i).dur ((X.crash keep).file i) := by
  refine ⟨_, crash_left hI hd keep hi, rfl, ?_⟩
  unfold D.crash
  rw [if_neg (by rw [hd]; simp)]
  rfl
theorem crash_down {X : D} (keep : List Int) : (X.crash keep).down = true := by
  unfold D.crash
  split
  · assumption
  · rfl
theorem strike_cases {d : D} (hI : d.Inv) (hd : d.down = false) :
    (d.strike.2 = false ∧ d.strike.1.file = d.file ∧ d.strike.1.down = false) ∨ (d.strike.2 = true ∧ d.strike.1.down = true ∧ ∀ i, i < 16 → Gone (d.file i).now (d.file i).dur (d.strike.1.file i)) := by
  unfold D.strike
  split
  · exact Or.inl ⟨rfl, rfl, hd⟩
  · split
    · exact Or.inr ⟨rfl, crash_down _, fun i hi => crash_gone (X := { d with left := 0 }) (D.set_inv hI d.lost 0 d.keep d.down) hd d.keep hi⟩
    · exact Or.inl ⟨rfl, rfl, hd⟩
theorem ok_lt {f : Nat} (hf : f < 16) : ok (f : Int) = true := by
  unfold ok
  rw [decide_eq_true_eq]
  omega
/-- What a write does. -/
theorem write_cases {d : D} (hI : d.Inv) (hd : d.down = false) {f : Nat} (hf : f < 16) {a : Nat} {s : List UInt8} (ha : a + s.length ≤ 16777216) :
    ∃ e : D, e.Inv ∧ ((d.write f a s = (e, 0) ∧ e.down = false ∧ e.file = upd d.file f ((d.file f).write a s)) ∨
      (d.write f a s = (e, 9) ∧ e.down = true ∧ ∀ i, i < 16 → Gone (upd d.file f ((d.file f).write a s) i).now (upd d.file f ((d.file f).write a s) i).dur (e.file i))) := by
  have hp : d.put f a s = ({ d with file := upd d.file f ((d.file f).write a s), queue := d.queue ++ ((d.file f).added a s).map fun n => (f, n) }, 0) := by
    unfold D.put
    rw [ok_lt hf, decide_eq_true (show (0 : Int) ≤ (a : Int) by omega), if_pos (show (true && true) = true from rfl), if_pos (by omega)]
    simp only [Int.toNat_natCast]
  have hw := D.write_inv hI f a s
  refine ⟨(d.write f a s).1, hw, ?_⟩
  clear hw
  have hq := D.put_inv hI f a s
  unfold D.write
  rw [if_neg (by rw [hd]; simp)]
  dsimp only
  rw [hp] at hq ⊢
  rcases strike_cases hq hd with ⟨h1, h2, h3⟩ | ⟨h1, h2, h3⟩
  · left
    rw [h1]
    exact ⟨rfl, h3, h2⟩
  · right
    rw [h1]
    exact ⟨rfl, h2, h3⟩
theorem sync_cases {d : D} (hI : d.Inv) (hd : d.down = false) {f : Nat} (hf : f < 16) :
    ∃ e : D, e.Inv ∧ ((d.sync f = (e, 0) ∧ e.down = false ∧ e.file = upd d.file f (d.file f).settle) ∨ (d.sync f = (e, 10) ∧ e.down = false ∧ e.file = d.file) ∨
      (d.sync f = (e, 9) ∧ e.down = true ∧ ∀ i, i < 16 → Gone (d.file i).now (d.file i).dur (e.file i))) := by
  refine ⟨(d.sync f).1, D.sync_inv hI f, ?_⟩
  unfold D.sync
  rw [if_neg (by rw [hd]; simp)]
  dsimp only
  rcases strike_cases hI hd with ⟨h1, h2, h3⟩ | ⟨h1, h2, h3⟩
  · rw [h1, if_neg (by simp), ok_lt hf, if_pos rfl]
    by_cases hl : 0 < d.strike.1.lost
    · rw [if_pos hl]
      exact Or.inr (Or.inl ⟨rfl, h3, h2⟩)
    · rw [if_neg hl]
      refine Or.inl ⟨rfl, h3, ?_⟩
      show upd d.strike.1.file (f : Int).toNat (d.strike.1.file (f : Int).toNat).settle = _
      rw [Int.toNat_natCast, h2]
  · rw [h1, if_pos rfl]
    exact Or.inr (Or.inr ⟨rfl, h2, h3⟩)
theorem write_down {d : D} (hd : d.down = true) (f a : Int) (s : List UInt8) : d.write f a s = (d, 9) := by
  unfold D.write
  rw [if_pos hd]
theorem sync_down {d : D} (hd : d.down = true) (f : Int) : d.sync f = (d, 9) := by
  unfold D.sync
  rw [if_pos hd]

/-! ### The cell and its file -/
structure St (d : D) (f : Nat) (c : C) (P : Nat → List UInt8 → Prop) : Prop where
  inv : d.Inv
  may : ∀ x, Left (d.file f).now (d.file f).dur x → ∃ k v, Holds x k v ∧ P k v
  slot : c.slot ≤ 2
  up : d.down = false → Holds (d.file f).now c.slot c.val ∧ (c.sure = true ∨ c.slot = 0 → Holds (d.file f).dur c.slot c.val)
  gone : d.down = true → (d.file f).dur = (d.file f).now
theorem St.mono {d : D} {f : Nat} {c : C} {P Q : Nat → List UInt8 → Prop} (h : St d f c P) (hPQ : ∀ k v, P k v → Q k v) : St d f c Q :=
  ⟨h.inv, fun x hx => let ⟨k, v, h1, h2⟩ := h.may x hx; ⟨k, v, h1, hPQ k v h2⟩, h.slot, h.up, h.gone⟩
theorem left_self {N B : List UInt8} (h : B.length ≤ N.length) : Left N B N := ⟨h, Nat.le_refl _, fun _ => Or.inl ⟨Nat.min_le_right _ _, fun _ _ _ => rfl⟩⟩
/-- The machine went down. -/
theorem St.fall {e : D} {f : Nat} {c : C} {P : Nat → List UInt8 → Prop} {N B : List UInt8} (hm : ∀ x, Left N B x → ∃ k v, Holds x k v ∧ P k v) (hc : c.slot ≤ 2) (hI : e.Inv) (hd : e.down = true) (hg : Gone N B (e.file f)) : St e f c P := by
  obtain ⟨x, hx, h1, h2⟩ := hg
  refine ⟨hI, fun y hy => ?_, hc, fun h => (by rw [hd] at h; cases h), fun _ => by rw [h1, h2]⟩
  rw [h1, h2] at hy
  rw [left_same hy]
  exact hm x hx
/-- The file as it was. -/
theorem St.same {d e : D} {f : Nat} {c : C} {P : Nat → List UInt8 → Prop} (h : St d f c P) (hI : e.Inv) (hd : e.down = d.down) (hf : e.file f = d.file f) : St e f c P :=
  ⟨hI, by rw [hf]; exact h.may, h.slot, by rw [hf, hd]; exact h.up, by rw [hf, hd]; exact h.gone⟩
/-- A crash, and a start: the cell is opened, and has a value that it may have. -/
theorem St.again {d : D} {f : Nat} {c : C} {P : Nat → List UInt8 → Prop} (h : St d f c P) (hf : f < 16) (keep : List Int) :
    ∃ k v, openM (d.crash keep).start f = (some ⟨k, v, false⟩, 0) ∧ P k v ∧ (k = 0 → v = []) ∧ St (d.crash keep).start f ⟨k, v, false⟩ (fun k' v' => k' = k ∧ v' = v) := by
  have key : ∃ x, Left (d.file f).now (d.file f).dur x ∧ ((d.crash keep).start.file f).now = x ∧ ((d.crash keep).start.file f).dur = x := by
    cases hd : d.down with
    | true =>
      have hg := h.gone hd
      refine ⟨(d.file f).now, left_self (h.inv.file f hf).le, ?_, ?_⟩
      · unfold D.crash; rw [if_pos hd]; rfl
      · unfold D.crash; rw [if_pos hd]; exact hg
    | false => exact crash_gone h.inv hd keep hf
  obtain ⟨x, hx, h1, h2⟩ := key
  obtain ⟨k, v, h3, h4⟩ := h.may x hx
  refine ⟨k, v, ?_, h4, fun h0 => (h3.none h0).2, ⟨D.set_inv (D.crash_inv h.inv keep) _ _ _ _, fun y hy => ?_, h3.slot, fun _ => ?_, fun hd => by cases hd⟩⟩
  · unfold openM
    rw [if_neg (show ¬ (d.crash keep).start.down = true from Bool.false_ne_true), ok_lt hf, if_pos rfl, Int.toNat_natCast, h1]
    exact h3.open
  · rw [h1, h2] at hy
    rw [left_same hy]
    exact ⟨k, v, h3, rfl, rfl⟩
  · rw [h1, h2]
    exact ⟨h3, fun _ => h3⟩
theorem fwrite_now {g : F} {a : Nat} {s : List UInt8} : (g.write a s).now = if s = [] then g.now else put g.now a s := by
  unfold F.write
  split <;> rfl
theorem fwrite_dur {g : F} {a : Nat} {s : List UInt8} : (g.write a s).dur = g.dur := by
  unfold F.write
  split <;> rfl

/-- The bytes are those of a write of s into the other slot (or nothing, where s is empty). -/
theorem aside_now {N : List UInt8} {k : Nat} {v s : List UInt8} (h : Holds N k v) (hs : s.length ≤ 65536) : Holds (if s = [] then N else put N (start (other k)) s) k v := by
  split
  · exact h
  · exact h.aside hs
theorem aside_there {N s : List UInt8} {k : Nat} : (s = [] ∨ start k + s.length ≤ (if s = [] then N else put N (start k) s).length) ∧ ∀ i, i < s.length → bt (if s = [] then N else put N (start k) s) (start k + i) = bt s i := by
  by_cases h : s = []
  · subst h
    exact ⟨Or.inl rfl, fun i hi => by simp at hi⟩
  · rw [if_neg h]
    exact ⟨Or.inr (by rw [put_length]; omega), fun i hi => aside_data i hi⟩

theorem Holds.uniq {X : List UInt8} {k k' : Nat} {v v' : List UInt8} (h : Holds X k v) (h' : Holds X k' v') : k = k' ∧ v = v' := by
  have e := h.open.symm.trans h'.open
  injection e with e
  injection e with e
  injection e with e1 e2
  exact ⟨e1, e2⟩
theorem St.now {d : D} {f : Nat} {c : C} {P : Nat → List UInt8 → Prop} (h : St d f c P) (hf : f < 16) (hd : d.down = false) : P c.slot c.val := by
  obtain ⟨k, v, h1, h2⟩ := h.may _ (left_self (h.inv.file f hf).le)
  obtain ⟨rfl, rfl⟩ := h1.uniq (h.up hd).1
  exact h2

/-- What Set says. -/
structure Done (f : Nat) (P : Nat → List UInt8 → Prop) (s : List UInt8) (r : D × C × Int) : Prop where
  code : r.2.2 = 0 ∨ r.2.2 = 9 ∨ r.2.2 = 10
  st : St r.1 f r.2.1 (fun k v => P k v ∨ (k ≠ 0 ∧ v = s))
  good : r.2.2 = 0 → St r.1 f r.2.1 (fun k v => k ≠ 0 ∧ v = s) ∧ r.1.down = false ∧ r.2.1.slot ≠ 0 ∧ r.2.1.val = s

theorem setB_done {d : D} {f : Nat} {c : C} {P : Nat → List UInt8 → Prop} {s : List UInt8} (h : St d f c P) (hf : f < 16) (hs : s.length ≤ 65536) (hsure : c.sure = true ∨ c.slot = 0) : Done f P s (setB d f c s) := by
  have hsl := start_le (other c.slot)
  have hon := other_ne c.slot
  have hor : other c.slot = 1 ∨ other c.slot = 2 := by omega
  have hw : ∀ k v, P k v → P k v ∨ (k ≠ 0 ∧ v = s) := fun _ _ h => Or.inl h
  have ne9 : ¬ (9 : Int) = 0 := by omega
  have ne10 : ¬ (10 : Int) = 0 := by omega
  have n00 : ¬ (0 : Int) ≠ 0 := fun h => h rfl
  cases hd : d.down with
  | true =>
    have e0 : setB d f c s = (d, c, 9) := by
      unfold setB
      dsimp only
      rw [write_down hd, if_pos ne9]
    rw [e0]
    exact ⟨Or.inr (Or.inl rfl), h.mono hw, fun e => absurd e ne9⟩
  | false =>
    have hPc := h.now hf hd
    obtain ⟨hN, hB'⟩ := h.up hd
    have hB := hB' hsure
    obtain ⟨N1, hN1⟩ : ∃ N1, N1 = if s = [] then (d.file f).now else put (d.file f).now (start (other c.slot)) s := ⟨_, rfl⟩
    have hH1 : Holds N1 c.slot c.val := by rw [hN1]; exact aside_now hN hs
    have hT1 : (s = [] ∨ start (other c.slot) + s.length ≤ N1.length) ∧ ∀ i, i < s.length → bt N1 (start (other c.slot) + i) = bt s i := by rw [hN1]; exact aside_there
    have hm1 : ∀ x, Left N1 (d.file f).dur x → ∃ k v, Holds x k v ∧ (P k v ∨ (k ≠ 0 ∧ v = s)) := fun x hx => ⟨_, _, hH1.left hB hx, Or.inl hPc⟩
    obtain ⟨e1, hI1, hc1⟩ := write_cases (f := f) (a := start (other c.slot)) (s := s) h.inv hd hf (by omega)
    rcases hc1 with ⟨hw1, hd1, hf1⟩ | ⟨hw1, hd1, hg1⟩
    · have hn1 : (e1.file f).now = N1 := by rw [hf1, upd_same, fwrite_now, hN1]
      have hb1 : (e1.file f).dur = (d.file f).dur := by rw [hf1, upd_same, fwrite_dur]
      have hS1 : St e1 f c (fun k v => P k v ∨ (k ≠ 0 ∧ v = s)) := ⟨hI1, by rw [hn1, hb1]; exact hm1, h.slot, fun _ => by rw [hn1, hb1]; exact ⟨hH1, fun _ => hB⟩, fun e => (by rw [hd1] at e; cases e)⟩
      obtain ⟨e2, hI2, hc2⟩ := sync_cases hI1 hd1 hf
      rcases hc2 with ⟨hs2, hd2, hf2⟩ | ⟨hs2, hd2, hf2⟩ | ⟨hs2, hd2, hg2⟩
      · have hn2 : (e2.file f).now = N1 := by rw [hf2, upd_same]; exact hn1
        have hb2 : (e2.file f).dur = N1 := by rw [hf2, upd_same]; exact hn1
        obtain ⟨e3, hI3, hc3⟩ := write_cases (f := f) (a := 0) (s := header (other c.slot) s.length) hI2 hd2 hf (by rw [header_length]; omega)
        have hm3 : ∀ x, Left (put N1 0 (header (other c.slot) s.length)) N1 x → ∃ k v, Holds x k v ∧ (P k v ∨ (k ≠ 0 ∧ v = s)) := fun x hx => by
          rcases hH1.torn hor hs hT1.1 hT1.2 hx with e | e
          · exact ⟨_, _, e, Or.inl hPc⟩
          · exact ⟨_, _, e, Or.inr ⟨hon.2.1, rfl⟩⟩
        have hH3 := Holds.turned hor hs hT1.1 hT1.2
        have hn3 : ((e2.file f).write 0 (header (other c.slot) s.length)).now = put N1 0 (header (other c.slot) s.length) := by rw [fwrite_now, if_neg (by unfold header; simp), hn2]
        have hb3 : ((e2.file f).write 0 (header (other c.slot) s.length)).dur = N1 := by rw [fwrite_dur, hb2]
        rcases hc3 with ⟨hw3, hd3, hf3⟩ | ⟨hw3, hd3, hg3⟩
        · have hn3' : (e3.file f).now = put N1 0 (header (other c.slot) s.length) := by rw [hf3, upd_same, hn3]
          have hb3' : (e3.file f).dur = N1 := by rw [hf3, upd_same, hb3]
          obtain ⟨e4, hI4, hc4⟩ := sync_cases hI3 hd3 hf
          rcases hc4 with ⟨hs4, hd4, hf4⟩ | ⟨hs4, hd4, hf4⟩ | ⟨hs4, hd4, hg4⟩
          · have e0 : setB d f c s = (e4, ⟨other c.slot, s, true⟩, 0) := by
              unfold setB
              dsimp only
              rw [hw1, if_neg n00]
              dsimp only
              rw [hs2, if_neg n00]
              dsimp only
              rw [show ((0 : Nat) : Int) = 0 from rfl] at hw3
              rw [hw3, if_neg n00]
              dsimp only
              rw [hs4]
              rfl
            rw [e0]
            have hn4 : (e4.file f).now = put N1 0 (header (other c.slot) s.length) := by rw [hf4, upd_same]; exact hn3'
            have hb4 : (e4.file f).dur = put N1 0 (header (other c.slot) s.length) := by rw [hf4, upd_same]; exact hn3'
            have hS4 : St e4 f ⟨other c.slot, s, true⟩ (fun k v => k ≠ 0 ∧ v = s) := ⟨hI4, fun x hx => by
              rw [hn4, hb4] at hx
              rw [left_same hx]
              exact ⟨_, _, hH3, hon.2.1, rfl⟩, hon.2.2, fun _ => by rw [hn4, hb4]; exact ⟨hH3, fun _ => hH3⟩, fun e => (by rw [hd4] at e; cases e)⟩
            exact ⟨Or.inl rfl, hS4.mono fun _ _ h => Or.inr h, fun _ => ⟨hS4, hd4, hon.2.1, rfl⟩⟩
          · have e0 : setB d f c s = (e4, ⟨other c.slot, s, false⟩, 10) := by
              unfold setB
              dsimp only
              rw [hw1, if_neg n00]
              dsimp only
              rw [hs2, if_neg n00]
              dsimp only
              rw [show ((0 : Nat) : Int) = 0 from rfl] at hw3
              rw [hw3, if_neg n00]
              dsimp only
              rw [hs4]
              rfl
            rw [e0]
            have hn4 : (e4.file f).now = put N1 0 (header (other c.slot) s.length) := by rw [hf4]; exact hn3'
            have hb4 : (e4.file f).dur = N1 := by rw [hf4]; exact hb3'
            exact ⟨Or.inr (Or.inr rfl), ⟨hI4, by rw [hn4, hb4]; exact hm3, hon.2.2, fun _ => by rw [hn4, hb4]; exact ⟨hH3, fun e => (by
              rcases e with e | e
              · cases e
              · exact absurd e hon.2.1)⟩, fun e => (by rw [hd4] at e; cases e)⟩, fun e => absurd e ne10⟩
          · have e0 : setB d f c s = (e4, ⟨other c.slot, s, false⟩, 9) := by
              unfold setB
              dsimp only
              rw [hw1, if_neg n00]
              dsimp only
              rw [hs2, if_neg n00]
              dsimp only
              rw [show ((0 : Nat) : Int) = 0 from rfl] at hw3
              rw [hw3, if_neg n00]
              dsimp only
              rw [hs4]
              rfl
            rw [e0]
            have hg := hg4 f hf
            rw [hn3', hb3'] at hg
            exact ⟨Or.inr (Or.inl rfl), St.fall hm3 hon.2.2 hI4 hd4 hg, fun e => absurd e ne9⟩
        · have e0 : setB d f c s = (e3, c, 9) := by
            unfold setB
            dsimp only
            rw [hw1, if_neg n00]
            dsimp only
            rw [hs2, if_neg n00]
            dsimp only
            rw [show ((0 : Nat) : Int) = 0 from rfl] at hw3
            rw [hw3, if_pos ne9]
          rw [e0]
          have hg := hg3 f hf
          rw [upd_same, hn3, hb3] at hg
          exact ⟨Or.inr (Or.inl rfl), St.fall hm3 h.slot hI3 hd3 hg, fun e => absurd e ne9⟩
      · have e0 : setB d f c s = (e2, c, 10) := by
          unfold setB
          dsimp only
          rw [hw1, if_neg n00]
          dsimp only
          rw [hs2, if_pos ne10]
        rw [e0]
        exact ⟨Or.inr (Or.inr rfl), hS1.same hI2 (by rw [hd2, hd1]) (by rw [hf2]), fun e => absurd e ne10⟩
      · have e0 : setB d f c s = (e2, c, 9) := by
          unfold setB
          dsimp only
          rw [hw1, if_neg n00]
          dsimp only
          rw [hs2, if_pos ne9]
        rw [e0]
        exact ⟨Or.inr (Or.inl rfl), St.fall hS1.may h.slot hI2 hd2 (hg2 f hf), fun e => absurd e ne9⟩
    · have e0 : setB d f c s = (e1, c, 9) := by
        unfold setB
        dsimp only
        rw [hw1, if_pos ne9]
      rw [e0]
      have hg := hg1 f hf
      rw [upd_same, fwrite_now, fwrite_dur, ← hN1] at hg
      exact ⟨Or.inr (Or.inl rfl), St.fall hm1 h.slot hI1 hd1 hg, fun e => absurd e ne9⟩

theorem setM_done {d : D} {f : Nat} {c : C} {P : Nat → List UInt8 → Prop} {s : List UInt8} (h : St d f c P) (hf : f < 16) (hs : s.length ≤ 65536) : Done f P s (setM d f c s) := by
  have ne9 : ¬ (9 : Int) = 0 := by omega
  have ne10 : ¬ (10 : Int) = 0 := by omega
  have n00 : ¬ (0 : Int) ≠ 0 := fun h => h rfl
  have hw : ∀ k v, P k v → P k v ∨ (k ≠ 0 ∧ v = s) := fun _ _ h => Or.inl h
  unfold setM
  rw [if_neg (by omega)]
  by_cases hc : c.sure = false ∧ c.slot ≠ 0
  · rw [if_pos hc]
    dsimp only
    cases hd : d.down with
    | true =>
      rw [sync_down hd, if_pos ne9]
      exact ⟨Or.inr (Or.inl rfl), h.mono hw, fun e => absurd e ne9⟩
    | false =>
      obtain ⟨e1, hI1, hc1⟩ := sync_cases h.inv hd hf
      have hN := (h.up hd).1
      rcases hc1 with ⟨hs1, hd1, hf1⟩ | ⟨hs1, hd1, hf1⟩ | ⟨hs1, hd1, hg1⟩
      · rw [hs1, if_neg n00]
        have hn1 : (e1.file f).now = (d.file f).now := by rw [hf1, upd_same]; rfl
        have hb1 : (e1.file f).dur = (d.file f).now := by rw [hf1, upd_same]; rfl
        refine setB_done (c := { c with sure := true }) ⟨hI1, fun x hx => ?_, h.slot, fun _ => by rw [hn1, hb1]; exact ⟨hN, fun _ => hN⟩, fun e => (by rw [hd1] at e; cases e)⟩ hf hs (Or.inl rfl)
        rw [hn1, hb1] at hx
        rw [left_same hx]
        exact ⟨_, _, hN, h.now hf hd⟩
      · rw [hs1, if_pos ne10]
        exact ⟨Or.inr (Or.inr rfl), (h.same hI1 (by rw [hd1, hd]) (by rw [hf1])).mono hw, fun e => absurd e ne10⟩
      · rw [hs1, if_pos ne9]
        exact ⟨Or.inr (Or.inl rfl), St.fall (fun x hx => let ⟨k, v, h1, h2⟩ := h.may x hx; ⟨k, v, h1, hw k v h2⟩) h.slot hI1 hd1 (hg1 f hf), fun e => absurd e ne9⟩
  · rw [if_neg hc]
    refine setB_done h hf hs ?_
    by_cases h0 : c.slot = 0
    · exact Or.inr h0
    · left
      cases hsu : c.sure with
      | true => rfl
      | false => exact absurd ⟨hsu, h0⟩ hc

/-! ### Another file -/
/-- A file as it was, with the machine; or the machine has gone down and has left something of it. -/
inductive Calm (i : Nat) (d e : D) : Prop
  | same : e.Inv → e.down = d.down → e.file i = d.file i → Calm i d e
  | gone : e.Inv → e.down = true → Gone (d.file i).now (d.file i).dur (e.file i) → Calm i d e
theorem St.calm {d e : D} {i : Nat} {c : C} {P : Nat → List UInt8 → Prop} (h : St d i c P) (hc : Calm i d e) : St e i c P := by
  rcases hc with ⟨h1, h2, h3⟩ | ⟨h1, h2, h3⟩
  · exact h.same h1 h2 h3
  · exact St.fall h.may h.slot h1 h2 h3
theorem Calm.refl {i : Nat} {d : D} (h : d.Inv) : Calm i d d := .same h rfl rfl
theorem write_calm {d : D} (hI : d.Inv) {f i : Nat} (hf : f < 16) (hi : i < 16) (hne : i ≠ f) {a : Nat} {s : List UInt8} (ha : a + s.length ≤ 16777216) : Calm i d (d.write f a s).1 := by
  cases hd : d.down with
  | true => rw [write_down hd]; exact .refl hI
  | false =>
    obtain ⟨e, hI1, ⟨h1, h2, h3⟩ | ⟨h1, h2, h3⟩⟩ := write_cases hI hd hf ha
    · rw [h1]; exact .same hI1 (by rw [h2, hd]) (by rw [h3, upd_other _ _ hne])
    · rw [h1]
      have := h3 i hi
      rw [upd_other _ _ hne] at this
      exact .gone hI1 h2 this
theorem sync_calm {d : D} (hI : d.Inv) {f i : Nat} (hf : f < 16) (hi : i < 16) (hne : i ≠ f) : Calm i d (d.sync f).1 := by
  cases hd : d.down with
  | true => rw [sync_down hd]; exact .refl hI
  | false =>
    obtain ⟨e, hI1, ⟨h1, h2, h3⟩ | ⟨h1, h2, h3⟩ | ⟨h1, h2, h3⟩⟩ := sync_cases hI hd hf
    · rw [h1]; exact .same hI1 (by rw [h2, hd]) (by rw [h3, upd_other _ _ hne])
    · rw [h1]; exact .same hI1 (by rw [h2, hd]) (by rw [h3])
    · rw [h1]; exact .gone hI1 h2 (h3 i hi)
theorem St.setB_other {d : D} {i f : Nat} {b c : C} {P : Nat → List UInt8 → Prop} {s : List UInt8} (h : St d i b P) (hf : f < 16) (hi : i < 16) (hne : i ≠ f) (hs : s.length ≤ 65536) : St (setB d f c s).1 i b P := by
  have hsl := start_le (other c.slot)
  unfold setB
  dsimp only
  have h1 := h.calm (write_calm h.inv hf hi hne (a := start (other c.slot)) (s := s) (by omega))
  split
  · exact h1
  · have h2 := h1.calm (sync_calm h1.inv hf hi hne)
    split
    · exact h2
    · have h3 := h2.calm (write_calm h2.inv hf hi hne (a := 0) (s := header (other c.slot) s.length) (by rw [header_length]; omega))
      split
      · exact h3
      · exact h3.calm (sync_calm h3.inv hf hi hne)
theorem St.setM_other {d : D} {i f : Nat} {b c : C} {P : Nat → List UInt8 → Prop} {s : List UInt8} (h : St d i b P) (hf : f < 16) (hi : i < 16) (hne : i ≠ f) (hs : s.length ≤ 65536) : St (setM d f c s).1 i b P := by
  unfold setM
  rw [if_neg (by omega)]
  split
  · dsimp only
    have h1 := h.calm (sync_calm h.inv hf hi hne)
    split
    · exact h1
    · exact h1.setB_other hf hi hne hs
  · exact h.setB_other hf hi hne hs
theorem St.crash {d : D} {i : Nat} {c : C} {P : Nat → List UInt8 → Prop} (h : St d i c P) (hi : i < 16) (keep : List Int) : St (d.crash keep) i c P := by
  cases hd : d.down with
  | true =>
    have : d.crash keep = d := by unfold D.crash; rw [if_pos hd]
    rw [this]; exact h
  | false => exact h.calm (.gone (D.crash_inv h.inv keep) (crash_down keep) (crash_gone h.inv hd keep hi))
theorem St.arm {d : D} {i : Nat} {c : C} {P : Nat → List UInt8 → Prop} (h : St d i c P) (n : Int) (keep : List Int) : St (d.arm n keep) i c P := h.same (D.set_inv h.inv _ _ _ _) rfl rfl
theorem St.lose {d : D} {i : Nat} {c : C} {P : Nat → List UInt8 → Prop} (h : St d i c P) (n : Int) : St (d.lose n) i c P := h.same (D.set_inv h.inv _ _ _ _) rfl rfl
/-- A new disk. -/
theorem St.new {i : Nat} : openM D.new i = (if ok i then (some ⟨0, [], false⟩, 0) else (none, 1)) ∧ St D.new i ⟨0, [], false⟩ (fun k v => k = 0 ∧ v = []) := by
  have hE : Holds ([] : List UInt8) 0 [] := Holds.empty rfl
  refine ⟨rfl, D.new_inv, fun x hx => ?_, Nat.zero_le _, fun _ => ⟨hE, fun _ => hE⟩, fun h => by cases h⟩
  have : x = [] := by
    have h2 := hx.le
    exact List.eq_nil_of_length_eq_zero (Nat.le_zero.1 h2)
  subst this
  exact ⟨0, [], hE, rfl, rfl⟩
end Ck
end Go.Proofs.YtljgfnglknpfaaaGreatDoor
