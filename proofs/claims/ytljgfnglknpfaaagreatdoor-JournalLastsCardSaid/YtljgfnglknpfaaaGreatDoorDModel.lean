/-
  A disk with torn writes as lists: files with a durable part and pending sectors, the list of all pending sectors, crashes.
-/
import Derived.Below
namespace Go.Proofs.YtljgfnglknpfaaaGreatDoor
set_option maxRecDepth 100000
namespace Dk

/-- A byte of a string, or 0 behind its end. -/
def bt (b : List UInt8) (i : Nat) : UInt8 := b.getD i 0
theorem bt_lt {b : List UInt8} {i : Nat} (h : i < b.length) : bt b i = b[i] := by simp [bt, List.getD, List.getElem?_eq_getElem h]
theorem bt_ge {b : List UInt8} {i : Nat} (h : b.length ≤ i) : bt b i = 0 := by simp [bt, List.getD, List.getElem?_eq_none h]
theorem bt_ext {a b : List UInt8} (hl : a.length = b.length) (h : ∀ i, i < a.length → bt a i = bt b i) : a = b := by
  refine List.ext_getElem hl fun i h1 h2 => ?_
  have := h i h1
  rwa [bt_lt h1, bt_lt h2] at this
theorem bt_append (a b : List UInt8) (i : Nat) : bt (a ++ b) i = if i < a.length then bt a i else bt b (i - a.length) := by
  unfold bt List.getD
  split
  · next h => rw [List.getElem?_append_left h]
  · next h => rw [List.getElem?_append_right (by omega)]
theorem bt_replicate (n i : Nat) : bt (List.replicate n 0) i = 0 := by
  by_cases h : i < n
  · rw [bt_lt (by simpa using h)]; simp
  · exact bt_ge (by simp; omega)
theorem bt_drop (b : List UInt8) (n i : Nat) : bt (b.drop n) i = bt b (n + i) := by simp [bt, List.getD, List.getElem?_drop]
theorem bt_take (b : List UInt8) (n i : Nat) : bt (b.take n) i = if i < n then bt b i else 0 := by
  unfold bt List.getD
  rw [List.getElem?_take]
  split <;> rfl

/-- Bytes put into a string at an offset. -/
def put (b : List UInt8) (at' : Nat) (s : List UInt8) : List UInt8 :=
  (b ++ List.replicate (at' - b.length) 0).take at' ++ (s ++ b.drop (at' + s.length))
theorem put_length (b : List UInt8) (at' : Nat) (s : List UInt8) : (put b at' s).length = max b.length (at' + s.length) := by
  simp [put]; omega
theorem put_bt (b : List UInt8) (at' : Nat) (s : List UInt8) (i : Nat) : bt (put b at' s) i = if at' ≤ i ∧ i < at' + s.length then bt s (i - at') else bt b i := by
  have hl : ((b ++ List.replicate (at' - b.length) 0).take at').length = at' := by simp; omega
  unfold put
  rw [bt_append, hl, bt_append s, bt_take, bt_append b, bt_replicate, bt_drop]
  by_cases h1 : i < at'
  · rw [if_pos h1, if_pos h1, if_neg (show ¬ (at' ≤ i ∧ i < at' + s.length) by omega)]
    split
    · rfl
    · next h => exact (bt_ge (by omega)).symm
  · rw [if_neg h1]
    by_cases h2 : i - at' < s.length
    · rw [if_pos h2, if_pos (by omega)]
    · rw [if_neg h2, if_neg (by omega)]
      congr 1
      omega
theorem put_nil {b : List UInt8} {at' : Nat} (h : at' ≤ b.length) : put b at' [] = b := by
  have : at' - b.length = 0 := by omega
  simp [put, this]

/-- A file: its bytes, its durable part, its pending sectors. -/
structure F where
  now : List UInt8
  dur : List UInt8
  pend : Nat → Bool

/-- The bytes of a sector, as they are in the file. -/
def sec (b : List UInt8) (n : Nat) : List UInt8 := (b.drop (64 * n)).take 64
theorem sec_length (b : List UInt8) (n : Nat) : (sec b n).length = min 64 (b.length - 64 * n) := by simp [sec]
theorem sec_bt (b : List UInt8) (n i : Nat) (h : i < 64) : bt (sec b n) i = bt b (64 * n + i) := by
  unfold sec
  rw [bt_take, if_pos h, bt_drop]

/-- One sector made durable. -/
def F.save (f : F) (n : Nat) : F := { f with dur := put f.dur (64 * n) (sec f.now n) }
/-- Bytes 0 to n of the sectors that a write of len bytes at an offset touches. -/
def secs (at' len : Nat) : List Nat := List.range' (at' / 64) ((at' + len - 1) / 64 + 1 - at' / 64)
def F.write (f : F) (at' : Nat) (s : List UInt8) : F :=
  if s = [] then f else { f with now := put f.now at' s, pend := fun n => f.pend n || (decide (at' / 64 ≤ n) && decide (n ≤ (at' + s.length - 1) / 64)) }
def F.added (f : F) (at' : Nat) (s : List UInt8) : List Nat := if s = [] then [] else (secs at' s.length).filter fun n => !f.pend n
def F.settle (f : F) : F := ⟨f.now, f.now, fun _ => false⟩
def F.cut (f : F) (n : Nat) : F := { f with now := f.now.take n, dur := f.dur.take n }
def F.revert (f : F) : F := ⟨f.dur, f.dur, fun _ => false⟩

/-- What is asked of a file for a sector to be made durable. -/
structure F.Ok (f : F) : Prop where
  le : f.dur.length ≤ f.now.length
  inside : ∀ n, f.pend n = true → 64 * n < f.now.length
  small : f.now.length ≤ 16777216
/-- A file and its durable part differ in the pending sectors only; its last sector is one of them where it is longer. -/
structure F.Inv (f : F) : Prop extends f.Ok where
  same : ∀ i, i < f.now.length → f.pend (i / 64) = false → bt f.now i = bt f.dur i
  last : f.dur.length < f.now.length → f.pend ((f.now.length - 1) / 64) = true

def F.new : F := ⟨[], [], fun _ => false⟩
theorem F.new_inv : F.new.Inv := ⟨⟨Nat.le_refl _, fun n h => absurd h (by simp [F.new]), by decide⟩, fun i h => absurd h (Nat.not_lt_zero _), fun h => absurd h (Nat.lt_irrefl _)⟩
theorem F.settle_inv {f : F} (h : f.Inv) : f.settle.Inv := ⟨⟨Nat.le_refl _, fun n hn => absurd hn (by simp [F.settle]), h.small⟩, fun _ _ _ => rfl, fun h => absurd h (Nat.lt_irrefl _)⟩
theorem F.revert_inv {f : F} (h : f.Ok) : f.revert.Inv := ⟨⟨Nat.le_refl _, fun n hn => absurd hn (by simp [F.revert]), Nat.le_trans h.le h.small⟩, fun _ _ _ => rfl, fun h => absurd h (Nat.lt_irrefl _)⟩
theorem F.save_ok {f : F} (h : f.Ok) {n : Nat} (hn : 64 * n < f.now.length) : (f.save n).Ok := by
  refine ⟨?_, h.inside, h.small⟩
  show (put f.dur (64 * n) (sec f.now n)).length ≤ f.now.length
  have := h.le
  rw [put_length, sec_length]
  omega
theorem F.save_inv {f : F} (h : f.Inv) {n : Nat} (hn : f.pend n = true) : F.Inv { f.save n with pend := fun m => f.pend m && !(m == n) } := by
  have hi := h.inside n hn
  have hle := h.le
  have hl : (f.save n).dur.length = max f.dur.length (64 * n + min 64 (f.now.length - 64 * n)) := by
    show (put f.dur (64 * n) (sec f.now n)).length = _
    rw [put_length, sec_length]
  refine ⟨⟨(F.save_ok h.toOk hi).le, fun m hm => h.inside m (by simp at hm; exact hm.1), h.small⟩, fun i hl hp => ?_, fun hlt => ?_⟩
  · show bt f.now i = bt (put f.dur (64 * n) (sec f.now n)) i
    have hl' : i < f.now.length := hl
    rw [put_bt, sec_length]
    split
    · next hc => rw [sec_bt _ _ _ (by omega)]; congr 1; omega
    · next hc =>
      refine h.same i hl ?_
      simp only [Bool.and_eq_false_iff, Bool.not_eq_false', beq_iff_eq] at hp
      rcases hp with hp | hp
      · exact hp
      · exfalso; omega
  · have hlt' : (f.save n).dur.length < f.now.length := hlt
    have h1 := h.last (by omega)
    show (f.pend ((f.now.length - 1) / 64) && !((f.now.length - 1) / 64 == n)) = true
    rw [h1]
    simp only [Bool.true_and, Bool.not_eq_true', beq_eq_false_iff_ne]
    omega
theorem F.inv_none {f : F} (h : f.Inv) (hp : ∀ n, f.pend n = false) : f.dur = f.now := by
  have hl : f.dur.length = f.now.length := by
    have := h.le
    rcases Nat.lt_or_ge f.dur.length f.now.length with h1 | h1
    · have := h.last h1; rw [hp] at this; cases this
    · omega
  exact (bt_ext hl.symm fun i hi => h.same i hi (hp _)).symm
theorem F.write_inv {f : F} (h : f.Inv) {at' : Nat} {s : List UInt8} (hs : at' + s.length ≤ 16777216) : (f.write at' s).Inv := by
  unfold F.write
  split
  · exact h
  · next hne =>
    have hpos : 0 < s.length := List.length_pos_iff.2 hne
    have hle := h.le
    have hsm := h.small
    refine ⟨⟨?_, fun n hn => ?_, ?_⟩, fun i hi hp => ?_, fun hlt => ?_⟩
    · show f.dur.length ≤ (put f.now at' s).length
      rw [put_length]; omega
    · show 64 * n < (put f.now at' s).length
      rw [put_length]
      simp only [Bool.or_eq_true, Bool.and_eq_true, decide_eq_true_eq] at hn
      rcases hn with hn | hn
      · have := h.inside n hn; omega
      · omega
    · show (put f.now at' s).length ≤ 16777216
      rw [put_length]; omega
    · show bt (put f.now at' s) i = bt f.dur i
      simp only [Bool.or_eq_false_iff, Bool.and_eq_false_iff, decide_eq_false_iff_not] at hp
      rw [put_bt, if_neg (by omega)]
      by_cases hi2 : i < f.now.length
      · exact h.same i hi2 hp.1
      · rw [bt_ge (by omega), bt_ge (by omega)]
    · have hlt' : f.dur.length < (put f.now at' s).length := hlt
      show (f.pend (((put f.now at' s).length - 1) / 64) || (decide (at' / 64 ≤ ((put f.now at' s).length - 1) / 64) && decide (((put f.now at' s).length - 1) / 64 ≤ (at' + s.length - 1) / 64))) = true
      rw [put_length] at hlt' ⊢
      by_cases hb : at' + s.length ≤ f.now.length
      · rw [Nat.max_eq_left hb] at hlt' ⊢
        rw [h.last hlt']; rfl
      · rw [Nat.max_eq_right (by omega)]
        have h2 : at' / 64 ≤ (at' + s.length - 1) / 64 := Nat.div_le_div_right (by omega)
        simp [h2]
theorem F.cut_inv {f : F} (h : f.Inv) (hp : ∀ n, f.pend n = false) {n : Nat} : (f.cut n).Inv := by
  have e := F.inv_none h hp
  refine ⟨⟨?_, fun m hm => ?_, ?_⟩, fun i hi _ => ?_, fun hlt => ?_⟩
  · show (f.dur.take n).length ≤ (f.now.take n).length
    rw [e]; exact Nat.le_refl _
  · exact absurd (show f.pend m = true from hm) (by rw [hp]; simp)
  · show (f.now.take n).length ≤ 16777216
    have := h.small
    simp; omega
  · show bt (f.now.take n) i = bt (f.dur.take n) i
    rw [e]
  · have : (f.dur.take n).length < (f.now.take n).length := hlt
    rw [e] at this; omega

/-- The machine: its files, all pending sectors in the order in which they came, whether it is down, the lost syncs that are due, the scheduled crash. -/
structure D where
  file : Nat → F
  queue : List (Nat × Nat)
  down : Bool
  lost : Nat
  left : Nat
  keep : List Int

structure D.Inv (d : D) : Prop where
  file : ∀ f, f < 16 → (d.file f).Inv
  queue : ∀ f n, (f, n) ∈ d.queue ↔ f < 16 ∧ (d.file f).pend n = true
  nodup : d.queue.Nodup

def upd (g : Nat → F) (i : Nat) (x : F) : Nat → F := fun j => if j = i then x else g j
theorem upd_same (g : Nat → F) (i : Nat) (x : F) : upd g i x i = x := by simp [upd]
theorem upd_other (g : Nat → F) {i j : Nat} (x : F) (h : j ≠ i) : upd g i x j = g j := by simp [upd, h]

def D.new : D := ⟨fun _ => F.new, [], false, 0, 0, []⟩
theorem D.new_inv : D.new.Inv := ⟨fun _ _ => F.new_inv, fun f n => by simp [D.new, F.new], List.nodup_nil⟩

/-- Does the pending sector with the index i survive? -/
def surv (keep : List Int) (i : Nat) : Bool := match keep[i % keep.length]? with | some k => k.tmod 2 != 0 | none => false
def saveAt (g : Nat → F) (p : Nat × Nat) : Nat → F := upd g p.1 ((g p.1).save p.2)
/-- The files after those of a list of sectors that survive, counted from i on, were made durable. -/
def saveAll (keep : List Int) : List (Nat × Nat) → Nat → (Nat → F) → Nat → F
  | [], _, g => g
  | p :: q, i, g => saveAll keep q (i + 1) (if surv keep i then saveAt g p else g)
def D.crash (d : D) (keep : List Int) : D :=
  if d.down then d else ⟨fun f => (saveAll keep d.queue 0 d.file f).revert, [], true, d.lost, 0, []⟩
def D.strike (d : D) : D × Bool :=
  if d.left = 0 then (d, false) else if d.left = 1 then ({ d with left := 0 }.crash d.keep, true) else ({ d with left := d.left - 1 }, false)
def ok (f : Int) : Bool := decide (0 ≤ f ∧ f < 16)
def D.settle (d : D) (f : Nat) : D := { d with file := upd d.file f (d.file f).settle, queue := d.queue.filter fun p => p.1 != f }
def D.size (d : D) (f : Int) : Nat := if ok f then (d.file f.toNat).now.length else 0
def D.read (d : D) (f at' size : Int) : List UInt8 × Int :=
  if d.down then ([], 9) else if ok f && decide (0 ≤ at') && decide (0 ≤ size) then (((d.file f.toNat).now.drop at'.toNat).take size.toNat, 0) else ([], 1)
/-- A write, whatever is scheduled. -/
def D.put (d : D) (f at' : Int) (s : List UInt8) : D × Int :=
  if ok f && decide (0 ≤ at') then
    if at' + s.length ≤ 16777216 then
      ({ d with file := upd d.file f.toNat ((d.file f.toNat).write at'.toNat s), queue := d.queue ++ ((d.file f.toNat).added at'.toNat s).map fun n => (f.toNat, n) }, 0)
    else (d, 6)
  else (d, 1)
def D.write (d : D) (f at' : Int) (s : List UInt8) : D × Int :=
  if d.down then (d, 9) else
    let p := d.put f at' s
    let q := p.1.strike
    if q.2 then (q.1, 9) else (q.1, p.2)
def D.sync (d : D) (f : Int) : D × Int :=
  if d.down then (d, 9) else
    let q := d.strike
    if q.2 then (q.1, 9) else if ok f then (if 0 < q.1.lost then ({ q.1 with lost := q.1.lost - 1 }, 10) else (q.1.settle f.toNat, 0)) else (q.1, 1)
def D.trunc (d : D) (f size : Int) : D × Int :=
  if d.down then (d, 9) else
    let q := d.strike
    if q.2 then (q.1, 9) else if ok f && decide (0 ≤ size) && decide (size ≤ (q.1.file f.toNat).now.length) then
      (let e := q.1.settle f.toNat; ({ e with file := upd e.file f.toNat ((e.file f.toNat).cut size.toNat) }, 0)) else (q.1, 1)
def D.lose (d : D) (n : Int) : D := { d with lost := n.toNat }
def D.arm (d : D) (n : Int) (keep : List Int) : D := { d with left := n.toNat, keep := keep }
def D.start (d : D) : D := { d with down := false }

theorem saveAll_ok (keep : List Int) : ∀ (q : List (Nat × Nat)) (i : Nat) (g : Nat → F), (∀ f, f < 16 → (g f).Ok) → (∀ p ∈ q, 64 * p.2 < (g p.1).now.length) → ∀ f, f < 16 → (saveAll keep q i g f).Ok ∧ (saveAll keep q i g f).now = (g f).now
  | [], _, g, hg, _ => fun f hf => ⟨hg f hf, rfl⟩
  | p :: q, i, g, hg, hp => fun f hf => by
    have key : ∀ g' : Nat → F, (g' = g ∨ g' = saveAt g p) → (∀ f, f < 16 → (g' f).Ok) ∧ ∀ f, (g' f).now = (g f).now := by
      rintro g' (rfl | rfl)
      · exact ⟨hg, fun _ => rfl⟩
      · refine ⟨fun f hf => ?_, fun f => ?_⟩
        · unfold saveAt upd
          split
          · next e => subst e; exact F.save_ok (hg _ hf) (hp p (List.mem_cons_self ..))
          · exact hg f hf
        · unfold saveAt upd
          split
          · next e => subst e; rfl
          · rfl
    obtain ⟨h1, h2⟩ := key (if surv keep i then saveAt g p else g) (by split <;> simp)
    obtain ⟨h3, h4⟩ := saveAll_ok keep q (i + 1) _ h1 (fun x hx => by rw [h2]; exact hp x (List.mem_cons_of_mem _ hx)) f hf
    exact ⟨h3, h4.trans (h2 f)⟩
theorem D.crash_inv {d : D} (h : d.Inv) (keep : List Int) : (d.crash keep).Inv := by
  unfold D.crash
  split
  · exact h
  · refine ⟨fun f hf => F.revert_inv ?_, fun f n => by simp [F.revert], List.nodup_nil⟩
    exact (saveAll_ok keep d.queue 0 d.file (fun f hf => (h.file f hf).toOk) (fun p hp => by
      obtain ⟨f, n⟩ := p
      have := (h.queue f n).1 hp
      exact (h.file f this.1).inside n this.2) f hf).1
theorem D.set_inv {d : D} (h : d.Inv) (lost left : Nat) (keep : List Int) (down : Bool) : D.Inv { d with lost := lost, left := left, keep := keep, down := down } := ⟨h.file, h.queue, h.nodup⟩
theorem D.strike_inv {d : D} (h : d.Inv) : d.strike.1.Inv := by
  unfold D.strike
  split
  · exact h
  · split
    · exact D.crash_inv (D.set_inv h d.lost 0 d.keep d.down) _
    · exact D.set_inv h d.lost _ d.keep d.down
theorem D.settle_inv {d : D} (h : d.Inv) {f : Nat} (hf : f < 16) : (d.settle f).Inv := by
  refine ⟨fun g hg => ?_, fun g n => ?_, h.nodup.filter _⟩
  · show (upd d.file f (d.file f).settle g).Inv
    unfold upd
    split
    · exact F.settle_inv (h.file f hf)
    · exact h.file g hg
  · show (g, n) ∈ d.queue.filter (fun p => p.1 != f) ↔ g < 16 ∧ (upd d.file f (d.file f).settle g).pend n = true
    rw [List.mem_filter, h.queue]
    unfold upd
    split
    · next e => subst e; simp [F.settle]
    · next e => simp [e]
theorem mem_secs {at' len n : Nat} (hl : 0 < len) : n ∈ secs at' len ↔ at' / 64 ≤ n ∧ n ≤ (at' + len - 1) / 64 := by
  unfold secs
  have : at' / 64 ≤ (at' + len - 1) / 64 := Nat.div_le_div_right (by omega)
  rw [List.mem_range'_1]
  omega
theorem D.put_inv {d : D} (h : d.Inv) (f at' : Int) (s : List UInt8) : (d.put f at' s).1.Inv := by
  unfold D.put
  split
  · next hc =>
    simp only [ok, Bool.and_eq_true, decide_eq_true_eq] at hc
    split
    · next hs =>
      obtain ⟨m, rfl⟩ : ∃ m : Nat, f = m := ⟨f.toNat, by omega⟩
      obtain ⟨k, rfl⟩ : ∃ k : Nat, at' = k := ⟨at'.toNat, by omega⟩
      simp only [Int.toNat_natCast]
      have hm : m < 16 := by omega
      refine ⟨fun g hg => ?_, fun g n => ?_, ?_⟩
      · show (upd d.file m _ g).Inv
        unfold upd
        split
        · exact F.write_inv (h.file m hm) (by omega)
        · exact h.file g hg
      · show (g, n) ∈ d.queue ++ _ ↔ g < 16 ∧ (upd d.file m _ g).pend n = true
        rw [List.mem_append, h.queue]
        unfold upd F.added F.write
        by_cases hs0 : s = []
        · simp only [if_pos hs0, List.map_nil, List.not_mem_nil, or_false]
          split
          · next e => subst e; rfl
          · rfl
        · have hpos : 0 < s.length := List.length_pos_iff.2 hs0
          simp only [if_neg hs0, List.mem_map, List.mem_filter, mem_secs hpos, Prod.mk.injEq, Bool.not_eq_true']
          split
          · next e =>
            subst e
            simp only [Bool.or_eq_true, Bool.and_eq_true, decide_eq_true_eq]
            constructor
            · rintro (⟨h1, h2⟩ | ⟨x, ⟨hx, _⟩, _, rfl⟩)
              · exact ⟨h1, Or.inl h2⟩
              · exact ⟨hm, Or.inr hx⟩
            · rintro ⟨h1, h2 | h2⟩
              · exact Or.inl ⟨h1, h2⟩
              · by_cases h3 : (d.file g).pend n = true
                · exact Or.inl ⟨h1, h3⟩
                · exact Or.inr ⟨n, ⟨h2, by simpa using h3⟩, by simp⟩
          · next e =>
            constructor
            · rintro (h1 | ⟨x, _, h2, _⟩)
              · exact h1
              · exact absurd h2.symm e
            · exact fun h1 => Or.inl h1
      · show (d.queue ++ ((d.file m).added k s).map fun n => (m, n)).Nodup
        rw [List.nodup_append]
        refine ⟨h.nodup, ?_, ?_⟩
        · refine List.Pairwise.map (R := fun a b => a ≠ b) _ (fun a b hab e => hab (by injection e)) ?_
          unfold F.added
          split
          · exact List.nodup_nil
          · exact (List.nodup_range' ..).filter _
        · rintro ⟨g, n⟩ hg ⟨g', n'⟩ hg' e
          injection e with e1 e2
          subst e1 e2
          obtain ⟨x, hx, e3⟩ := List.mem_map.1 hg'
          injection e3 with e4 e5
          subst e4 e5
          have h1 := ((h.queue _ _).1 hg).2
          unfold F.added at hx
          split at hx
          · cases hx
          · have := (List.mem_filter.1 hx).2
            rw [h1] at this
            cases this
    · exact h
  · exact h
theorem D.write_inv {d : D} (h : d.Inv) (f at' : Int) (s : List UInt8) : (d.write f at' s).1.Inv := by
  unfold D.write
  split
  · exact h
  · dsimp only
    split
    · exact D.strike_inv (D.put_inv h f at' s)
    · exact D.strike_inv (D.put_inv h f at' s)
theorem D.sync_inv {d : D} (h : d.Inv) (f : Int) : (d.sync f).1.Inv := by
  unfold D.sync
  split
  · exact h
  · dsimp only
    have hs := D.strike_inv h
    split
    · exact hs
    · split
      · next hf =>
        simp only [ok, decide_eq_true_eq] at hf
        split
        · exact D.set_inv hs _ _ _ _
        · exact D.settle_inv hs (by omega)
      · exact hs
theorem D.trunc_inv {d : D} (h : d.Inv) (f size : Int) : (d.trunc f size).1.Inv := by
  unfold D.trunc
  split
  · exact h
  · dsimp only
    have hs := D.strike_inv h
    split
    · exact hs
    · split
      · next hf =>
        simp only [ok, Bool.and_eq_true, decide_eq_true_eq] at hf
        have hf16 : f.toNat < 16 := by omega
        have hq := D.settle_inv hs hf16
        refine ⟨fun g hg => ?_, fun g n => ?_, hq.nodup⟩
        · show (upd (d.strike.1.settle f.toNat).file f.toNat _ g).Inv
          unfold upd
          split
          · refine F.cut_inv (hq.file _ hf16) (fun n => ?_)
            simp [D.settle, upd_same, F.settle]
          · exact hq.file g hg
        · rw [hq.queue]
          show g < 16 ∧ ((d.strike.1.settle f.toNat).file g).pend n = true ↔ g < 16 ∧ (upd (d.strike.1.settle f.toNat).file f.toNat _ g).pend n = true
          unfold upd
          split
          · next e => subst e; rfl
          · rfl
      · exact hs
end Dk
end Go.Proofs.YtljgfnglknpfaaaGreatDoor
