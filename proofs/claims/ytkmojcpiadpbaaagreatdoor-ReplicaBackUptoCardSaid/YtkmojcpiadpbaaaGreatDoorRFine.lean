/-
  What every replica is, whatever it hears: its numbers stay in their bounds, its log stays ordered; the program's own ways to count votes and to commit.
-/
import Derived.Test.YtkmojcpiadpbaaaGreatDoorRLoop
namespace Go.Proofs.YtkmojcpiadpbaaaGreatDoor
namespace Rp

theorem sound_iff : ∀ (l : List Rec) (a b : Int), sound l a b = true ↔ (∀ x ∈ l, a ≤ x.t ∧ x.t ≤ b ∧ x.d.length ≤ 2000) ∧ l.Pairwise (fun x y => x.t ≤ y.t)
  | [], a, b => by simp [sound]
  | x :: l, a, b => by
    rw [sound_cons]
    have ih := sound_iff l x.t b
    by_cases h : x.t < a ∨ b < x.t ∨ 2000 < x.d.length
    · rw [if_pos h]
      refine Iff.intro (fun e => (by cases e)) (fun ⟨e, _⟩ => ?_)
      have := e x (List.mem_cons_self ..)
      omega
    · rw [if_neg h, ih, List.pairwise_cons]
      refine Iff.intro (fun ⟨e1, e2⟩ => ⟨fun y hy => ?_, fun y hy => (e1 y hy).1, e2⟩) (fun ⟨e1, e2, e3⟩ => ⟨fun y hy => ?_, e3⟩)
      · rcases List.mem_cons.1 hy with rfl | hy
        · omega
        · have := e1 y hy; omega
      · have := e1 y (List.mem_cons_of_mem _ hy)
        have := e2 y hy
        omega
theorem tAt_mem {l : List Rec} {n : Nat} (h1 : 1 ≤ n) (h2 : n ≤ l.length) : ∃ x ∈ l, tAt l n = x.t := by
  refine ⟨l[n - 1]'(by omega), List.getElem_mem _, ?_⟩
  unfold tAt
  rw [if_neg (by omega), List.getElem?_eq_getElem (by omega)]
  rfl
theorem tAt_getElem {l : List Rec} {n : Nat} (h : n < l.length) : tAt l (n + 1) = l[n].t := by
  unfold tAt
  rw [if_neg (by omega), Nat.add_sub_cancel, List.getElem?_eq_getElem h]
  rfl
theorem take_le {l : List Rec} (h : l.Pairwise (fun x y => x.t ≤ y.t)) {p : Nat} (hp : p ≤ l.length) {a : Rec} (ha : a ∈ l.take p) : a.t ≤ tAt l p := by
  obtain ⟨i, hi, rfl⟩ := List.getElem_of_mem ha
  rw [List.length_take] at hi
  rw [List.getElem_take]
  obtain ⟨q, rfl⟩ : ∃ q, p = q + 1 := ⟨p - 1, by omega⟩
  rw [tAt_getElem (by omega)]
  rcases Nat.lt_or_ge i q with h1 | h1
  · exact List.pairwise_iff_getElem.1 h i q (by omega) (by omega) h1
  · have : i = q := by omega
    subst this
    exact Int.le_refl _
theorem drop_ge {l : List Rec} (h : l.Pairwise (fun x y => x.t ≤ y.t)) {p : Nat} (h1 : 1 ≤ p) {b : Rec} (hb : b ∈ l.drop p) : tAt l p ≤ b.t := by
  obtain ⟨i, hi, rfl⟩ := List.getElem_of_mem hb
  rw [List.length_drop] at hi
  rw [List.getElem_drop]
  obtain ⟨q, rfl⟩ : ∃ q, p = q + 1 := ⟨p - 1, by omega⟩
  rw [tAt_getElem (by omega)]
  exact List.pairwise_iff_getElem.1 h q _ (by omega) (by omega) (by omega)
theorem agree_at : ∀ (l : List Rec) (j : Nat) (rs : List Rec) (k : Nat), k ≤ agree l j rs → 1 ≤ k → j + k ≤ l.length ∧ tAt l (j + k) = tAt rs k
  | l, j, [], k, h, h1 => by unfold agree at h; omega
  | l, j, x :: xs, k, h, h1 => by
    unfold agree at h
    split at h
    · next hc =>
      rcases Nat.lt_or_ge k 2 with h2 | h2
      · obtain rfl : k = 1 := by omega
        refine ⟨hc.1, hc.2.trans ?_⟩
        rfl
      · obtain ⟨k', rfl⟩ : ∃ k', k = k' + 1 := ⟨k - 1, by omega⟩
        have := agree_at l (j + 1) xs k' (by omega) (by omega)
        refine ⟨by omega, ?_⟩
        rw [show j + (k' + 1) = j + 1 + k' by omega, this.2]
        unfold tAt
        rw [if_neg (by omega), if_neg (by omega)]
        obtain ⟨m, rfl⟩ : ∃ m, k' = m + 1 := ⟨k' - 1, by omega⟩
        simp
    · omega
theorem tI_nat {l : List Rec} {n : Int} (h : 0 ≤ n) : tI l n = tAt l n.toNat := by
  unfold tI
  by_cases h1 : 1 ≤ n
  · rw [if_pos h1]
  · rw [if_neg h1]
    obtain rfl : n = 0 := by omega
    rfl
theorem best_le : ∀ (l : List Rec) (t mm c : Int) (N : Nat), c ≤ best l t mm c N ∧ best l t mm c N ≤ max c N
  | l, t, mm, c, 0 => by unfold best; omega
  | l, t, mm, c, n + 1 => by
    unfold best
    have := best_le l t mm c n
    split
    · next h => refine ⟨by omega, by push_cast; omega⟩
    · refine ⟨this.1, by push_cast; omega⟩
/-- Commit as the program does it. -/
theorem best_max {l : List Rec} (hs : l.Pairwise (fun x y => x.t ≤ y.t)) {t mm c : Int} (ht : ∀ x ∈ l, x.t ≤ t) (h0 : 0 ≤ c) : ∀ N : Nat, N ≤ l.length → mm ≤ l.length → best l t mm c N = if c < mm ∧ mm ≤ N ∧ tAt l mm.toNat = t then mm else if mm ≤ N then c else best l t mm c N
  | 0, _, hm => by
    by_cases h : c < mm ∧ mm ≤ ((0 : Nat) : Int) ∧ tAt l mm.toNat = t
    · omega
    · rw [if_neg h]
      split
      · rfl
      · rfl
  | n + 1, hn, hm => by
    by_cases hmn : mm ≤ ((n + 1 : Nat) : Int)
    · have ih := best_max hs ht h0 n (by omega) hm
      unfold best
      by_cases he : mm = ((n + 1 : Nat) : Int)
      · have e : mm.toNat = n + 1 := by omega
        rw [e]
        by_cases hb : c < mm ∧ tAt l (n + 1) = t
        · rw [if_pos ⟨by push_cast at he; omega, hb.2, by push_cast at he; omega⟩, if_pos ⟨hb.1, hmn, hb.2⟩, he]
          rfl
        · rw [if_neg (fun w => hb ⟨by push_cast at he; omega, w.2.1⟩), if_neg (fun w => hb ⟨w.1, w.2.2⟩), if_pos hmn]
          -- nothing below either
          by_cases hc : c < mm
          · have hne : ∀ k, k ≤ n → best l t mm c k = c := by
              intro k hk
              induction k with
              | zero => rfl
              | succ k ihk =>
                unfold best
                rw [if_neg (fun w => ?_), ihk (by omega)]
                apply hb
                refine ⟨hc, ?_⟩
                have h1 : tAt l (k + 1) ≤ tAt l (n + 1) := by
                  rw [tAt_getElem (by omega), tAt_getElem (by omega)]
                  exact List.pairwise_iff_getElem.1 hs k n (by omega) (by omega) (by omega)
                obtain ⟨x, hx, ex⟩ := tAt_mem (l := l) (n := n + 1) (by omega) hn
                have := ht x hx
                rw [← ex] at this
                have := w.2.1
                omega
            exact hne n (Nat.le_refl _)
          · exact best_low (by push_cast at he; omega)
      · have hmn' : mm ≤ (n : Int) := by push_cast at hmn he; omega
        rw [if_neg (fun w => by have := w.2.2; omega), ih]
        by_cases hb : c < mm ∧ tAt l mm.toNat = t
        · rw [if_pos ⟨hb.1, hmn', hb.2⟩, if_pos ⟨hb.1, hmn, hb.2⟩]
        · rw [if_neg (fun w => hb ⟨w.1, w.2.2⟩), if_pos hmn', if_neg (fun w => hb ⟨w.1, w.2.2⟩), if_pos hmn]
    · rw [if_neg (fun w => hmn w.2.1), if_neg hmn]
theorem best_adv {l : List Rec} (hs : l.Pairwise (fun x y => x.t ≤ y.t)) {t mm c : Int} (ht : ∀ x ∈ l, x.t ≤ t) (h0 : 0 ≤ c) (hm : mm ≤ l.length) : best l t mm c l.length = if c < mm ∧ tI l mm = t then mm else c := by
  rw [best_max hs ht h0 l.length (Nat.le_refl _) hm, if_pos hm]
  by_cases h : c < mm ∧ tAt l mm.toNat = t
  · rw [if_pos ⟨h.1, hm, h.2⟩, if_pos ⟨h.1, by rw [tI_nat (by omega)]; exact h.2⟩]
  · rw [if_neg (fun w => h ⟨w.1, w.2.2⟩), if_neg (fun w => h ⟨w.1, by rw [← tI_nat (by omega)]; exact w.2⟩)]

structure Fine (r : R) : Prop where
  id : 0 ≤ r.id ∧ r.id ≤ 2
  tm : 0 ≤ r.h.tm ∧ r.h.tm ≤ 1099511627776
  vt : -1 ≤ r.h.vt ∧ r.h.vt ≤ 2
  len : r.l.length ≤ 4000
  snd : ∀ x ∈ r.l, 1 ≤ x.t ∧ x.t ≤ r.h.tm ∧ x.d.length ≤ 2000
  ord : r.l.Pairwise (fun x y => x.t ≤ y.t)
  role : r.role = 0 ∨ r.role = 1 ∨ r.role = 2
  cm : 0 ≤ r.cm ∧ r.cm ≤ (r.l.length : Int)
  ask : r.role = 1 → r.votes r.id = true
  pos : r.role ≠ 0 → 1 ≤ r.h.tm
  nxt : r.role = 2 → ∀ j, 1 ≤ r.nxt j ∧ r.nxt j ≤ (r.l.length : Int) + 1
  mat : r.role = 2 → ∀ j, 0 ≤ r.mat j ∧ r.mat j ≤ (r.l.length : Int)
  own : r.role = 2 → r.mat r.id = 0
theorem Fine.sound {r : R} (h : Fine r) : sound r.l 1 r.h.tm = true := (sound_iff _ _ _).2 ⟨h.snd, h.ord⟩
theorem new_fine {id : Int} {h : Hard} {l : List Rec} {r : R} (e : newR id h l = some r) : Fine r ∧ r = ⟨id, h, l, 0, 0, fun _ => false, fun _ => 0, fun _ => 0⟩ := by
  unfold newR at e
  split at e
  · cases e
  · next hc =>
    injection e with e
    subst e
    have hs : Rp.sound l 1 h.tm = true := by
      cases hs : Rp.sound l 1 h.tm with
      | true => rfl
      | false => exact absurd (Or.inr (Or.inr (Or.inr (Or.inr (Or.inr (Or.inr (Or.inr hs))))))) hc
    obtain ⟨h1, h2⟩ := (sound_iff _ _ _).1 hs
    have hb : 0 ≤ id ∧ id ≤ 2 ∧ 0 ≤ h.tm ∧ h.tm ≤ 1099511627776 ∧ -1 ≤ h.vt ∧ h.vt ≤ 2 ∧ l.length ≤ 4000 := by
      refine ⟨?_, ?_, ?_, ?_, ?_, ?_, ?_⟩ <;> (apply Classical.byContradiction; intro w; apply hc; omega)
    exact ⟨⟨⟨hb.1, hb.2.1⟩, ⟨hb.2.2.1, hb.2.2.2.1⟩, ⟨hb.2.2.2.2.1, hb.2.2.2.2.2.1⟩, hb.2.2.2.2.2.2, h1, h2, Or.inl rfl, ⟨Int.le_refl _, Int.natCast_nonneg _⟩, (fun e => by cases e), (fun e => absurd rfl e), (fun e => by cases e), (fun e => by cases e), (fun e => by cases e)⟩, rfl⟩
theorem tick_fine {r : R} (h : Fine r) : Fine (tickR r).1 := by
  unfold tickR
  split
  · exact h
  split
  · exact h
  · next h1 h2 =>
    have ht := h.tm
    have hi := h.id
    refine ⟨h.id, ⟨?_, ?_⟩, ⟨?_, ?_⟩, h.len, fun x hx => ?_, h.ord, Or.inr (Or.inl rfl), h.cm, fun _ => ?_, fun _ => ?_, (fun e => by cases e), (fun e => by cases e), (fun e => by cases e)⟩
    · show 0 ≤ r.h.tm + 1; omega
    · show r.h.tm + 1 ≤ _; omega
    · show -1 ≤ r.id; omega
    · show r.id ≤ 2; omega
    · have := h.snd x hx
      show _ ∧ x.t ≤ r.h.tm + 1 ∧ _
      omega
    · exact decide_eq_true rfl
    · show 1 ≤ r.h.tm + 1; omega
theorem propose_fine {r : R} (h : Fine r) (d : List UInt8) : Fine (proposeR r d).1 := by
  unfold proposeR
  split
  · exact h
  split
  · exact h
  split
  · exact h
  · next h1 h2 h3 =>
    have h1 : r.role = 2 := Classical.byContradiction h1
    have hl := h.len
    have hp := h.pos (by omega)
    refine ⟨h.id, h.tm, h.vt, ?_, fun x hx => ?_, ?_, h.role, ⟨h.cm.1, ?_⟩, h.ask, h.pos, fun e j => ?_, fun e j => ?_, h.own⟩
    · show (r.l ++ [_]).length ≤ 4000
      rw [List.length_append, List.length_singleton]; omega
    · rcases List.mem_append.1 hx with hx | hx
      · exact h.snd x hx
      · obtain rfl := List.mem_singleton.1 hx
        exact ⟨hp, Int.le_refl _, by show d.length ≤ 2000; omega⟩
    · show (r.l ++ [_]).Pairwise _
      rw [List.pairwise_append]
      refine ⟨h.ord, List.pairwise_singleton _ _, fun a ha b hb => ?_⟩
      obtain rfl := List.mem_singleton.1 hb
      exact (h.snd a ha).2.1
    · show r.cm ≤ ((r.l ++ [_]).length : Int)
      have := h.cm.2
      rw [List.length_append, List.length_singleton]; push_cast; omega
    · show 1 ≤ r.nxt j ∧ r.nxt j ≤ ((r.l ++ [_]).length : Int) + 1
      have := h.nxt e j
      rw [List.length_append, List.length_singleton]; push_cast; omega
    · show 0 ≤ r.mat j ∧ r.mat j ≤ ((r.l ++ [_]).length : Int)
      have := h.mat e j
      rw [List.length_append, List.length_singleton]; push_cast; omega

structure Right (id : Int) (m : Msg) : Prop where
  k : 0 ≤ m.k ∧ m.k ≤ 3
  dst : m.dst = id
  ne : m.fr ≠ id
  fr : 0 ≤ m.fr ∧ m.fr ≤ 2
  tm : 1 ≤ m.tm ∧ m.tm ≤ 1099511627776
  ix : 0 ≤ m.ix ∧ m.ix ≤ 4000
  pv : 0 ≤ m.pv ∧ m.pv ≤ m.tm
  cm : 0 ≤ m.cm ∧ m.cm ≤ 4000
  len : m.rs.length ≤ 8
  zero : 0 < m.ix ∨ m.pv = 0
  sum : m.ix + m.rs.length ≤ 4000
  snd : ∀ x ∈ m.rs, max 1 m.pv ≤ x.t ∧ x.t ≤ m.tm ∧ x.d.length ≤ 2000
  ord : m.rs.Pairwise (fun x y => x.t ≤ y.t)
theorem right_iff {id : Int} {m : Msg} : right id m = true ↔ Right id m := by
  unfold right
  rw [Bool.and_eq_true, decide_eq_true_iff, sound_iff]
  constructor
  · rintro ⟨⟨a1, a2, a3, a4, a5, a6, a7, a8, a9, a10, a11, a12, a13, a14, a15, a16, a17⟩, b1, b2⟩
    exact ⟨⟨a1, a2⟩, a3, a4, ⟨a5, a6⟩, ⟨a7, a8⟩, ⟨a9, a10⟩, ⟨a11, a12⟩, ⟨a13, a14⟩, a15, a16, a17, b1, b2⟩
  · intro h
    exact ⟨⟨h.k.1, h.k.2, h.dst, h.ne, h.fr.1, h.fr.2, h.tm.1, h.tm.2, h.ix.1, h.ix.2, h.pv.1, h.pv.2, h.cm.1, h.cm.2, h.len, h.zero, h.sum⟩, h.snd, h.ord⟩
theorem later_fine {r : R} (h : Fine r) {m : Msg} (hm : Right r.id m) : Fine (later r m) ∧ m.tm ≤ (later r m).h.tm ∧ (later r m).id = r.id := by
  unfold later
  split
  · next ht =>
    have := hm.tm
    refine ⟨⟨h.id, ⟨?_, ?_⟩, ⟨?_, ?_⟩, h.len, fun x hx => ?_, h.ord, Or.inl rfl, h.cm, (fun e => by cases e), (fun e => absurd rfl e), (fun e => by cases e), (fun e => by cases e), (fun e => by cases e)⟩, Int.le_refl _, rfl⟩
    · show 0 ≤ m.tm; omega
    · show m.tm ≤ _; omega
    · show (-1 : Int) ≤ -1; omega
    · show (-1 : Int) ≤ 2; omega
    · have := h.snd x hx
      show _ ∧ x.t ≤ m.tm ∧ _
      omega
  · exact ⟨h, by omega, rfl⟩
theorem vote_fine {r : R} (h : Fine r) {m : Msg} (hm : Right r.id m) : Fine (voteR r m).1 := by
  unfold voteR
  split
  · have := hm.fr
    exact ⟨h.id, h.tm, ⟨by show -1 ≤ m.fr; omega, by show m.fr ≤ 2; omega⟩, h.len, h.snd, h.ord, h.role, h.cm, h.ask, h.pos, h.nxt, h.mat, h.own⟩
  · exact h
theorem cnt_two {f : Int → Bool} {i j : Int} (hi : 0 ≤ i ∧ i ≤ 2) (hj : 0 ≤ j ∧ j ≤ 2) (hij : j ≠ i) (h1 : f i = true) (h2 : f j = true) : ¬ cnt f < 2 := by
  unfold cnt
  have hi : i = 0 ∨ i = 1 ∨ i = 2 := by omega
  have hj : j = 0 ∨ j = 1 ∨ j = 2 := by omega
  rcases hi with rfl | rfl | rfl <;> rcases hj with rfl | rfl | rfl <;> first | exact absurd rfl hij | (simp only [h1, h2, if_true]; omega)
/-- Counting votes as the program does it. -/
theorem voted_lead {r : R} (h : Fine r) {m : Msg} (hm : Right r.id m) (h1 : r.role = 1) (h2 : m.tm = r.h.tm) (h3 : m.yes = true) : votedR r m = ({ r with votes := fun v => r.votes v || decide (v = m.fr), role := 2, nxt := fun _ => (r.l.length : Int) + 1, mat := fun _ => 0 }, Out.just (all { r with votes := fun v => r.votes v || decide (v = m.fr), role := 2, nxt := fun _ => (r.l.length : Int) + 1, mat := fun _ => 0 })) := by
  unfold votedR
  rw [if_pos ⟨h1, h2, h3⟩]
  show (if cnt _ < 2 then _ else _ : R × Out) = _
  rw [if_neg]
  exact cnt_two (i := r.id) (j := m.fr) h.id hm.fr hm.ne (by simp [h.ask h1]) (by simp)
theorem voted_fine {r : R} (h : Fine r) {m : Msg} (hm : Right r.id m) : Fine (votedR r m).1 := by
  by_cases hc : r.role = 1 ∧ m.tm = r.h.tm ∧ m.yes = true
  · rw [voted_lead h hm hc.1 hc.2.1 hc.2.2]
    refine ⟨h.id, h.tm, h.vt, h.len, h.snd, h.ord, Or.inr (Or.inr rfl), h.cm, (fun e => by cases e), fun _ => h.pos (by rw [hc.1]; decide), fun _ j => ⟨?_, Int.le_refl _⟩, fun _ j => ⟨Int.le_refl _, Int.natCast_nonneg _⟩, fun _ => rfl⟩
    show 1 ≤ (r.l.length : Int) + 1
    omega
  · unfold votedR
    rw [if_neg hc]
    exact h
theorem append_fine {r : R} (h : Fine r) {m : Msg} (hm : Right r.id m) (ht : m.tm ≤ r.h.tm) : Fine (appendR r m).1 := by
  unfold appendR
  split
  · exact h
  next h1 =>
  split
  · exact h
  next h2 =>
  have h0 : ∀ l : List Rec, ∀ c : Int, l.length ≤ 4000 → (∀ x ∈ l, 1 ≤ x.t ∧ x.t ≤ r.h.tm ∧ x.d.length ≤ 2000) → l.Pairwise (fun x y => x.t ≤ y.t) → 0 ≤ c ∧ c ≤ (l.length : Int) → Fine { r with role := 0, cm := c, l := l } := fun l c a1 a2 a3 a4 =>
    ⟨h.id, h.tm, h.vt, a1, a2, a3, Or.inl rfl, a4, (fun e => by cases e), (fun e => absurd rfl e), (fun e => by cases e), (fun e => by cases e), (fun e => by cases e)⟩
  split
  · exact h0 r.l r.cm h.len h.snd h.ord h.cm
  next h3 =>
  have h3a : m.ix ≤ (r.l.length : Int) := by omega
  have h3b : tI r.l m.ix = m.pv := Classical.byContradiction fun w => h3 (Or.inr w)
  obtain ⟨k, hk⟩ : ∃ k, agree r.l m.ix.toNat m.rs = k := ⟨_, rfl⟩
  rw [hk]
  have hkl := agree_le r.l m.ix.toNat m.rs
  have hag : ∀ j, j ≤ k → 1 ≤ j → m.ix.toNat + j ≤ r.l.length ∧ tAt r.l (m.ix.toNat + j) = tAt m.rs j := fun j hj => agree_at r.l m.ix.toNat m.rs j (by omega)
  have hkk : m.ix.toNat + k ≤ r.l.length := by
    rcases Nat.eq_zero_or_pos k with e | e
    · have := hm.ix; omega
    · exact (hag k (Nat.le_refl _) e).1
  have hix := hm.ix
  have hcm := h.cm
  have hmcm := hm.cm
  have hsum := hm.sum
  show Fine (if k < m.rs.length then _ else _ : R × Out).1
  split
  · next hlt =>
    split
    · exact h0 r.l r.cm h.len h.snd h.ord h.cm
    · next hci =>
      have hlen : (r.l.take (m.ix.toNat + k) ++ m.rs.drop k).length = m.ix.toNat + m.rs.length := by
        rw [List.length_append, List.length_take, List.length_drop]; omega
      refine h0 _ _ (by rw [hlen]; omega) (fun x hx => ?_) ?_ ⟨by omega, by rw [hlen]; omega⟩
      · rcases List.mem_append.1 hx with hx | hx
        · exact h.snd x (List.mem_of_mem_take hx)
        · have := hm.snd x (List.mem_of_mem_drop hx)
          omega
      · rw [List.pairwise_append]
        refine ⟨h.ord.sublist (List.take_sublist _ _), hm.ord.sublist (List.drop_sublist _ _), fun a ha b hb => ?_⟩
        have ha' := take_le h.ord hkk ha
        rcases Nat.eq_zero_or_pos k with e | e
        · subst e
          have hb' := hm.snd b (List.mem_of_mem_drop hb)
          rw [Nat.add_zero, ← tI_nat hix.1, h3b] at ha'
          omega
        · have hb' := drop_ge hm.ord e hb
          rw [← (hag k (Nat.le_refl _) e).2] at hb'
          exact Int.le_trans ha' hb'
  · next hlt => exact h0 r.l _ h.len h.snd h.ord ⟨by omega, by omega⟩
theorem appended_fine {r : R} (h : Fine r) {m : Msg} (hm : Right r.id m) : Fine (appendedR r m).1 := by
  unfold appendedR
  split
  · next hc =>
    have hn := h.nxt hc.1
    have hmt := h.mat hc.1
    have hix := hm.ix
    split
    · split
      · exact h
      · next hle =>
        have hb := best_le r.l r.h.tm (max (upd r.mat m.fr (max (r.mat m.fr) m.ix) ((r.id + 1) % 3)) (upd r.mat m.fr (max (r.mat m.fr) m.ix) ((r.id + 2) % 3))) r.cm r.l.length
        have hcm := h.cm
        have hf : Fine { r with mat := upd r.mat m.fr (max (r.mat m.fr) m.ix), nxt := upd r.nxt m.fr (upd r.mat m.fr (max (r.mat m.fr) m.ix) m.fr + 1), cm := best r.l r.h.tm (max (upd r.mat m.fr (max (r.mat m.fr) m.ix) ((r.id + 1) % 3)) (upd r.mat m.fr (max (r.mat m.fr) m.ix) ((r.id + 2) % 3))) r.cm r.l.length } := by
          refine ⟨h.id, h.tm, h.vt, h.len, h.snd, h.ord, h.role, ⟨?_, ?_⟩, h.ask, h.pos, fun _ j => ?_, fun _ j => ?_, fun _ => ?_⟩
          · show 0 ≤ best _ _ _ _ _; omega
          · show best _ _ _ _ _ ≤ (r.l.length : Int); omega
          · show 1 ≤ upd r.nxt m.fr _ j ∧ upd r.nxt m.fr _ j ≤ (r.l.length : Int) + 1
            rw [upd_same]
            by_cases e : j = m.fr
            · subst e
              rw [upd_same]
              have := hmt m.fr
              omega
            · rw [upd_ne _ _ e]; exact hn j
          · show 0 ≤ upd r.mat m.fr _ j ∧ upd r.mat m.fr _ j ≤ (r.l.length : Int)
            by_cases e : j = m.fr
            · subst e
              rw [upd_same]
              have := hmt m.fr
              omega
            · rw [upd_ne _ _ e]; exact hmt j
          · show upd r.mat m.fr _ r.id = 0
            rw [upd_ne _ _ (fun e => hm.ne e.symm)]
            exact h.own hc.1
        show Fine (if _ ≤ (r.l.length : Int) then _ else _ : R × Out).1
        split
        · exact hf
        · exact hf
    · refine ⟨h.id, h.tm, h.vt, h.len, h.snd, h.ord, h.role, h.cm, h.ask, h.pos, fun _ j => ?_, h.mat, h.own⟩
      show 1 ≤ upd r.nxt m.fr _ j ∧ upd r.nxt m.fr _ j ≤ (r.l.length : Int) + 1
      by_cases e : j = m.fr
      · subst e
        rw [upd_same]
        have := hmt m.fr
        have := hn m.fr
        omega
      · rw [upd_ne _ _ e]; exact hn j
  · exact h
theorem kind_fine {r : R} (h : Fine r) {m : Msg} (hm : Right r.id m) (ht : m.tm ≤ r.h.tm) : Fine (kindR r m).1 := by
  unfold kindR
  split
  · exact vote_fine h hm
  split
  · exact voted_fine h hm
  split
  · exact append_fine h hm ht
  · exact appended_fine h hm
theorem hear_fine {r : R} (h : Fine r) (m : Msg) : Fine (hearR r m).1 := by
  unfold hearR
  split
  · exact h
  · next hr =>
    have hr : right r.id m = true := by cases h : right r.id m with | true => rfl | false => exact absurd h hr
    have hm := right_iff.1 hr
    obtain ⟨h1, h2, h3⟩ := later_fine h hm
    exact kind_fine h1 (h3 ▸ hm) h2
end Rp
end Go.Proofs.YtkmojcpiadpbaaaGreatDoor
