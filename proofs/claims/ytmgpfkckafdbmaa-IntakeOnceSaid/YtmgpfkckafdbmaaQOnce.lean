/-
  Each record once: what is stored, beside the table. What a record comes to is what has been stored of its producer and epoch. Nothing of the program stands here. No condition.
-/
import Derived.Test.YtmgpfkckafdbmaaQModel
namespace Go.Proofs.Ytmgpfkckafdbmaa
namespace Pq

/-- A record that was stored. -/
structure K where
  id : Int
  ep : Int
  seq : Int
  pos : Int
def of (l : List K) (a e : Int) : List K := l.filter (fun k => decide (k.id = a ∧ k.ep = e))
structure Inv (s : List P) (l : List K) (pos : Int) : Prop where
  right : Right s
  seqs : ∀ (a e : Int) (i : Nat) (k : K), (of l a e)[i]? = some k → k.seq = i
  cur : ∀ a, ((of l a (get s a).ep).length : Int) = (get s a).nx
  last : ∀ a, (get s a).last = keep ((of l a (get s a).ep).map K.pos)
  old : ∀ k, k ∈ l → k.ep ≤ (get s k.id).ep
  top : ∀ k, k ∈ l → k.pos ≤ pos
theorem of_app (l m : List K) (a e : Int) : of (l ++ m) a e = of l a e ++ of m a e := by unfold of; rw [List.filter_append]
theorem of_one {k : K} {a e : Int} (h : k.id = a ∧ k.ep = e) : of [k] a e = [k] := by unfold of; simp [h]
theorem of_other {k : K} {a e : Int} (h : ¬ (k.id = a ∧ k.ep = e)) : of [k] a e = [] := by unfold of; simp only [List.filter_cons, List.filter_nil]; rw [if_neg (by simpa using h)]
theorem mem_of {l : List K} {a e : Int} {k : K} : k ∈ of l a e ↔ k ∈ l ∧ k.id = a ∧ k.ep = e := by unfold of; simp
theorem inv_nil (pos : Int) : Inv [] [] pos := by
  refine ⟨⟨by decide, trivial⟩, fun a e i k h => ?_, fun a => rfl, fun a => rfl, fun k h => (by cases h), fun k h => (by cases h)⟩
  simp [of] at h
theorem Inv.up {s : List P} {l : List K} {pos pos' : Int} (h : Inv s l pos) (hp : pos ≤ pos') : Inv s l pos' := ⟨h.right, h.seqs, h.cur, h.last, h.old, fun k hk => Int.le_trans (h.top k hk) hp⟩
theorem keep_keep (L : List Int) (x : Int) : keep (keep L ++ [x]) = keep (L ++ [x]) := by
  unfold keep
  have e : L.drop (L.length - 20) ++ [x] = (L ++ [x]).drop (L.length - 20) := by rw [List.drop_append_of_le_length (by omega)]
  rw [e, List.drop_drop]
  congr 1
  simp only [List.length_drop, List.length_append, List.length_singleton]
  omega
theorem keep_mem {L : List Int} {x : Int} (h : x ∈ keep L) : x ∈ L := List.mem_of_mem_drop h
theorem Inv.below {s : List P} {l : List K} {pos pos' : Int} (h : Inv s l pos) (hp : pos < pos') (a : Int) : below (get s a).last pos' := by
  intro x hx
  rw [h.last a] at hx
  obtain ⟨k, hk, rfl⟩ := List.mem_map.1 (keep_mem (List.mem_of_getLast? hx))
  exact Int.lt_of_le_of_lt (h.top k (mem_of.1 hk).1) hp
/-- A record that is the next one is stored. -/
theorem Inv.put {s : List P} {l : List K} {pos pos' a e q : Int} (h : Inv s l pos) (hl : (look s a e q).2 = 0) (hp : pos < pos') (hb : inB pos') :
    Pq.put s a e q pos' = Pq.set s (more (Pq.get s a) pos') ∧ Inv (Pq.put s a e q pos') (l ++ [⟨a, e, q, pos'⟩]) pos' := by
  obtain ⟨h1, h2, h3, h4, h5, h6, _⟩ := look_ok hl
  have e1 : Pq.put s a e q pos' = Pq.set s (more (Pq.get s a) pos') := by
    unfold Pq.put
    rw [if_pos ⟨hl, hb, h.below hp a⟩]
  refine ⟨e1, ?_⟩
  have hid : (more (Pq.get s a) pos').id = a := get_id s a
  have g1 : Pq.get (Pq.put s a e q pos') a = more (Pq.get s a) pos' := by
    rw [e1]
    have := get_set_same s (more (Pq.get s a) pos')
    rwa [hid] at this
  have g2 : ∀ b, b ≠ a → Pq.get (Pq.put s a e q pos') b = Pq.get s b := fun b hb => by
    rw [e1]
    exact get_set_ne s _ (by rw [hid]; exact hb)
  have gep : ∀ b, (Pq.get (Pq.put s a e q pos') b).ep = (Pq.get s b).ep := fun b => by
    by_cases q : b = a
    · rw [q, g1]
      rfl
    · rw [g2 b q]
  have hc := h.cur a
  have ho : of (l ++ [⟨a, e, q, pos'⟩]) a e = of l a e ++ [⟨a, e, q, pos'⟩] := by rw [of_app, of_one ⟨rfl, rfl⟩]
  have hn : ∀ b e', ¬ (b = a ∧ e' = e) → of (l ++ [⟨a, e, q, pos'⟩]) b e' = of l b e' := fun b e' k => by
    rw [of_app, of_other (fun f => k ⟨f.1.symm, f.2.symm⟩), List.append_nil]
  refine ⟨put_right h.right a e q pos', fun b e' i k hk => ?_, fun b => ?_, fun b => ?_, fun k hk => ?_, fun k hk => ?_⟩
  · by_cases f : b = a ∧ e' = e
    · rw [f.1, f.2, ho] at hk
      by_cases hi : i < (of l a e).length
      · rw [List.getElem?_append_left hi] at hk
        exact h.seqs a e i k hk
      · rw [List.getElem?_append_right (by omega)] at hk
        have hi2 : i - (of l a e).length = 0 := by
          have := (List.getElem?_eq_some_iff.1 hk).1
          simp at this
          omega
        rw [hi2] at hk
        injection hk with hk
        rw [← hk]
        show q = _
        rw [← h4] at hc
        omega
    · rw [hn b e' f] at hk
      exact h.seqs b e' i k hk
  · rw [gep b]
    by_cases f : b = a
    · subst f
      rw [g1, ← h4, ho, List.length_append, List.length_singleton]
      rw [← h4] at hc
      show _ = (Pq.get s b).nx + 1
      omega
    · rw [g2 b f, hn b _ (fun k => f k.1)]
      exact h.cur b
  · rw [gep b]
    by_cases f : b = a
    · subst f
      have hla := h.last b
      rw [← h4] at hla
      rw [g1, ← h4, ho, List.map_append]
      show keep ((Pq.get s b).last ++ [pos']) = _
      rw [hla, keep_keep]
      rfl
    · rw [g2 b f, hn b _ (fun k => f k.1)]
      exact h.last b
  · rw [gep]
    rcases List.mem_append.1 hk with hk | hk
    · exact h.old k hk
    · obtain rfl : k = ⟨a, e, q, pos'⟩ := by simpa using hk
      show e ≤ _
      rw [h4]
      exact Int.le_refl _
  · rcases List.mem_append.1 hk with hk | hk
    · have := h.top k hk
      omega
    · obtain rfl : k = ⟨a, e, q, pos'⟩ := by simpa using hk
      exact Int.le_refl _
/-- A fence. -/
theorem Inv.fence {s t : List P} {l : List K} {pos a ep z : Int} (h : Inv s l pos) (hf : fence s a = (some (t, ep), z)) : ep = (Pq.get s a).ep + 1 ∧ (∀ b, (Pq.get t b).ep = if b = a then ep else (Pq.get s b).ep) ∧ Inv t l pos := by
  obtain ⟨_, _, _, h4, h5, _⟩ := fence_ok hf
  have hr := fence_right h.right hf
  rw [← h5] at h4
  have g1 : Pq.get t a = ⟨a, ep, 0, []⟩ := by rw [h4]; exact get_set_same s ⟨a, ep, 0, []⟩
  have g2 : ∀ b, b ≠ a → Pq.get t b = Pq.get s b := fun b hb => by
    rw [h4]
    exact get_set_ne s _ hb
  have hz : of l a ep = [] := by
    apply List.eq_nil_iff_forall_not_mem.2
    intro k hk
    obtain ⟨q1, q2, q3⟩ := mem_of.1 hk
    have := h.old k q1
    rw [q2] at this
    omega
  refine ⟨h5, fun b => ?_, hr, h.seqs, fun b => ?_, fun b => ?_, fun k hk => ?_, h.top⟩
  · split
    · next f => rw [f, g1]
    · next f => rw [g2 b f]
  · by_cases f : b = a
    · rw [f, g1]
      show ((of l a ep).length : Int) = 0
      rw [hz]
      rfl
    · rw [g2 b f]
      exact h.cur b
  · by_cases f : b = a
    · rw [f, g1]
      show [] = keep ((of l a ep).map K.pos)
      rw [hz]
      rfl
    · rw [g2 b f]
      exact h.last b
  · by_cases f : k.id = a
    · rw [f, g1]
      have := h.old k hk
      rw [f] at this
      show k.ep ≤ ep
      omega
    · rw [g2 _ f]
      exact h.old k hk
/-- The record that is the next one was not stored before. -/
theorem Inv.next {s : List P} {l : List K} {pos a e q : Int} (h : Inv s l pos) (hl : (look s a e q).2 = 0) : ((of l a e).length : Int) = q ∧ e = (Pq.get s a).ep ∧ ∀ k, k ∈ of l a e → k.seq ≠ q := by
  obtain ⟨_, _, _, h4, h5, _, _⟩ := look_ok hl
  have hc := h.cur a
  rw [← h4, ← h5] at hc
  refine ⟨hc, h4, fun k hk => ?_⟩
  obtain ⟨i, hi⟩ := List.getElem?_of_mem hk
  have h1 := h.seqs a e i k hi
  have h2 := (List.getElem?_eq_some_iff.1 hi).1
  omega
/-- The other answers. -/
theorem look_cases {s : List P} {a e q at' z : Int} (hl : look s a e q = (at', z)) :
    (z = 18 → e < (get s a).ep) ∧ (z = 19 → e = (get s a).ep ∧ (get s a).nx < q) ∧
    (z = 5 → e = (get s a).ep ∧ 0 ≤ q ∧ q < (get s a).nx ∧ at' = if (get s a).last.length < ((get s a).nx - q).toNat then -1 else (get s a).last.getD ((get s a).last.length - ((get s a).nx - q).toNat) 0) := by
  unfold look at hl
  split at hl
  · injection hl with _ hl
    subst hl
    exact ⟨fun f => (by cases f), fun f => (by cases f), fun f => (by cases f)⟩
  · next k1 =>
    have k1 : inA a ∧ inA e ∧ inA q := Decidable.not_not.1 k1
    split at hl
    · next k2 =>
      injection hl with _ hl
      subst hl
      exact ⟨fun _ => k2, fun f => (by cases f), fun f => (by cases f)⟩
    · next k2 =>
      split at hl
      · injection hl with _ hl
        subst hl
        exact ⟨fun f => (by cases f), fun f => (by cases f), fun f => (by cases f)⟩
      · next k3 =>
        split at hl
        · next k4 =>
          injection hl with _ hl
          subst hl
          exact ⟨fun f => (by cases f), fun _ => ⟨by omega, k4⟩, fun f => (by cases f)⟩
        · next k4 =>
          split at hl
          · injection hl with _ hl
            subst hl
            exact ⟨fun f => (by cases f), fun f => (by cases f), fun f => (by cases f)⟩
          · split at hl
            · injection hl with _ hl
              subst hl
              exact ⟨fun f => (by cases f), fun f => (by cases f), fun f => (by cases f)⟩
            · next k6 =>
              split at hl
              · next k7 =>
                injection hl with hl1 hl
                subst hl
                exact ⟨fun f => (by cases f), fun f => (by cases f), fun _ => ⟨by omega, k1.2.2.1, by omega, by rw [if_pos k7]; exact hl1.symm⟩⟩
              · next k7 =>
                injection hl with hl1 hl
                subst hl
                exact ⟨fun f => (by cases f), fun f => (by cases f), fun _ => ⟨by omega, k1.2.2.1, by omega, by rw [if_neg k7]; exact hl1.symm⟩⟩
/-- A record that is sent again is told its position. -/
theorem Inv.twice {s : List P} {l : List K} {pos a e q at' : Int} (h : Inv s l pos) (hl : look s a e q = (at', 5)) :
    e = (Pq.get s a).ep ∧ (∃ k, k ∈ of l a e ∧ k.seq = q) ∧ (((of l a e).length : Int) - q ≤ 20 → ∀ k, k ∈ of l a e → k.seq = q → at' = k.pos) ∧ (20 < ((of l a e).length : Int) - q → at' = -1) := by
  obtain ⟨h1, h2, h3, h4⟩ := (look_cases hl).2.2 rfl
  have hc := h.cur a
  have hla := h.last a
  rw [← h1] at hc hla
  have hll : (Pq.get s a).last.length = min (of l a e).length 20 := by rw [hla, keep_len, List.length_map]
  have hq : q.toNat < (of l a e).length := by omega
  have hn : ((Pq.get s a).nx - q).toNat = (of l a e).length - q.toNat := by omega
  rw [hn, hll] at h4
  obtain ⟨k0, hk0⟩ : ∃ k, (of l a e)[q.toNat]? = some k := ⟨_, List.getElem?_eq_getElem hq⟩
  refine ⟨h1, ⟨k0, List.mem_of_getElem? hk0, by rw [h.seqs a e _ k0 hk0]; omega⟩, fun h20 k hk hs => ?_, fun h20 => ?_⟩
  · obtain ⟨i, hi⟩ := List.getElem?_of_mem hk
    have hi2 := h.seqs a e i k hi
    have hi3 : i = q.toNat := by omega
    rw [hi3] at hi
    rw [if_neg (by omega), hla] at h4
    rw [h4]
    unfold keep
    rw [List.getD_eq_getElem?_getD, List.getElem?_drop, List.length_map, show (of l a e).length - 20 + (min (of l a e).length 20 - ((of l a e).length - q.toNat)) = q.toNat by omega, List.getElem?_map, hi]
    rfl
  · rw [if_pos (by omega)] at h4
    exact h4
theorem Inv.gap {s : List P} {l : List K} {pos a e q at' : Int} (h : Inv s l pos) (hl : look s a e q = (at', 19)) : ((of l a e).length : Int) < q := by
  obtain ⟨h1, h2⟩ := (look_cases hl).2.1 rfl
  have hc := h.cur a
  rw [← h1] at hc
  omega
end Pq
end Go.Proofs.Ytmgpfkckafdbmaa
