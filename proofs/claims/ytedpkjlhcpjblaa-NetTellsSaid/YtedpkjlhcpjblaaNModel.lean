/-
  A network of packets between sixteen ends, as a model: what Send, Deliver, Drop, Double and Split leave of it; what is delivered or in flight was sent or doubled.
-/
namespace Go.Proofs.Ytedpkjlhcpjblaa
namespace Nt

/-- A packet. -/
structure Pk where
  a : Int
  b : Int
  s : List UInt8
deriving DecidableEq
def zero : Pk := ⟨0, 0, []⟩
/-- A network: the packets in flight, and the split. -/
structure N where
  l : List Pk
  m : Int
def new : N := ⟨[], 0⟩
/-- The side of an end. -/
def side (m a : Int) : Int := m / 2 ^ a.toNat % 2
def isEnd (a : Int) : Bool := decide (0 ≤ a) && decide (a ≤ 15)
def hear (m a b : Int) : Bool := isEnd a && isEnd b && (side m a == side m b)
def send (n : N) (a b : Int) (s : List UInt8) : N × Int :=
  if isEnd a = false ∨ isEnd b = false ∨ a = b then (n, 1) else if hear n.m a b = false then (n, 10) else if 500 ≤ n.l.length then (n, 6) else (⟨n.l ++ [⟨a, b, s⟩], n.m⟩, 0)
/-- The packet with an index. -/
def at? (n : N) (i : Int) : Option Pk := if 0 ≤ i then n.l[i.toNat]? else none
def cut (l : List Pk) (i : Int) : List Pk := l.take i.toNat ++ l.drop (i.toNat + 1)
def deliver (n : N) (i : Int) : N × Pk × Int :=
  match at? n i with
  | none => (n, zero, 4)
  | some p => (⟨cut n.l i, n.m⟩, if hear n.m p.a p.b then (p, 0) else (zero, 10))
def drop (n : N) (i : Int) : N × Int :=
  match at? n i with
  | none => (n, 4)
  | some _ => (⟨cut n.l i, n.m⟩, 0)
def double (n : N) (i : Int) : N × Int :=
  match at? n i with
  | none => (n, 4)
  | some p => if 500 ≤ n.l.length then (n, 6) else (⟨n.l ++ [p], n.m⟩, 0)
def split (n : N) (mask : Int) : N := ⟨n.l, mask % 65536⟩

/-! ### Indices -/
theorem at?_lt {n : N} {i : Int} {p : Pk} (h : at? n i = some p) : 0 ≤ i ∧ i < n.l.length ∧ n.l[i.toNat]? = some p := by
  unfold at? at h
  split at h
  · next h0 =>
    have := (List.getElem?_eq_some_iff.1 h).1
    exact ⟨h0, by omega, h⟩
  · cases h
theorem at?_none {n : N} {i : Int} : at? n i = none ↔ i < 0 ∨ (n.l.length : Int) ≤ i := by
  unfold at?
  split
  · next h0 => rw [List.getElem?_eq_none_iff]; omega
  · next h0 => simp; omega
theorem cut_length {l : List Pk} {i : Int} (h0 : 0 ≤ i) (h : i < l.length) : (cut l i).length = l.length - 1 := by
  unfold cut
  rw [List.length_append, List.length_take, List.length_drop]
  omega
theorem cut_split {l : List Pk} {i : Nat} {p : Pk} (h : l[i]? = some p) : l = l.take i ++ p :: l.drop (i + 1) := by
  obtain ⟨hi, rfl⟩ := List.getElem?_eq_some_iff.1 h
  rw [← List.drop_eq_getElem_cons hi, List.take_append_drop]
theorem cut_count {l : List Pk} {i : Int} {p : Pk} (h : l[i.toNat]? = some p) (q : Pk) : l.count q = (cut l i).count q + (if p = q then 1 else 0) := by
  have e := cut_split h
  conv => lhs; rw [e]
  unfold cut
  rw [List.count_append, List.count_append, List.count_cons]
  by_cases hp : p = q
  · subst hp; simp; omega
  · simp [hp]

/-! ### What is delivered was sent, or doubled -/
/-- made: what was sent or doubled; got: what was delivered. -/
def Honest (n : N) (made got : List Pk) : Prop := ∀ q, got.count q + n.l.count q ≤ made.count q
theorem honest_new : Honest new [] [] := fun _ => Nat.le_refl _
theorem Honest.send {n n' : N} {made got : List Pk} {a b : Int} {s : List UInt8} (h : Honest n made got) (e : send n a b s = (n', 0)) : Honest n' (made ++ [⟨a, b, s⟩]) got ∧ n'.m = n.m ∧ hear n.m a b = true ∧ a ≠ b := by
  unfold Nt.send at e
  split at e
  · injection e with _ e; cases e
  · next hv =>
    split at e
    · injection e with _ e; cases e
    · next hh =>
      split at e
      · injection e with _ e; cases e
      · injection e with e _
        subst e
        refine ⟨fun q => ?_, rfl, by simpa using hh, fun hab => hv (Or.inr (Or.inr hab))⟩
        have := h q
        simp only [List.count_append]
        omega
theorem send_same {n n' : N} {a b z : Int} {s : List UInt8} (e : send n a b s = (n', z)) (hz : z ≠ 0) : n' = n := by
  unfold Nt.send at e
  split at e
  · injection e with e _; exact e.symm
  · split at e
    · injection e with e _; exact e.symm
    · split at e
      · injection e with e _; exact e.symm
      · injection e with _ e; exact absurd e.symm hz
theorem Honest.fewer {n : N} {made got : List Pk} {i : Int} {p : Pk} (h : Honest n made got) (e : at? n i = some p) : Honest ⟨cut n.l i, n.m⟩ made got := fun q => by
  have := h q
  have := cut_count (at?_lt e).2.2 q
  show got.count q + (cut n.l i).count q ≤ _
  omega
theorem Honest.deliver {n n' : N} {made got : List Pk} {i : Int} {p : Pk} (h : Honest n made got) (e : deliver n i = (n', p, 0)) : Honest n' made (got ++ [p]) ∧ hear n'.m p.a p.b = true := by
  unfold Nt.deliver at e
  cases ha : at? n i with
  | none => rw [ha] at e; injection e with _ e; injection e with _ e; cases e
  | some q =>
    rw [ha] at e
    dsimp only at e
    injection e with e1 e2
    split at e2
    · next hh =>
      injection e2 with e2 _
      subst e1 e2
      refine ⟨fun r => ?_, hh⟩
      have h1 := h r
      have h2 := cut_count (at?_lt ha).2.2 r
      show (got ++ [q]).count r + (cut n.l i).count r ≤ _
      rw [List.count_append, List.count_singleton]
      by_cases hq : q = r
      · subst hq; simp at h2 ⊢; omega
      · simp [hq] at h2 ⊢; omega
    · injection e2 with _ e2; cases e2
/-- What is not delivered is no packet, and nobody gets more. -/
theorem Honest.lost {n n' : N} {made got : List Pk} {i z : Int} {p : Pk} (h : Honest n made got) (e : Nt.deliver n i = (n', p, z)) (hz : z ≠ 0) : Honest n' made got ∧ p = zero ∧ n'.m = n.m := by
  unfold Nt.deliver at e
  cases ha : at? n i with
  | none =>
    rw [ha] at e
    injection e with e1 e2
    injection e2 with e2 _
    subst e1
    exact ⟨h, e2.symm, rfl⟩
  | some q =>
    rw [ha] at e
    dsimp only at e
    injection e with e1 e2
    subst e1
    split at e2
    · injection e2 with _ e2; exact absurd e2.symm hz
    · injection e2 with e2 _; exact ⟨h.fewer ha, e2.symm, rfl⟩
theorem Honest.drop {n n' : N} {made got : List Pk} {i z : Int} (h : Honest n made got) (e : drop n i = (n', z)) : Honest n' made got ∧ n'.m = n.m := by
  unfold Nt.drop at e
  cases ha : at? n i with
  | none => rw [ha] at e; injection e with e _; subst e; exact ⟨h, rfl⟩
  | some q => rw [ha] at e; injection e with e _; subst e; exact ⟨h.fewer ha, rfl⟩
theorem Honest.double {n n' : N} {made got : List Pk} {i : Int} (h : Honest n made got) (e : double n i = (n', 0)) : ∃ p, at? n i = some p ∧ Honest n' (made ++ [p]) got ∧ n'.m = n.m := by
  unfold Nt.double at e
  cases ha : at? n i with
  | none => rw [ha] at e; injection e with _ e; cases e
  | some q =>
    rw [ha] at e
    dsimp only at e
    split at e
    · injection e with _ e; cases e
    · injection e with e _
      subst e
      refine ⟨q, rfl, fun r => ?_, rfl⟩
      have := h r
      simp only [List.count_append]
      omega
theorem double_same {n n' : N} {i z : Int} (e : double n i = (n', z)) (hz : z ≠ 0) : n' = n := by
  unfold Nt.double at e
  cases ha : at? n i with
  | none => rw [ha] at e; injection e with e _; exact e.symm
  | some q =>
    rw [ha] at e
    dsimp only at e
    split at e
    · injection e with e _; exact e.symm
    · injection e with _ e; exact absurd e.symm hz
theorem Honest.split {n : N} {made got : List Pk} (h : Honest n made got) (mask : Int) : Honest (split n mask) made got := h
/-- At the end. -/
theorem Honest.all {n : N} {made got : List Pk} (h : Honest n made got) (q : Pk) : (got ++ n.l).count q ≤ made.count q := by
  rw [List.count_append]; exact h q
theorem double_bounds {n n' : N} {i : Int} (e : double n i = (n', 0)) : 0 ≤ i ∧ i < n.l.length := by
  obtain ⟨p, hp, _⟩ := Honest.double (made := n.l) (got := []) (fun _ => by simp) e
  exact ⟨(at?_lt hp).1, (at?_lt hp).2.1⟩

/-! ### Sizes -/
theorem send_len {n n' : N} {a b z : Int} {s : List UInt8} (e : send n a b s = (n', z)) (h : n.l.length ≤ 500) : n'.l.length ≤ 500 := by
  unfold Nt.send at e
  split at e
  · injection e with e _; subst e; exact h
  · split at e
    · injection e with e _; subst e; exact h
    · split at e
      · injection e with e _; subst e; exact h
      · injection e with e _
        subst e
        simp only [List.length_append, List.length_singleton]
        omega

/-! ### Nothing is lost where nothing is split -/
theorem isEnd_iff {a : Int} : isEnd a = true ↔ 0 ≤ a ∧ a ≤ 15 := by
  unfold isEnd
  rw [Bool.and_eq_true, decide_eq_true_eq, decide_eq_true_eq]
theorem hear_zero {a b : Int} (ha : isEnd a = true) (hb : isEnd b = true) : hear 0 a b = true := by
  unfold hear side
  rw [ha, hb]
  simp
theorem send_ok {n : N} {a b : Int} {s : List UInt8} (ha : isEnd a = true) (hb : isEnd b = true) (hab : a ≠ b) (hh : hear n.m a b = true) (hl : n.l.length < 500) : send n a b s = (⟨n.l ++ [⟨a, b, s⟩], n.m⟩, 0) := by
  unfold Nt.send
  rw [if_neg (by rw [ha, hb]; simp [hab]), if_neg (by rw [hh]; simp), if_neg (by omega)]
theorem send_lost {n : N} {a b : Int} {s : List UInt8} (ha : isEnd a = true) (hb : isEnd b = true) (hab : a ≠ b) (hh : hear n.m a b = false) : send n a b s = (n, 10) := by
  unfold Nt.send
  rw [if_neg (by rw [ha, hb]; simp [hab]), if_pos hh]
theorem send_full {n : N} {a b : Int} {s : List UInt8} (ha : isEnd a = true) (hb : isEnd b = true) (hab : a ≠ b) (hh : hear n.m a b = true) (hl : 500 ≤ n.l.length) : send n a b s = (n, 6) := by
  unfold Nt.send
  rw [if_neg (by rw [ha, hb]; simp [hab]), if_neg (by rw [hh]; simp), if_pos hl]
theorem send_arg {n : N} {a b : Int} {s : List UInt8} (h : isEnd a = false ∨ isEnd b = false ∨ a = b) : send n a b s = (n, 1) := by
  unfold Nt.send
  rw [if_pos h]
theorem deliver_first (p : Pk) (m : Int) : deliver ⟨[p], m⟩ 0 = (⟨[], m⟩, if hear m p.a p.b then (p, 0) else (zero, 10)) := rfl
theorem deliver_none (m i : Int) : deliver ⟨[], m⟩ i = (⟨[], m⟩, zero, 4) := by
  unfold Nt.deliver
  rw [(at?_none (n := ⟨[], m⟩)).2 (by simp; omega)]
theorem deliver_at {n : N} {i : Int} {p : Pk} (h : at? n i = some p) (hh : hear n.m p.a p.b = true) : deliver n i = (⟨cut n.l i, n.m⟩, p, 0) := by
  unfold Nt.deliver
  rw [h]
  dsimp only
  rw [if_pos hh]
theorem deliver_no {n : N} {i : Int} (h : i < 0 ∨ (n.l.length : Int) ≤ i) : deliver n i = (n, zero, 4) := by
  unfold Nt.deliver
  rw [at?_none.2 h]
/-- The lowest 16 bits hold the sides of all ends. -/
theorem side_low (m : Int) (a : Int) (h0 : 0 ≤ a) (h : a ≤ 15) : side (m % 65536) a = side m a := by
  unfold side
  obtain ⟨k, rfl⟩ := Int.eq_ofNat_of_zero_le h0
  rw [Int.toNat_natCast]
  have hk : k ≤ 15 := by omega
  have hk' : k = 0 ∨ k = 1 ∨ k = 2 ∨ k = 3 ∨ k = 4 ∨ k = 5 ∨ k = 6 ∨ k = 7 ∨ k = 8 ∨ k = 9 ∨ k = 10 ∨ k = 11 ∨ k = 12 ∨ k = 13 ∨ k = 14 ∨ k = 15 := by omega
  rcases hk' with rfl | rfl | rfl | rfl | rfl | rfl | rfl | rfl | rfl | rfl | rfl | rfl | rfl | rfl | rfl | rfl <;> simp only [Int.reducePow] <;> omega
theorem hear_split {n : N} (mask a b : Int) (ha : isEnd a = true) (hb : isEnd b = true) : hear (split n mask).m a b = (side mask a == side mask b) := by
  have ha' := isEnd_iff.1 ha
  have hb' := isEnd_iff.1 hb
  unfold hear split
  rw [ha, hb, Bool.true_and, Bool.true_and, side_low mask a ha'.1 ha'.2, side_low mask b hb'.1 hb'.2]
theorem hear_self (m a : Int) (ha : isEnd a = true) : hear m a a = true := by
  unfold hear
  rw [ha]
  simp
end Nt
end Go.Proofs.Ytedpkjlhcpjblaa
