/-
  Runs of a network's operations, as the laws make them: what was made, what was got; bodies sent in order; all pairs of ends.
-/
import Derived.Test.YtedpkjlhcpjblaaNModel
namespace Go.Proofs.Ytedpkjlhcpjblaa
namespace Nt

/-- An operation of the laws. -/
structure Op7 where
  k : Int
  n : Int
  to : Int
  s : List UInt8
def step (n : N) (x : Op7) : N × Pk × Int :=
  if x.k % 8 = 3 then deliver n x.n else
  if x.k % 8 = 4 then ((drop n x.n).1, zero, (drop n x.n).2) else
  if x.k % 8 = 5 then ((double n x.n).1, zero, (double n x.n).2) else
  if x.k % 8 = 6 then (split n x.n, zero, 0) else
  if x.k % 8 = 7 then (split n 0, zero, 0) else
  ((send n x.n x.to x.s).1, zero, (send n x.n x.to x.s).2)
/-- What an operation makes, and what it gets. -/
def madeBy (n : N) (x : Op7) : List Pk :=
  if (step n x).2.2 = 0 then
    if x.k % 8 < 3 then [⟨x.n, x.to, x.s⟩] else if x.k % 8 = 5 then (at? n x.n).toList else []
  else []
def gotBy (n : N) (x : Op7) : List Pk := if (step n x).2.2 = 0 ∧ x.k % 8 = 3 then [(step n x).2.1] else []
theorem mod8 (k : Int) : k % 8 < 3 ∨ k % 8 = 3 ∨ k % 8 = 4 ∨ k % 8 = 5 ∨ k % 8 = 6 ∨ k % 8 = 7 := by omega
theorem Honest.step {n : N} {made got : List Pk} (h : Honest n made got) (x : Op7) : Honest (step n x).1 (made ++ madeBy n x) (got ++ gotBy n x) := by
  unfold madeBy gotBy
  rcases mod8 x.k with e | e | e | e | e | e
  · have hs : Nt.step n x = ((Nt.send n x.n x.to x.s).1, zero, (Nt.send n x.n x.to x.s).2) := by
      unfold Nt.step
      rw [if_neg (by omega), if_neg (by omega), if_neg (by omega), if_neg (by omega), if_neg (by omega)]
    rw [hs]
    dsimp only
    rw [if_pos e, if_neg (fun (k : _ ∧ _) => absurd k.2 (by omega)), List.append_nil]
    obtain ⟨r, hr⟩ : ∃ r, Nt.send n x.n x.to x.s = r := ⟨_, rfl⟩
    obtain ⟨n', z⟩ := r
    rw [hr]
    dsimp only
    by_cases hz : z = 0
    · subst hz
      rw [if_pos rfl]
      exact (Honest.send h hr).1
    · rw [if_neg hz, List.append_nil, send_same hr hz]
      exact h
  · have hs : Nt.step n x = Nt.deliver n x.n := by unfold Nt.step; rw [if_pos e]
    rw [hs, if_neg (by omega : ¬ x.k % 8 < 3), if_neg (by omega : ¬ x.k % 8 = 5), ite_self, List.append_nil]
    obtain ⟨r, hr⟩ : ∃ r, Nt.deliver n x.n = r := ⟨_, rfl⟩
    obtain ⟨n', p, z⟩ := r
    rw [hr]
    dsimp only
    by_cases hz : z = 0
    · subst hz
      rw [if_pos ⟨rfl, e⟩]
      exact (Honest.deliver h hr).1
    · rw [if_neg (fun k => hz k.1), List.append_nil]
      exact (Honest.lost h hr hz).1
  · have hs : Nt.step n x = ((Nt.drop n x.n).1, zero, (Nt.drop n x.n).2) := by
      unfold Nt.step
      rw [if_neg (by omega), if_pos e]
    rw [hs, if_neg (by omega : ¬ x.k % 8 < 3), if_neg (by omega : ¬ x.k % 8 = 5), ite_self, List.append_nil, if_neg (fun (k : _ ∧ _) => absurd k.2 (by omega)), List.append_nil]
    exact (Honest.drop h (n' := (Nt.drop n x.n).1) (z := (Nt.drop n x.n).2) rfl).1
  · have hs : Nt.step n x = ((Nt.double n x.n).1, zero, (Nt.double n x.n).2) := by
      unfold Nt.step
      rw [if_neg (by omega), if_neg (by omega), if_pos e]
    rw [hs]
    dsimp only
    rw [if_neg (by omega : ¬ x.k % 8 < 3), if_pos e, if_neg (fun (k : _ ∧ _) => absurd k.2 (by omega)), List.append_nil]
    obtain ⟨r, hr⟩ : ∃ r, Nt.double n x.n = r := ⟨_, rfl⟩
    obtain ⟨n', z⟩ := r
    rw [hr]
    dsimp only
    by_cases hz : z = 0
    · subst hz
      obtain ⟨p, hp, h', _⟩ := Honest.double h hr
      rw [if_pos rfl, hp]
      exact h'
    · rw [if_neg hz, List.append_nil, double_same hr hz]
      exact h
  · have hs : Nt.step n x = (Nt.split n x.n, zero, 0) := by
      unfold Nt.step
      rw [if_neg (by omega), if_neg (by omega), if_neg (by omega), if_pos e]
    rw [hs, if_neg (by omega : ¬ x.k % 8 < 3), if_neg (by omega : ¬ x.k % 8 = 5), ite_self, List.append_nil, if_neg (fun (k : _ ∧ _) => absurd k.2 (by omega)), List.append_nil]
    exact h
  · have hs : Nt.step n x = (Nt.split n 0, zero, 0) := by
      unfold Nt.step
      rw [if_neg (by omega), if_neg (by omega), if_neg (by omega), if_neg (by omega), if_pos e]
    rw [hs, if_neg (by omega : ¬ x.k % 8 < 3), if_neg (by omega : ¬ x.k % 8 = 5), ite_self, List.append_nil, if_neg (fun (k : _ ∧ _) => absurd k.2 (by omega)), List.append_nil]
    exact h

/-! ### Bodies that are sent in order -/
/-- The ends that the law makes of two numbers. -/
theorem ends_ok (x y : Int) : isEnd (x % 16) = true ∧ isEnd ((x % 16 + 1 + y % 8) % 16) = true ∧ x % 16 ≠ (x % 16 + 1 + y % 8) % 16 := by
  refine ⟨isEnd_iff.2 (by omega), isEnd_iff.2 (by omega), by omega⟩
theorem all_hear {n : N} (h0 : n.m = 0) (he : ∀ p ∈ n.l, isEnd p.a = true ∧ isEnd p.b = true) {i : Int} {p : Pk} (h : at? n i = some p) : hear n.m p.a p.b = true := by
  have := he p (List.mem_of_getElem? (at?_lt h).2.2)
  rw [h0]
  exact hear_zero this.1 this.2
theorem cut_mem {l : List Pk} {i : Int} {p : Pk} (h : p ∈ cut l i) : p ∈ l := by
  unfold cut at h
  rcases List.mem_append.1 h with h | h
  · exact List.mem_of_mem_take h
  · exact List.mem_of_mem_drop h

/-! ### All pairs of ends -/
/-- The split is made ahead of the sending. -/
theorem pair_early (mask a b : Int) (ha : isEnd a = true) (hb : isEnd b = true) (hab : a ≠ b) (s : List UInt8) :
    if side mask a = side mask b then send ⟨[], mask % 65536⟩ a b s = (⟨[⟨a, b, s⟩], mask % 65536⟩, 0) ∧ deliver ⟨[⟨a, b, s⟩], mask % 65536⟩ 0 = (⟨[], mask % 65536⟩, ⟨a, b, s⟩, 0)
    else send ⟨[], mask % 65536⟩ a b s = (⟨[], mask % 65536⟩, 10) ∧ deliver ⟨[], mask % 65536⟩ 0 = (⟨[], mask % 65536⟩, zero, 4) := by
  have hh := hear_split (n := ⟨[], 0⟩) mask a b ha hb
  unfold split at hh
  dsimp only at hh
  split
  · next h =>
    have h1 : hear (mask % 65536) a b = true := by rw [hh, h]; simp
    exact ⟨send_ok ha hb hab h1 (Nat.succ_pos 499), by rw [deliver_first]; dsimp only; rw [if_pos h1]⟩
  · next h =>
    have h1 : hear (mask % 65536) a b = false := by rw [hh]; simpa using h
    exact ⟨send_lost ha hb hab h1, deliver_none _ _⟩
/-- The split is made behind it. -/
theorem pair_late (mask a b : Int) (ha : isEnd a = true) (hb : isEnd b = true) (hab : a ≠ b) (s : List UInt8) :
    send ⟨[], 0⟩ a b s = (⟨[⟨a, b, s⟩], 0⟩, 0) ∧ deliver ⟨[⟨a, b, s⟩], mask % 65536⟩ 0 = (⟨[], mask % 65536⟩, if side mask a = side mask b then (⟨a, b, s⟩, 0) else (zero, 10)) := by
  refine ⟨send_ok ha hb hab (hear_zero ha hb) (by decide), ?_⟩
  have hh := hear_split (n := ⟨[], 0⟩) mask a b ha hb
  unfold split at hh
  dsimp only at hh
  rw [deliver_first]
  dsimp only
  rw [hh]
  by_cases h : side mask a = side mask b
  · rw [if_pos h, if_pos (by simpa using h)]
  · rw [if_neg h, if_neg (by simpa using h)]
/-- i and i + 1, as ends. -/
theorem next_ok (i : Int) : isEnd (i % 16) = true ∧ isEnd ((i + 1) % 16) = true ∧ i % 16 ≠ (i + 1) % 16 := ⟨isEnd_iff.2 (by omega), isEnd_iff.2 (by omega), by omega⟩
end Nt
end Go.Proofs.Ytedpkjlhcpjblaa
