/-
  Plain lemmas for TextLines: lists of strings without an LF, the lengths of lines and fields. No condition.
-/
import Derived.Test.YtanjmljlpdhlnaaGreatDoorTSame
import Derived.Laws.AppendOwnNone
namespace Go.Proofs.YtanjmljlpdhlnaaGreatDoor
open Go Go.RowKit Go.Sort Wire Txt

def noLf (x : List UInt8) : Bool := x.all fun c => c.toNat != 10
theorem noLf_iff (x : List UInt8) : noLf x = true ↔ (10 : UInt8) ∉ x := by
  unfold noLf
  rw [List.all_eq_true]
  constructor
  · intro h hm
    have := h 10 hm
    simp at this
  · intro h c hc
    simp only [bne_iff_ne, ne_eq]
    intro e
    exact h (by have e2 := byte_of c 10 e; subst e2; exact hc)
theorem noLf_next (x : List UInt8) (k : Nat) (c : UInt8) (h : x[k]? = some c) : noLf (x.take (k + 1)) = (noLf (x.take k) && (c.toNat != 10)) := by
  unfold noLf
  rw [List.take_add_one, h, List.all_append]
  simp
theorem all_next (f : List UInt8 → Bool) (l : List (List UInt8)) (k : Nat) (x : List UInt8) (h : l[k]? = some x) : (l.take (k + 1)).all f = ((l.take k).all f && f x) := by
  rw [List.take_add_one, h, List.all_append]
  simp
theorem unlines_small (q : List (List UInt8)) (h : ∀ x ∈ q, x.length ≤ 100) : (unlines q).length ≤ 101 * q.length := by
  induction q with
  | nil => simp [unlines]
  | cons x q ih =>
    have e : unlines (x :: q) = (x ++ [10]) ++ unlines q := rfl
    rw [e, List.length_append, List.length_append, List.length_singleton, List.length_cons]
    have h1 := h x (by simp)
    have h2 := ih (fun y hy => h y (by simp [hy]))
    omega
theorem fieldsGo_length (s : List UInt8) : ∀ cur : List UInt8, (fieldsGo cur s).length ≤ cur.length + s.length := by
  induction s with
  | nil =>
    intro cur
    rw [fieldsGo]
    by_cases h : cur = []
    · simp [h]
    · rw [if_neg h]
      have := List.length_pos_iff.2 h
      simp
      omega
  | cons c s ih =>
    intro cur
    rw [fieldsGo, List.length_cons]
    split
    · by_cases h : cur = []
      · rw [if_pos h]; have := ih []; simp at this; omega
      · rw [if_neg h, List.length_cons]
        have := ih []
        have h1 := List.length_pos_iff.2 h
        simp at this
        omega
    · have := ih (cur ++ [c])
      rw [List.length_append, List.length_singleton] at this
      omega
theorem fields_length (s : List UInt8) : (fields s).length ≤ s.length := by
  have := fieldsGo_length s []
  rw [List.length_nil, Nat.zero_add] at this
  exact this
theorem fieldsGo_sub (s : List UInt8) : ∀ (cur : List UInt8) (x : List UInt8), x ∈ fieldsGo cur s → x.length ≤ cur.length + s.length := by
  induction s with
  | nil =>
    intro cur x hx
    rw [fieldsGo] at hx
    by_cases h : cur = []
    · rw [if_pos h] at hx; cases hx
    · rw [if_neg h] at hx
      simp only [List.mem_singleton] at hx
      subst hx
      simp
  | cons c s ih =>
    intro cur x hx
    rw [fieldsGo] at hx
    rw [List.length_cons]
    split at hx
    · by_cases h : cur = []
      · rw [if_pos h] at hx; have := ih [] x hx; simp at this; omega
      · rw [if_neg h] at hx
        rcases List.mem_cons.1 hx with rfl | hx
        · omega
        · have := ih [] x hx; simp at this; omega
    · have := ih (cur ++ [c]) x hx
      rw [List.length_append, List.length_singleton] at this
      omega
theorem fields_sub (s x : List UInt8) (hx : x ∈ fields s) : x.length ≤ s.length := by have := fieldsGo_sub s [] x hx; simpa using this
theorem flat_take_next (f : List UInt8 → List (List UInt8)) (l : List (List UInt8)) (k : Nat) (x : List UInt8) (h : l[k]? = some x) : (l.take (k + 1)).flatMap f = (l.take k).flatMap f ++ f x := by
  rw [List.take_add_one, h]
  simp
theorem flat_take_le (f : List UInt8 → List (List UInt8)) (l : List (List UInt8)) (k : Nat) : ((l.take k).flatMap f).length ≤ (l.flatMap f).length := by
  have : l.flatMap f = (l.take k).flatMap f ++ (l.drop k).flatMap f := by rw [← List.flatMap_append, List.take_append_drop]
  rw [this]
  simp
theorem lines_sum (s : List UInt8) : (unlines (lines s)).length ≤ s.length + 1 := by
  rw [unlines_lines]
  unfold ended
  split <;> simp
theorem lines_count (s : List UInt8) : (lines s).length ≤ s.length + 1 := by
  have h := lines_sum s
  have key : ∀ l : List (List UInt8), l.length ≤ (unlines l).length := by
    intro l
    induction l with
    | nil => simp
    | cons x l ih =>
      have e : unlines (x :: l) = (x ++ [10]) ++ unlines l := rfl
      rw [e, List.length_append, List.length_append, List.length_singleton, List.length_cons]
      omega
  have := key (lines s)
  omega
theorem line_len (s : List UInt8) : ∀ x ∈ lines s, x.length ≤ s.length := by
  have key : ∀ (l : List (List UInt8)) (x : List UInt8), x ∈ l → x.length + 1 ≤ (unlines l).length := by
    intro l
    induction l with
    | nil => intro x hx; cases hx
    | cons y l ih =>
      intro x hx
      have e : unlines (y :: l) = (y ++ [10]) ++ unlines l := rfl
      rw [e, List.length_append, List.length_append, List.length_singleton]
      rcases List.mem_cons.1 hx with rfl | hx
      · omega
      · have := ih x hx; omega
  intro x hx
  have h1 := key (lines s) x hx
  have h2 := lines_sum s
  omega

theorem own_cases {B : Nat} {v : Value} {l : List (List UInt8)} {w : World} (h : OwnStrs B v l w) : (v = .slice none 0 0 ∧ l = []) ∨ ∃ g cap, v = .slice (some ⟨g, 0, none⟩) l.length cap ∧ ∀ (j : Nat) u, (strs l)[j]? = some u → w.cell? ((⟨g, 0, none⟩ : Addr).add j) = some u := by
  rcases h.2 with ⟨hv, h0⟩ | ⟨g, cap, cur, hv, _⟩
  · exact Or.inl ⟨hv, List.eq_nil_of_length_eq_zero h0⟩
  · exact Or.inr ⟨g, cap, hv, World.ownsRow.cells h (g := g) (by rw [hv]; rfl)⟩
theorem strs_one (l : List (List UInt8)) : ∀ u ∈ strs l, u.oneCell' = true := by
  intro u hu
  obtain ⟨x, _, rfl⟩ := List.mem_map.1 hu
  rfl
theorem strs_append (a b : List (List UInt8)) : strs (a ++ b) = strs a ++ strs b := by simp [strs]
end Go.Proofs.YtanjmljlpdhlnaaGreatDoor
