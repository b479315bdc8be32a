/-
  The patterns of chapter 2 as functions on lists of bytes: their parts, what they match, and what follows of the definitions. Nothing of the program stands here. No condition.
-/
import Derived.Test.YthibikdnoogfoaaGreatDoorTPlain
namespace Go.Proofs.YthibikdnoogfoaaGreatDoor.Txt
open Go Wire

/-! ### The parts of a pattern -/
def endAfter (p : List UInt8) (n : Nat) : Nat :=
  if p.length < n then 0 else if Lib.indexByte (p.drop n) 93 < 0 then 0 else n + (Lib.indexByte (p.drop n) 93).toNat + 1
def classSize (p : List UInt8) : Nat :=
  if Lib.hasPrefix p [91, 33] = true ∧ 0 < endAfter p 3 then endAfter p 3 else max (endAfter p 2) 1
def psize (p : List UInt8) : Nat := match p with
  | [] => 1
  | c :: r => if c.toNat = 92 ∧ 0 < r.length then 2 else if c.toNat = 91 then classSize (c :: r) else 1
def partsF : Nat → List UInt8 → List (List UInt8)
  | 0, _ => []
  | k + 1, p => if p = [] then [] else p.take (psize p) :: partsF k (p.drop (psize p))
def parts (p : List UInt8) : List (List UInt8) := partsF p.length p

theorem indexByte_lt (l : List UInt8) (c : UInt8) : Lib.indexByte l c < l.length ∨ l = [] := by
  induction l with
  | nil => exact Or.inr rfl
  | cons b l ih =>
    left
    unfold Lib.indexByte
    simp only [List.length_cons]
    split
    · omega
    · split
      · omega
      · rcases ih with h | h
        · omega
        · subst h; simp_all [Lib.indexByte]
theorem indexByte_bd (l : List UInt8) (c : UInt8) : Lib.indexByte l c < 0 ∨ Lib.indexByte l c < l.length := by
  rcases indexByte_lt l c with h | h
  · exact Or.inr h
  · subst h; left; unfold Lib.indexByte; omega
theorem endAfter_le (p : List UInt8) (n : Nat) : endAfter p n ≤ p.length ∧ (endAfter p n = 0 ∨ n + 1 ≤ endAfter p n) := by
  unfold endAfter
  split
  · simp
  · split
    · simp
    · rcases indexByte_bd (p.drop n) 93 with h | h
      · omega
      · rw [List.length_drop] at h; omega
theorem classSize_le (p : List UInt8) (h : p ≠ []) : 1 ≤ classSize p ∧ classSize p ≤ p.length := by
  have hl : 0 < p.length := List.length_pos_iff.2 h
  have h3 := endAfter_le p 3
  have h2 := endAfter_le p 2
  unfold classSize
  split <;> omega
theorem psize_le (p : List UInt8) (h : p ≠ []) : 1 ≤ psize p ∧ psize p ≤ p.length := by
  cases p with
  | nil => exact absurd rfl h
  | cons c r =>
    unfold psize
    simp only
    split
    · simp; omega
    · split
      · exact classSize_le _ h
      · simp
theorem partsF_enough : ∀ (n k : Nat) (p : List UInt8), p.length ≤ n → p.length ≤ k → partsF n p = partsF k p := by
  intro n
  induction n with
  | zero =>
    intro k p hn hk
    have : p = [] := List.eq_nil_of_length_eq_zero (by omega)
    subst this
    cases k <;> simp [partsF]
  | succ n ih =>
    intro k p hn hk
    by_cases hp : p = []
    · subst hp; cases k <;> simp [partsF]
    · have hs := psize_le p hp
      cases k with
      | zero => exact absurd (List.eq_nil_of_length_eq_zero (by omega)) hp
      | succ k =>
        simp only [partsF, if_neg hp]
        rw [ih k (p.drop (psize p)) (by rw [List.length_drop]; omega) (by rw [List.length_drop]; omega)]
theorem parts_nil : parts [] = [] := rfl
theorem parts_cons (p : List UInt8) (h : p ≠ []) : parts p = p.take (psize p) :: parts (p.drop (psize p)) := by
  have hs := psize_le p h
  have hl : 0 < p.length := List.length_pos_iff.2 h
  unfold parts
  obtain ⟨k, hk⟩ : ∃ k, p.length = k + 1 := ⟨p.length - 1, by omega⟩
  rw [hk, partsF, if_neg h]
  rw [partsF_enough k (p.drop (psize p)).length (p.drop (psize p)) (by rw [List.length_drop]; omega) (Nat.le_refl _)]
/-- By the parts of a pattern. -/
theorem parts_ind {P : List UInt8 → Prop} (h0 : P []) (h1 : ∀ p, p ≠ [] → P (p.drop (psize p)) → P p) : ∀ (n : Nat) (p : List UInt8), p.length ≤ n → P p := by
  intro n
  induction n with
  | zero =>
    intro p h
    have : p = [] := List.eq_nil_of_length_eq_zero (by omega)
    subst this; exact h0
  | succ n ih =>
    intro p h
    by_cases hp : p = []
    · subst hp; exact h0
    · have hs := psize_le p hp
      exact h1 p hp (ih _ (by rw [List.length_drop]; omega))
theorem parts_flat (p : List UInt8) : (parts p).flatMap id = p := by
  refine parts_ind (P := fun p => (parts p).flatMap id = p) rfl ?_ p.length p (Nat.le_refl _)
  intro p hp ih
  rw [parts_cons p hp, List.flatMap_cons, ih]
  simp
theorem parts_ne (p : List UInt8) : ∀ x ∈ parts p, x ≠ [] := by
  refine parts_ind (P := fun p => ∀ x ∈ parts p, x ≠ []) (by intro x hx; cases hx) ?_ p.length p (Nat.le_refl _)
  intro p hp ih x hx
  rw [parts_cons p hp] at hx
  rcases List.mem_cons.1 hx with rfl | hx
  · have hs := psize_le p hp
    intro h
    have := congrArg List.length h
    rw [List.length_take, List.length_nil] at this
    omega
  · exact ih x hx
theorem parts_len (p : List UInt8) : (parts p).length ≤ p.length := by
  refine parts_ind (P := fun p => (parts p).length ≤ p.length) (by simp [parts_nil]) ?_ p.length p (Nat.le_refl _)
  intro p hp ih
  have hs := psize_le p hp
  rw [parts_cons p hp, List.length_cons]
  rw [List.length_drop] at ih
  omega
theorem parts_sub (p : List UInt8) : ∀ x ∈ parts p, x.length ≤ p.length := by
  refine parts_ind (P := fun p => ∀ x ∈ parts p, x.length ≤ p.length) (by intro x hx; cases hx) ?_ p.length p (Nat.le_refl _)
  intro p hp ih x hx
  rw [parts_cons p hp] at hx
  rcases List.mem_cons.1 hx with rfl | hx
  · rw [List.length_take]; omega
  · have := ih x hx
    rw [List.length_drop] at this
    omega

/-! ### What a part matches -/
def within (c : UInt8) : List UInt8 → Bool
  | [] => false
  | a :: r => match r with
    | d :: b :: r2 => if d.toNat = 45 then (decide (a.toNat ≤ c.toNat) && decide (c.toNat ≤ b.toNat)) || within c r2 else decide (a = c) || within c (d :: b :: r2)
    | [d] => decide (a = c) || within c [d]
    | [] => decide (a = c)
def fits (x : List UInt8) (c : UInt8) : Bool :=
  if x = [63] then true else if x.length ≤ 2 then decide (x.getLast? = some c)
  else if x[1]? = some 33 ∧ 3 < x.length then !within c ((x.drop 2).take (x.length - 3)) else within c ((x.drop 1).take (x.length - 2))
def someTail (f : List UInt8 → Bool) : List UInt8 → Bool
  | [] => f []
  | c :: t => f (c :: t) || someTail f t
def mt : List (List UInt8) → List UInt8 → Bool
  | [], s => s.isEmpty
  | x :: r, s => if x = [42] then someTail (mt r) s else match s with
      | [] => false
      | c :: t => fits x c && mt r t
def pat (p s : List UInt8) : Bool := mt (parts p) s

theorem mt_nil (s : List UInt8) : mt [] s = s.isEmpty := by rw [mt]
theorem mt_star (r : List (List UInt8)) (s : List UInt8) : mt ([42] :: r) s = someTail (mt r) s := by rw [mt.eq_def]; simp
theorem mt_end (x : List UInt8) (r : List (List UInt8)) (h : x ≠ [42]) : mt (x :: r) [] = false := by rw [mt.eq_def]; simp [h]
theorem mt_byte (x : List UInt8) (r : List (List UInt8)) (c : UInt8) (t : List UInt8) (h : x ≠ [42]) : mt (x :: r) (c :: t) = (fits x c && mt r t) := by rw [mt.eq_def]; simp [h]
theorem someTail_iff (f : List UInt8 → Bool) (s : List UInt8) : someTail f s = true ↔ ∃ k, k ≤ s.length ∧ f (s.drop k) = true := by
  induction s with
  | nil =>
    simp only [someTail, List.length_nil, List.drop_nil]
    exact ⟨fun h => ⟨0, Nat.le_refl _, h⟩, fun ⟨_, _, h⟩ => h⟩
  | cons c t ih =>
    simp only [someTail, Bool.or_eq_true, ih]
    constructor
    · rintro (h | ⟨k, hk, h⟩)
      · exact ⟨0, by omega, h⟩
      · exact ⟨k + 1, by simp; omega, by simpa using h⟩
    · rintro ⟨k, hk, h⟩
      cases k with
      | zero => exact Or.inl h
      | succ k => exact Or.inr ⟨k, by simp at hk; omega, by simpa using h⟩
theorem someTail_head (f : List UInt8 → Bool) (s : List UInt8) (h : f s = true) : someTail f s = true := (someTail_iff f s).2 ⟨0, by omega, h⟩
theorem someTail_drop (f : List UInt8 → Bool) (s : List UInt8) (k : Nat) (h : someTail f (s.drop k) = true) : someTail f s = true := by
  obtain ⟨j, hj, h⟩ := (someTail_iff f _).1 h
  rw [List.drop_drop] at h
  rw [List.length_drop] at hj
  by_cases hk : k ≤ s.length
  · exact (someTail_iff f s).2 ⟨k + j, by omega, h⟩
  · refine (someTail_iff f s).2 ⟨s.length, Nat.le_refl _, ?_⟩
    rw [List.drop_eq_nil_of_le (by omega)] at h
    rw [List.drop_length]; exact h

/-! ### The way of the program: parts without a star, matched one byte each -/
/-- The parts of a match the first bytes of s, one each, and none is a star. -/
def Fit (a : List (List UInt8)) (s : List UInt8) : Prop := a.length ≤ s.length ∧ ∀ (i : Nat) (x : List UInt8) (c : UInt8), a[i]? = some x → s[i]? = some c → x ≠ [42] ∧ fits x c = true
theorem Fit.nil (s : List UInt8) : Fit [] s := ⟨by simp, fun i x c h => by simp at h⟩
theorem Fit.cons {x : List UInt8} {a : List (List UInt8)} {s : List UInt8} (h : Fit (x :: a) s) : ∃ c t, s = c :: t ∧ x ≠ [42] ∧ fits x c = true ∧ Fit a t := by
  cases s with
  | nil => have := h.1; simp at this
  | cons c t =>
    obtain ⟨h1, h2⟩ := h.2 0 x c rfl rfl
    refine ⟨c, t, rfl, h1, h2, by have := h.1; simpa using this, fun i y d hy hd => h.2 (i + 1) y d (by simpa using hy) (by simpa using hd)⟩
theorem Fit.star {x : List UInt8} {a : List (List UInt8)} {s : List UInt8} (h : Fit a s) (hx : x ∈ a) : x ≠ [42] := by
  obtain ⟨i, hi⟩ := List.mem_iff_getElem?.1 hx
  have hl : i < s.length := by
    have := (List.getElem?_eq_some_iff.1 hi).1
    have := h.1
    omega
  exact (h.2 i x s[i] hi (List.getElem?_eq_getElem hl)).1
theorem Fit.snoc {a : List (List UInt8)} {x : List UInt8} {s : List UInt8} {c : UInt8} (h : Fit a s) (hc : s[a.length]? = some c) (hx : x ≠ [42]) (hf : fits x c = true) : Fit (a ++ [x]) s := by
  have hl := (List.getElem?_eq_some_iff.1 hc).1
  refine ⟨by simp; omega, fun i y d hy hd => ?_⟩
  by_cases hi : i < a.length
  · rw [List.getElem?_append_left hi] at hy
    exact h.2 i y d hy hd
  · by_cases hj : i = a.length
    · subst hj
      rw [List.getElem?_append_right (Nat.le_refl _)] at hy
      simp at hy
      subst hy
      rw [hc] at hd
      injection hd with hd
      subst hd
      exact ⟨hx, hf⟩
    · rw [List.getElem?_append_right (by omega), List.getElem?_eq_none (by simp; omega)] at hy
      cases hy
theorem mt_fit {a : List (List UInt8)} {s : List UInt8} (h : Fit a s) (b : List (List UInt8)) : mt (a ++ b) s = mt b (s.drop a.length) := by
  induction a generalizing s with
  | nil => simp
  | cons x a ih =>
    obtain ⟨c, t, rfl, h1, h2, h3⟩ := h.cons
    rw [List.cons_append, mt_byte _ _ _ _ h1, h2, Bool.true_and, ih h3]
    simp
/-- a holds no star: what it matches, and more, is at least as long as a. -/
theorem mt_long {a : List (List UInt8)} (h : ∀ x ∈ a, x ≠ [42]) : ∀ (b : List (List UInt8)) (s : List UInt8), mt (a ++ b) s = true → a.length ≤ s.length ∧ mt b (s.drop a.length) = true := by
  induction a with
  | nil => intro b s hm; exact ⟨by simp, by simpa using hm⟩
  | cons x a ih =>
    intro b s hm
    cases s with
    | nil => rw [List.cons_append, mt_end _ _ (h x (by simp))] at hm; cases hm
    | cons c t =>
      rw [List.cons_append, mt_byte _ _ _ _ (h x (by simp))] at hm
      have := ih (fun y hy => h y (by simp [hy])) b t (by simp at hm; exact hm.2)
      simp only [List.length_cons, List.drop_succ_cons]
      exact ⟨by omega, this.2⟩
/-- What is still to be found out: whether rest matches s, or, behind a star, an end of s. -/
def goal (starred : Bool) (rest : List (List UInt8)) (s : List UInt8) : Bool := if starred then someTail (mt rest) s else mt rest s
theorem goal_star {a : List (List UInt8)} {s : List UInt8} (h : Fit a s) (b : List (List UInt8)) (st : Bool) : goal st (a ++ [42] :: b) s = goal true b (s.drop a.length) := by
  have h0 : mt (a ++ [42] :: b) s = someTail (mt b) (s.drop a.length) := by rw [mt_fit h, mt_star]
  cases st with
  | false => simp only [goal, if_true, Bool.false_eq_true, if_false]; exact h0
  | true =>
    simp only [goal, if_true]
    rw [Bool.eq_iff_iff]
    constructor
    · intro hs
      obtain ⟨k, hk, hm⟩ := (someTail_iff _ s).1 hs
      obtain ⟨h1, h2⟩ := mt_long (fun x hx => h.star hx) _ _ hm
      rw [mt_star, List.drop_drop, Nat.add_comm, ← List.drop_drop] at h2
      exact someTail_drop _ _ k h2
    · intro hs
      exact someTail_head _ s (h0.trans hs)
theorem goal_short {a : List (List UInt8)} {s : List UInt8} (h : Fit a s) (hl : a.length = s.length) (x : List UInt8) (b : List (List UInt8)) (hx : x ≠ [42]) (st : Bool) : goal st (a ++ x :: b) s = false := by
  have key : ∀ t, t.length ≤ s.length → mt (a ++ x :: b) t = false := by
    intro t ht
    cases hm : mt (a ++ x :: b) t with
    | false => rfl
    | true =>
      exfalso
      have := (mt_long (a := a ++ [x]) (fun y hy => by
        rcases List.mem_append.1 hy with hy | hy
        · exact h.star hy
        · simp only [List.mem_singleton] at hy; subst hy; exact hx) b t (by simpa using hm)).1
      simp at this
      omega
  cases st with
  | false => simp only [goal, Bool.false_eq_true, if_false]; exact key s (Nat.le_refl _)
  | true =>
    simp only [goal, if_true]
    cases hm : someTail (mt (a ++ x :: b)) s with
    | false => rfl
    | true =>
      obtain ⟨k, hk, hm⟩ := (someTail_iff _ s).1 hm
      rw [key _ (by rw [List.length_drop]; omega)] at hm
      cases hm
theorem mt_no {a : List (List UInt8)} {s : List UInt8} (h : Fit a s) {x : List UInt8} {c : UInt8} (b : List (List UInt8)) (hc : s[a.length]? = some c) (hx : x ≠ [42]) (hf : fits x c = false) : mt (a ++ x :: b) s = false := by
  rw [mt_fit h]
  have hl := (List.getElem?_eq_some_iff.1 hc).1
  have hg := (List.getElem?_eq_some_iff.1 hc).2
  rw [List.drop_eq_getElem_cons hl, mt_byte _ _ _ _ hx, hg, hf, Bool.false_and]
theorem goal_no {a : List (List UInt8)} {s : List UInt8} (h : Fit a s) {x : List UInt8} {c : UInt8} (b : List (List UInt8)) (hc : s[a.length]? = some c) (hx : x ≠ [42]) (hf : fits x c = false) :
    goal false (a ++ x :: b) s = false ∧ goal true (a ++ x :: b) s = goal true (a ++ x :: b) (s.drop 1) := by
  have h0 := mt_no h b hc hx hf
  refine ⟨by simp only [goal, Bool.false_eq_true, if_false]; exact h0, ?_⟩
  cases s with
  | nil => simp at hc
  | cons d t => simp only [goal, if_true, someTail, List.drop_succ_cons, List.drop_zero, h0, Bool.false_or]
theorem goal_all {a : List (List UInt8)} {s : List UInt8} (h : Fit a s) : (a.length = s.length → ∀ st, goal st a s = true) ∧ (a.length ≠ s.length → goal false a s = false) ∧ goal true a s = goal true a (s.drop (s.length - a.length)) := by
  have h0 : mt a s = (s.drop a.length).isEmpty := by have := mt_fit h []; rw [List.append_nil, mt_nil] at this; exact this
  have hs := h.1
  refine ⟨fun hl st => ?_, fun hl => ?_, ?_⟩
  · have h1 : mt a s = true := by rw [h0, hl, List.drop_length]; rfl
    cases st with
    | false => simp only [goal, Bool.false_eq_true, if_false]; exact h1
    | true => simp only [goal, if_true]; exact someTail_head _ s h1
  · simp only [goal, Bool.false_eq_true, if_false]
    rw [h0]
    cases hd : s.drop a.length with
    | nil => have := congrArg List.length hd; rw [List.length_drop, List.length_nil] at this; omega
    | cons c t => rfl
  · simp only [goal, if_true]
    rw [Bool.eq_iff_iff]
    constructor
    · intro hm
      obtain ⟨k, hk, hm⟩ := (someTail_iff _ s).1 hm
      obtain ⟨h1, h2⟩ := mt_long (a := a) (fun x hx => h.star hx) [] (s.drop k) (by simpa using hm)
      rw [mt_nil, List.isEmpty_iff] at h2
      have h3 := congrArg List.length h2
      rw [List.length_drop, List.length_drop, List.length_nil] at h3
      rw [List.length_drop] at h1
      have : k = s.length - a.length := by omega
      subst this
      exact someTail_head _ _ hm
    · exact someTail_drop _ s _

/-! ### The laws -/
theorem parts_one (c : UInt8) (p : List UInt8) (h1 : c.toNat ≠ 92) (h2 : c.toNat ≠ 91) : parts (c :: p) = [c] :: parts p := by
  rw [parts_cons _ (by simp)]
  have : psize (c :: p) = 1 := by simp [psize, h1, h2]
  rw [this]
  simp
theorem pat_star (p s : List UInt8) : pat (42 :: p) s = true ↔ ∃ k, k ≤ s.length ∧ pat p (s.drop k) = true := by
  unfold pat
  rw [parts_one 42 p (by decide) (by decide), mt_star, someTail_iff]
theorem pat_any (p s : List UInt8) : pat (63 :: p) s = (!s.isEmpty && pat p (s.drop 1)) := by
  unfold pat
  rw [parts_one 63 p (by decide) (by decide)]
  cases s with
  | nil => rw [mt_end _ _ (by decide)]; rfl
  | cons c t => rw [mt_byte _ _ _ _ (by decide)]; simp [fits]
def ep (c : UInt8) : List UInt8 := if c.toNat = 42 ∨ c.toNat = 63 ∨ c.toNat = 91 ∨ c.toNat = 92 then [92, c] else [c]
def escape (s : List UInt8) : List UInt8 := s.flatMap ep
theorem ep_len (c : UInt8) : (ep c).length ≤ 2 := by unfold ep; split <;> simp
theorem escape_len (s : List UInt8) : (escape s).length ≤ 2 * s.length := flatMap_len ep 2 ep_len s
theorem ep_fits (c d : UInt8) : fits (ep c) d = decide (c = d) := by
  unfold ep fits
  split
  · rename_i h
    rw [if_neg (by intro e; injection e with e1 e2; exact absurd e1 (by decide)), if_pos (by simp)]
    simp
  · rename_i h
    rw [if_neg (by intro e; injection e with e1 e2; subst e1; simp at h), if_pos (by simp)]
    simp
theorem ep_star (c : UInt8) : ep c ≠ [42] := by
  unfold ep
  split
  · simp
  · rename_i h
    intro e
    injection e with e1 e2
    subst e1
    simp at h
theorem parts_ep (c : UInt8) (p : List UInt8) : parts (ep c ++ p) = ep c :: parts p := by
  unfold ep
  split
  · rename_i h
    rw [parts_cons _ (by simp)]
    have : psize ([92, c] ++ p) = 2 := by simp [psize]
    rw [this]
    simp
  · rename_i h
    exact parts_one c p (by omega) (by omega)
theorem parts_escape (t p : List UInt8) : parts (escape t ++ p) = t.map ep ++ parts p := by
  induction t with
  | nil => rfl
  | cons c t ih =>
    have e : escape (c :: t) ++ p = ep c ++ (escape t ++ p) := by simp [escape]
    rw [e, parts_ep, ih]
    rfl
theorem pat_escape (t p s : List UInt8) : pat (escape t ++ p) (t ++ s) = pat p s := by
  unfold pat
  rw [parts_escape]
  induction t with
  | nil => rfl
  | cons c t ih => rw [List.map_cons, List.cons_append, List.cons_append, mt_byte _ _ _ _ (ep_star c), ep_fits, decide_eq_true rfl, Bool.true_and, ih]
theorem pat_escape_self (s : List UInt8) : pat (escape s) s = true := by
  have := pat_escape s [] []
  rw [List.append_nil, List.append_nil] at this
  rw [this]
  rfl

theorem indexByte_snoc (l : List UInt8) (d : UInt8) (hd : d ≠ 93) : Lib.indexByte (l ++ [d]) 93 = Lib.indexByte l 93 := by
  induction l with
  | nil => simp [Lib.indexByte, hd]
  | cons b l ih => simp only [List.cons_append, Lib.indexByte, ih]
theorem endAfter_snoc (p : List UInt8) (n : Nat) : endAfter (p ++ [42]) n = endAfter p n := by
  unfold endAfter
  by_cases h : p.length < n
  · rw [if_pos h]
    by_cases h1 : (p ++ [42]).length < n
    · rw [if_pos h1]
    · rw [if_neg h1]
      have : (p ++ [42]).drop n = [] := List.drop_eq_nil_of_le (by simp; omega)
      rw [this, if_pos (by decide)]
  · rw [if_neg h, if_neg (by simp; omega), List.drop_append_of_le_length (by omega), indexByte_snoc _ _ (by decide)]
theorem psize_snoc (p : List UInt8) (h0 : p ≠ []) (h : p.getLast? ≠ some 92) : psize (p ++ [42]) = psize p := by
  cases p with
  | nil => exact absurd rfl h0
  | cons c r =>
    have hp : Lib.hasPrefix (c :: r ++ [42]) [91, 33] = Lib.hasPrefix (c :: r) [91, 33] := by
      cases r with
      | nil => simp [Lib.hasPrefix, List.isPrefixOf]
      | cons d r => simp [Lib.hasPrefix, List.isPrefixOf]
    have hc : classSize (c :: r ++ [42]) = classSize (c :: r) := by
      unfold classSize
      rw [hp, endAfter_snoc, endAfter_snoc]
    rw [List.cons_append] at hc ⊢
    unfold psize
    simp only
    rw [hc]
    by_cases hr : r = []
    · subst hr
      have : c.toNat ≠ 92 := fun e => h (by rw [byte_of c 92 e]; rfl)
      simp [this]
    · have h1 : 0 < r.length := List.length_pos_iff.2 hr
      have h2 : 0 < (r ++ [42]).length := by simp
      simp only [h1, h2, and_true]
theorem parts_snoc (p : List UInt8) : p.getLast? ≠ some 92 → parts (p ++ [42]) = parts p ++ [[42]] := by
  refine parts_ind (P := fun p => p.getLast? ≠ some 92 → parts (p ++ [42]) = parts p ++ [[42]]) ?_ ?_ p.length p (Nat.le_refl _)
  · intro _; rw [List.nil_append, parts_one 42 [] (by decide) (by decide)]; rfl
  · intro p hp ih h
    have hs := psize_le p hp
    rw [parts_cons (p ++ [42]) (by simp), parts_cons p hp, psize_snoc p hp h, List.take_append_of_le_length hs.2, List.drop_append_of_le_length hs.2, List.cons_append, ih]
    by_cases hd : p.drop (psize p) = []
    · rw [hd]; simp
    · rw [List.getLast?_drop, if_neg (by rw [List.drop_eq_nil_iff] at hd; omega)]
      exact h
theorem mt_snoc (r : List (List UInt8)) : ∀ s, mt (r ++ [[42]]) s = true ↔ ∃ k, k ≤ s.length ∧ mt r (s.take k) = true := by
  induction r with
  | nil =>
    intro s
    rw [List.nil_append, mt_star, someTail_iff]
    constructor
    · intro _; exact ⟨0, by omega, by simp [mt_nil]⟩
    · intro _; exact ⟨s.length, Nat.le_refl _, by simp [mt_nil]⟩
  | cons x r ih =>
    intro s
    rw [List.cons_append]
    by_cases hx : x = [42]
    · subst hx
      rw [mt_star, someTail_iff]
      constructor
      · rintro ⟨k, hk, h⟩
        obtain ⟨j, hj, h⟩ := (ih _).1 h
        rw [List.length_drop] at hj
        refine ⟨k + j, by omega, ?_⟩
        rw [mt_star, someTail_iff]
        refine ⟨k, by rw [List.length_take]; omega, ?_⟩
        rw [List.drop_take, Nat.add_sub_cancel_left]
        exact h
      · rintro ⟨k, hk, h⟩
        rw [mt_star, someTail_iff] at h
        obtain ⟨j, hj, h⟩ := h
        rw [List.length_take] at hj
        refine ⟨j, by omega, (ih _).2 ⟨k - j, by rw [List.length_drop]; omega, ?_⟩⟩
        rw [List.drop_take] at h
        exact h
    · cases s with
      | nil =>
        rw [mt_end _ _ hx]
        constructor
        · intro h; cases h
        · rintro ⟨k, hk, h⟩; rw [List.take_nil, mt_end _ _ hx] at h; cases h
      | cons c t =>
        rw [mt_byte _ _ _ _ hx, Bool.and_eq_true, ih]
        constructor
        · rintro ⟨hf, k, hk, h⟩
          exact ⟨k + 1, by simp; omega, by rw [List.take_succ_cons, mt_byte _ _ _ _ hx, hf, h]; rfl⟩
        · rintro ⟨k, hk, h⟩
          cases k with
          | zero => rw [List.take_zero, mt_end _ _ hx] at h; cases h
          | succ k =>
            rw [List.take_succ_cons, mt_byte _ _ _ _ hx, Bool.and_eq_true] at h
            exact ⟨h.1, k, by simp at hk; omega, h.2⟩
theorem pat_snoc (p s : List UInt8) (h : p.getLast? ≠ some 92) : pat (p ++ [42]) s = true ↔ ∃ k, k ≤ s.length ∧ pat p (s.take k) = true := by
  unfold pat
  rw [parts_snoc p h, mt_snoc]

/-! ### Magic and Plain -/
def magicPart (x : List UInt8) : Bool := decide (x = [42]) || decide (x = [63]) || decide (2 < x.length)
def magic (p : List UInt8) : Bool := (parts p).any magicPart
def plainPart (x : List UInt8) : List UInt8 := if x.length = 2 then x.drop 1 else x
def plain (p : List UInt8) : List UInt8 := (parts p).flatMap plainPart

theorem plain_len (p : List UInt8) : (plain p).length ≤ p.length := by
  have key : ∀ l : List (List UInt8), (l.flatMap plainPart).length ≤ (l.flatMap id).length := by
    intro l
    induction l with
    | nil => simp
    | cons x l ih =>
      simp only [List.flatMap_cons, List.length_append, id]
      have : (plainPart x).length ≤ x.length := by unfold plainPart; split <;> simp
      omega
  have := key (parts p)
  rw [parts_flat] at this
  exact this
theorem mt_plain (l : List (List UInt8)) (h : l.any magicPart = false) (hne : ∀ x ∈ l, x ≠ []) : ∀ s, mt l s = decide (s = l.flatMap plainPart) := by
  induction l with
  | nil =>
    intro s
    rw [mt_nil, List.flatMap_nil]
    cases s <;> rfl
  | cons x l ih =>
    intro s
    rw [List.any_cons, Bool.or_eq_false_iff] at h
    have hx := h.1
    simp only [magicPart, Bool.or_eq_false_iff, decide_eq_false_iff_not] at hx
    obtain ⟨⟨hx1, hx2⟩, hx3⟩ := hx
    have hx0 := hne x (by simp)
    obtain ⟨d, hd, hp⟩ : ∃ d, x.getLast? = some d ∧ plainPart x = [d] := by
      cases x with
      | nil => exact absurd rfl hx0
      | cons a x =>
        cases x with
        | nil => exact ⟨a, rfl, rfl⟩
        | cons b x =>
          cases x with
          | nil => exact ⟨b, rfl, rfl⟩
          | cons c x => simp at hx3
    rw [List.flatMap_cons, hp]
    cases s with
    | nil => rw [mt_end _ _ hx1]; simp
    | cons c t =>
      rw [mt_byte _ _ _ _ hx1, ih h.2 (fun y hy => hne y (by simp [hy]))]
      have hf : fits x c = decide (d = c) := by
        unfold fits
        rw [if_neg hx2, if_pos (by omega), hd]
        simp
      rw [hf]
      by_cases hdc : d = c
      · subst hdc; simp
      · simp [hdc, Ne.symm hdc]
theorem pat_plain (p s : List UInt8) (h : magic p = false) : pat p s = decide (s = plain p) := mt_plain (parts p) h (parts_ne p) s
theorem parts_escaped (s : List UInt8) : parts (escape s) = s.map ep := by
  have := parts_escape s []
  rw [List.append_nil, parts_nil, List.append_nil] at this
  exact this
theorem magic_escape (s : List UInt8) : magic (escape s) = false := by
  unfold magic
  rw [parts_escaped]
  simp only [List.any_map, List.any_eq_false]
  intro c _
  have h1 := ep_star c
  have h2 := ep_len c
  have h3 : ep c ≠ [63] := by
    unfold ep
    split
    · simp
    · rename_i h
      intro e
      injection e with e1 e2
      subst e1
      simp at h
  simp [magicPart, h1, h3]
  omega
theorem plain_escape (s : List UInt8) : plain (escape s) = s := by
  unfold plain
  rw [parts_escaped]
  induction s with
  | nil => rfl
  | cons c s ih =>
    rw [List.map_cons, List.flatMap_cons, ih]
    have : plainPart (ep c) = [c] := by unfold ep plainPart; split <;> simp
    rw [this]
    rfl
end Go.Proofs.YthibikdnoogfoaaGreatDoor.Txt
