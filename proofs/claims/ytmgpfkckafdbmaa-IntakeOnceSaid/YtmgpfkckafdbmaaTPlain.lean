/-
  Chapter 2 as functions on lists of bytes: quoted strings, lines, fields; and what follows of the definitions. Nothing of the program stands here. No condition.
-/
import Derived.Test.YtmgpfkckafdbmaaPlain
namespace Go.Proofs.Ytmgpfkckafdbmaa.Txt
open Go Wire

/-! ### Quoted strings -/
def hexd (n : Nat) : UInt8 := if n < 10 then UInt8.ofNat (48 + n) else UInt8.ofNat (87 + n)
def qb (c : UInt8) : List UInt8 :=
  if c.toNat = 34 ∨ c.toNat = 92 then [92, c] else if c.toNat = 10 then [92, 110]
  else if c.toNat < 32 ∨ 126 < c.toNat then [92, 120, hexd (c.toNat / 16), hexd (c.toNat % 16)] else [c]
def quote (l : List UInt8) : List UInt8 := 34 :: (l.flatMap qb ++ [34])
def lowr (c : UInt8) : Nat := (c ||| 32).toNat
def hexv (c : UInt8) : Option Nat :=
  if 48 ≤ c.toNat ∧ c.toNat ≤ 57 then some (c.toNat - 48) else if 97 ≤ lowr c ∧ lowr c ≤ 102 then some (lowr c - 87) else none
def hexp (a b : UInt8) : Nat := match hexv a, hexv b with
  | some x, some y => x * 16 + y
  | _, _ => 0
/-- What a backslash and the bytes behind it stand for, and how many bytes these are. -/
def esc : List UInt8 → UInt8 × Nat
  | [] => (0, 0)
  | d :: r => if d = 110 then (10, 1) else if d = 120 then (match r with
      | a :: b :: _ => (UInt8.ofNat (hexp a b), 3)
      | _ => (120, 1)) else (d, 1)
def unesc : List UInt8 → List UInt8
  | [] => []
  | c :: r => if c = 92 then (match r with
      | [] => []
      | d :: r1 => if d = 110 then 10 :: unesc r1 else if d = 120 then (match r1 with
          | a :: b :: r2 => UInt8.ofNat (hexp a b) :: unesc r2
          | [a] => 120 :: unesc [a]
          | [] => 120 :: unesc []) else d :: unesc r1) else c :: unesc r
/-- Without one quotation mark in front and one at the end. -/
def inner (s : List UInt8) : List UInt8 := Lib.trimSuffix (Lib.trimPrefix s [34]) [34]
def unquote (s : List UInt8) : Option (List UInt8) := if quote (unesc (inner s)) = s then some (unesc (inner s)) else none

theorem unesc_plain (c : UInt8) (r : List UInt8) (h : c ≠ 92) : unesc (c :: r) = c :: unesc r := by
  rw [unesc.eq_def]
  simp [h]
theorem unesc_last : unesc [92] = [] := by
  rw [unesc.eq_def]
  simp
theorem unesc_bs (a : List UInt8) (h : a ≠ []) : unesc (92 :: a) = (esc a).1 :: unesc (a.drop (esc a).2) := by
  cases a with
  | nil => exact absurd rfl h
  | cons d r =>
    rw [unesc.eq_def]
    by_cases h1 : d = 110
    · subst h1; simp [esc]
    · by_cases h2 : d = 120
      · subst h2
        cases r with
        | nil => simp [esc]
        | cons a r =>
          cases r with
          | nil => simp [esc]
          | cons b r => simp [esc]
      · simp [esc, h1, h2]
theorem unesc_none {s : List UInt8} (h : cutAt 92 s = none) : unesc s = s := by
  induction s with
  | nil => rw [unesc.eq_def]
  | cons c r ih =>
    simp only [cutAt] at h
    by_cases hc : c = 92
    · rw [if_pos hc] at h; cases h
    · rw [if_neg hc] at h
      rw [unesc_plain c r hc, ih (by cases hr : cutAt 92 r with
        | none => rfl
        | some p => rw [hr] at h; cases h)]
theorem unesc_skip (b a : List UInt8) (h : (92 : UInt8) ∉ b) : unesc (b ++ a) = b ++ unesc a := by
  induction b with
  | nil => rfl
  | cons c b ih =>
    simp only [List.mem_cons, not_or] at h
    rw [List.cons_append, unesc_plain c _ (fun e => h.1 e.symm), ih h.2, List.cons_append]
theorem unesc_some {s b a : List UInt8} (h : cutAt 92 s = some (b, a)) : unesc s = b ++ unesc (92 :: a) := by
  obtain ⟨h1, h2⟩ := cutAt_some h
  rw [h1, unesc_skip b _ h2]
theorem esc_le (a : List UInt8) (h : a ≠ []) : 1 ≤ (esc a).2 ∧ (esc a).2 ≤ a.length ∧ (esc a).2 ≤ 3 := by
  cases a with
  | nil => exact absurd rfl h
  | cons d r =>
    by_cases h1 : d = 110
    · simp [esc, h1]
    · by_cases h2 : d = 120
      · subst h2
        cases r with
        | nil => simp [esc]
        | cons a r =>
          cases r with
          | nil => simp [esc]
          | cons b r => simp [esc]
      · simp [esc, h1, h2]
theorem unesc_len_aux : ∀ (n : Nat) (s : List UInt8), s.length ≤ n → (unesc s).length ≤ s.length := by
  intro n
  induction n with
  | zero =>
    intro s h
    have : s = [] := List.eq_nil_of_length_eq_zero (by omega)
    subst this
    rw [unesc.eq_def]
    simp
  | succ n ih =>
    intro s h
    cases s with
    | nil => rw [unesc.eq_def]; simp
    | cons c r =>
      simp only [List.length_cons] at h
      by_cases hc : c = 92
      · subst hc
        cases r with
        | nil => rw [unesc_last]; simp
        | cons d r =>
          have he := esc_le (d :: r) (by simp)
          rw [unesc_bs _ (by simp)]
          have := ih ((d :: r).drop (esc (d :: r)).2) (by rw [List.length_drop]; omega)
          rw [List.length_drop] at this
          simp only [List.length_cons] at *
          omega
      · rw [unesc_plain c r hc]
        have := ih r (by omega)
        simp only [List.length_cons]
        omega
theorem unesc_len (s : List UInt8) : (unesc s).length ≤ s.length := unesc_len_aux _ s (Nat.le_refl _)
theorem hexp_hexd_nat : ∀ n, n < 256 → hexp (hexd (n / 16)) (hexd (n % 16)) = n := by decide +kernel
theorem hexd_ne : ∀ n, n < 16 → hexd n ≠ 92 := by decide +kernel
theorem byte_of (c : UInt8) (n : Nat) (h : c.toNat = n) : c = UInt8.ofNat n := by rw [← h]; simp
theorem unesc_qb (c : UInt8) (r : List UInt8) : unesc (qb c ++ r) = c :: unesc r := by
  unfold qb
  have hc := c.toNat_lt
  by_cases h1 : c.toNat = 34 ∨ c.toNat = 92
  · rw [if_pos h1, List.cons_append, unesc_bs _ (by simp)]
    have n1 : c ≠ 110 := by rintro rfl; simp at h1
    have n2 : c ≠ 120 := by rintro rfl; simp at h1
    simp [esc, n1, n2]
  · rw [if_neg h1]
    by_cases h2 : c.toNat = 10
    · rw [if_pos h2, List.cons_append, unesc_bs _ (by simp)]
      have : c = 10 := byte_of c 10 h2
      subst this
      simp [esc]
    · rw [if_neg h2]
      by_cases h3 : c.toNat < 32 ∨ 126 < c.toNat
      · rw [if_pos h3, List.cons_append, unesc_bs _ (by simp)]
        have := hexp_hexd_nat c.toNat (by omega)
        simp [esc, this]
      · rw [if_neg h3, List.cons_append, List.nil_append, unesc_plain]
        rintro rfl
        simp at h1
theorem unesc_quoted (l : List UInt8) : unesc (l.flatMap qb) = l := by
  induction l with
  | nil => rw [List.flatMap_nil, unesc.eq_def]
  | cons c l ih => rw [List.flatMap_cons, unesc_qb, ih]
theorem trimPre (c : UInt8) (s : List UInt8) : Lib.trimPrefix (c :: s) [c] = s := by simp [Lib.trimPrefix, Lib.hasPrefix, List.isPrefixOf]
theorem trimSuf (c : UInt8) (s : List UInt8) : Lib.trimSuffix (s ++ [c]) [c] = s := by
  have : Lib.hasSuffix (s ++ [c]) [c] = true := by simp [Lib.hasSuffix]
  simp [Lib.trimSuffix, this]
theorem inner_quote (l : List UInt8) : inner (quote l) = l.flatMap qb := by
  unfold inner quote
  rw [trimPre, trimSuf]
theorem unesc_inner (l : List UInt8) : unesc (inner (quote l)) = l := by rw [inner_quote, unesc_quoted]
theorem quote_inj {a b : List UInt8} (h : quote a = quote b) : a = b := by rw [← unesc_inner a, h, unesc_inner]
theorem unquote_iff (s d : List UInt8) : unquote s = some d ↔ quote d = s := by
  unfold unquote
  constructor
  · intro h
    by_cases hq : quote (unesc (inner s)) = s
    · rw [if_pos hq] at h
      injection h with h
      rw [← h]; exact hq
    · rw [if_neg hq] at h; cases h
  · rintro rfl
    rw [unesc_inner, if_pos rfl]
theorem unquote_quote (l : List UInt8) : unquote (quote l) = some l := (unquote_iff _ _).2 rfl
/-- Whatever a reader makes of a string, it is Unquote if it inverts Quote and looks that what it read is written as it was. -/
theorem unquote_any (f : List UInt8 → List UInt8) (hf : ∀ l, f (quote l) = l) (s : List UInt8) : unquote s = if quote (f s) = s then some (f s) else none := by
  by_cases h : quote (f s) = s
  · rw [if_pos h]; exact (unquote_iff _ _).2 h
  · rw [if_neg h]
    cases hu : unquote s with
    | none => rfl
    | some d =>
      exfalso
      have hd := (unquote_iff s d).1 hu
      subst hd
      rw [hf] at h
      exact h rfl
theorem qb_len (c : UInt8) : 1 ≤ (qb c).length ∧ (qb c).length ≤ 4 := by
  unfold qb
  split
  · simp
  · split
    · simp
    · split <;> simp
theorem flatMap_len {α β : Type} (f : α → List β) (k : Nat) (h : ∀ a, (f a).length ≤ k) (l : List α) : (l.flatMap f).length ≤ k * l.length := by
  induction l with
  | nil => simp
  | cons a l ih =>
    rw [List.flatMap_cons, List.length_append, List.length_cons, Nat.mul_succ]
    have := h a
    omega
theorem quote_len (l : List UInt8) : (quote l).length ≤ 4 * l.length + 2 := by
  have := flatMap_len qb 4 (fun c => (qb_len c).2) l
  simp only [quote, List.length_cons, List.length_append, List.length_nil]
  omega

/-! ### Lines -/
def lines : List UInt8 → List (List UInt8)
  | [] => []
  | c :: r => if c = 10 then [] :: lines r else match lines r with
      | [] => [[c]]
      | h :: t => (c :: h) :: t
def unlines (l : List (List UInt8)) : List UInt8 := l.flatMap fun x => x ++ [10]

theorem lines_lf (a b : List UInt8) (h : (10 : UInt8) ∉ a) : lines (a ++ 10 :: b) = a :: lines b := by
  induction a with
  | nil => simp [lines]
  | cons c a ih =>
    simp only [List.mem_cons, not_or] at h
    rw [List.cons_append, lines, if_neg (fun e => h.1 e.symm), ih h.2]
theorem lines_none (a : List UInt8) (h : (10 : UInt8) ∉ a) : lines a = if a = [] then [] else [a] := by
  induction a with
  | nil => rfl
  | cons c a ih =>
    simp only [List.mem_cons, not_or] at h
    rw [lines, if_neg (fun e => h.1 e.symm), ih h.2]
    by_cases ha : a = []
    · subst ha; simp
    · simp [ha]
theorem cut_cases (e : UInt8) (s : List UInt8) : e ∉ s ∨ ∃ a b, s = a ++ e :: b ∧ e ∉ a := by
  cases h : cutAt e s with
  | some p => exact Or.inr ⟨p.1, p.2, (cutAt_some h).1, (cutAt_some h).2⟩
  | none =>
    left
    induction s with
    | nil => simp
    | cons c r ih =>
      simp only [cutAt] at h
      by_cases hc : c = e
      · rw [if_pos hc] at h; cases h
      · rw [if_neg hc] at h
        have := ih (by cases hr : cutAt e r with
          | none => rfl
          | some p => rw [hr] at h; cases h)
        simp only [List.mem_cons, not_or]
        exact ⟨fun hx => hc hx.symm, this⟩
/-- By the lines of a string. -/
theorem lines_ind {P : List UInt8 → Prop} (h0 : ∀ a, (10 : UInt8) ∉ a → P a) (h1 : ∀ a b, (10 : UInt8) ∉ a → P b → P (a ++ 10 :: b)) : ∀ (n : Nat) (s : List UInt8), s.length ≤ n → P s := by
  intro n
  induction n with
  | zero =>
    intro s h
    have : s = [] := List.eq_nil_of_length_eq_zero (by omega)
    subst this
    exact h0 [] (by simp)
  | succ n ih =>
    intro s h
    rcases cut_cases 10 s with hs | ⟨a, b, rfl, ha⟩
    · exact h0 s hs
    · simp at h
      exact h1 a b ha (ih b (by omega))
theorem lines_unlines (l : List (List UInt8)) (h : ∀ x ∈ l, (10 : UInt8) ∉ x) : lines (unlines l) = l := by
  induction l with
  | nil => rfl
  | cons x l ih =>
    have e : unlines (x :: l) = x ++ 10 :: unlines l := by simp [unlines]
    rw [e, lines_lf x _ (h x (by simp)), ih (fun y hy => h y (by simp [hy]))]
theorem lines_clean (s : List UInt8) : ∀ x ∈ lines s, (10 : UInt8) ∉ x := by
  refine lines_ind (P := fun s => ∀ x ∈ lines s, (10 : UInt8) ∉ x) ?_ ?_ s.length s (Nat.le_refl _)
  · intro a ha x hx
    rw [lines_none a ha] at hx
    by_cases h0 : a = []
    · rw [if_pos h0] at hx; cases hx
    · rw [if_neg h0] at hx
      simp only [List.mem_singleton] at hx
      subst hx; exact ha
  · intro a b ha hb x hx
    rw [lines_lf a b ha] at hx
    rcases List.mem_cons.1 hx with rfl | hx
    · exact ha
    · exact hb x hx
/-- What a string is once it ends with an LF, if it is not empty. -/
def ended (s : List UInt8) : List UInt8 := if s = [] ∨ s.getLast? = some 10 then s else s ++ [10]
theorem unlines_lines (s : List UInt8) : unlines (lines s) = ended s := by
  refine lines_ind (P := fun s => unlines (lines s) = ended s) ?_ ?_ s.length s (Nat.le_refl _)
  · intro a ha
    rw [lines_none a ha]
    unfold ended
    by_cases h0 : a = []
    · subst h0; rfl
    · rw [if_neg h0, if_neg]
      · simp [unlines]
      · rintro (h | h)
        · exact h0 h
        · exact ha (List.mem_of_getLast? h)
  · intro a b ha hb
    rw [lines_lf a b ha]
    have e : unlines (a :: lines b) = a ++ 10 :: unlines (lines b) := by simp [unlines]
    rw [e, hb]
    unfold ended
    by_cases h0 : b = []
    · subst h0; simp
    · have hl : (a ++ 10 :: b).getLast? = b.getLast? := by
        obtain ⟨x, y, rfl⟩ : ∃ x y, b = x ++ [y] := ⟨b.dropLast, b.getLast h0, (List.dropLast_concat_getLast h0).symm⟩
        rw [show a ++ 10 :: (x ++ [y]) = (a ++ 10 :: x) ++ [y] by simp, List.getLast?_concat, List.getLast?_concat]
      rw [hl]
      by_cases h1 : b.getLast? = some 10
      · rw [if_pos (Or.inr h1), if_pos (Or.inr h1)]
      · rw [if_neg (by simp [h0, h1]), if_neg (by simp [h1])]
        simp

/-! ### Fields -/
def white (c : UInt8) : Bool := c.toNat == 32 || c.toNat == 9 || c.toNat == 10
def fieldsGo (cur : List UInt8) : List UInt8 → List (List UInt8)
  | [] => if cur = [] then [] else [cur]
  | c :: r => if white c then (if cur = [] then fieldsGo [] r else cur :: fieldsGo [] r) else fieldsGo (cur ++ [c]) r
def fields (s : List UInt8) : List (List UInt8) := fieldsGo [] s

theorem fieldsGo_lf (a : List UInt8) : ∀ (cur b : List UInt8), fieldsGo cur (a ++ 10 :: b) = fieldsGo cur a ++ fieldsGo [] b := by
  induction a with
  | nil =>
    intro cur b
    rw [List.nil_append, fieldsGo, fieldsGo, if_pos (by decide)]
    by_cases h : cur = []
    · simp [h]
    · simp [h]
  | cons c a ih =>
    intro cur b
    rw [List.cons_append, fieldsGo, fieldsGo]
    by_cases hw : white c = true
    · rw [if_pos hw, if_pos hw]
      by_cases h : cur = []
      · rw [if_pos h, if_pos h, ih]
      · rw [if_neg h, if_neg h, ih, List.cons_append]
    · rw [if_neg hw, if_neg hw, ih]
theorem fields_lines (s : List UInt8) : fields s = (lines s).flatMap fields := by
  refine lines_ind (P := fun s => fields s = (lines s).flatMap fields) ?_ ?_ s.length s (Nat.le_refl _)
  · intro a ha
    rw [lines_none a ha]
    by_cases h0 : a = []
    · subst h0; rfl
    · rw [if_neg h0]; simp
  · intro a b ha hb
    rw [lines_lf a b ha, List.flatMap_cons, ← hb]
    exact fieldsGo_lf a [] b
theorem fieldsGo_clean (s : List UInt8) : ∀ (cur : List UInt8), (∀ c ∈ cur, white c = false) → ∀ x ∈ fieldsGo cur s, x ≠ [] ∧ ∀ c ∈ x, white c = false := by
  induction s with
  | nil =>
    intro cur hc x hx
    rw [fieldsGo] at hx
    by_cases h : cur = []
    · rw [if_pos h] at hx; cases hx
    · rw [if_neg h] at hx
      simp only [List.mem_singleton] at hx
      subst hx
      exact ⟨h, hc⟩
  | cons c s ih =>
    intro cur hc x hx
    rw [fieldsGo] at hx
    by_cases hw : white c = true
    · rw [if_pos hw] at hx
      by_cases h : cur = []
      · rw [if_pos h] at hx
        exact ih [] (by simp) x hx
      · rw [if_neg h] at hx
        rcases List.mem_cons.1 hx with rfl | hx
        · exact ⟨h, hc⟩
        · exact ih [] (by simp) x hx
    · rw [if_neg hw] at hx
      refine ih (cur ++ [c]) (fun d hd => ?_) x hx
      rcases List.mem_append.1 hd with hd | hd
      · exact hc d hd
      · simp only [List.mem_singleton] at hd
        subst hd
        simpa using hw
theorem fields_clean (s : List UInt8) : ∀ x ∈ fields s, x ≠ [] ∧ ∀ c ∈ x, white c = false := fieldsGo_clean s [] (by simp)
end Go.Proofs.Ytmgpfkckafdbmaa.Txt
