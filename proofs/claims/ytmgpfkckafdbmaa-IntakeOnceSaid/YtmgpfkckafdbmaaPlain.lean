/-
  The encodings of chapter 1 as functions on lists of bytes, and readers of them: what is read is exactly what was written. Nothing of the program stands here. No condition.
-/
import Derived.Lib.AtoiAllCases
import Derived.Lib.ItoaNum
import Derived.Lib.IndexMore
import Derived.Lib.Strings
namespace Go.Proofs.Ytmgpfkckafdbmaa.Wire
open Go

def InR (n : Int) : Prop := -9223372036854775808 ≤ n ∧ n ≤ 9223372036854775807

/-! ### Encodings -/
def eIntE (e : UInt8) (n : Int) : List UInt8 := Lib.itoa n ++ [e]
def eInt (n : Int) : List UInt8 := Lib.itoa n ++ [59]
def eNum (n : Int) : List UInt8 := if n < 0 then [] else eInt n
def eText (s : List UInt8) : List UInt8 := Lib.itoa s.length ++ [58] ++ s ++ [44]
def eList {α : Type} (enc : α → List UInt8) (l : List α) : List UInt8 := Lib.itoa l.length ++ [91] ++ l.flatMap enc ++ [93]

/-! ### Readers -/
def cutAt (e : UInt8) : List UInt8 → Option (List UInt8 × List UInt8)
  | [] => none
  | b :: l => if b = e then some ([], l) else (cutAt e l).map fun p => (b :: p.1, p.2)
def readDig (d : List UInt8) : Option Int :=
  match Lib.atoiAll d with
  | .ok v => if Lib.itoa v = d then some v else none
  | _ => none
def rInt (e : UInt8) (s : List UInt8) : Option (Int × List UInt8) := (cutAt e s).bind fun p => (readDig p.1).map fun n => (n, p.2)
def rNum (e : UInt8) (s : List UInt8) : Option (Int × List UInt8) := (rInt e s).bind fun p => if p.1 < 0 then none else some p
def rText (s : List UInt8) : Option (List UInt8 × List UInt8) :=
  (rNum 58 s).bind fun p => if p.2[p.1.toNat]? = some 44 then some (p.2.take p.1.toNat, p.2.drop (p.1.toNat + 1)) else none
def rMany {α : Type} (p : List UInt8 → Option (α × List UInt8)) : Nat → List UInt8 → Option (List α × List UInt8)
  | 0, s => some ([], s)
  | k + 1, s => (rMany p k s).bind fun q => (p q.2).map fun x => (q.1 ++ [x.1], x.2)
def rClose (e : UInt8) (s : List UInt8) : Option (List UInt8) := match s with
  | [] => none
  | b :: r => if b = e then some r else none
def rList {α : Type} (p : List UInt8 → Option (α × List UInt8)) (s : List UInt8) : Option (List α × List UInt8) :=
  (rNum 91 s).bind fun q => (rMany p q.1.toNat q.2).bind fun x => (rClose 93 x.2).map fun r => (x.1, r)

/-! ### Digits -/
theorem digit_of (k : Nat) (h : k < 10) : 48 ≤ (UInt8.ofNat (48 + k)).toNat ∧ (UInt8.ofNat (48 + k)).toNat ≤ 57 ∧ (UInt8.ofNat (48 + k)).toNat = 48 + k := by
  have e : (UInt8.ofNat (48 + k)).toNat = 48 + k := by simp [UInt8.toNat_ofNat']; omega
  omega
theorem decDigits_step (u : Nat) (h : ¬ u < 10) : Lib.decDigits u = Lib.decDigits (u / 10) ++ [UInt8.ofNat (48 + u % 10)] := by
  rw [Lib.decDigits, dif_neg h]
theorem decDigits_digit : ∀ (u : Nat) (b : UInt8), b ∈ Lib.decDigits u → 48 ≤ b.toNat ∧ b.toNat ≤ 57 := by
  intro u
  induction u using Nat.strongRecOn with
  | _ u ih =>
    intro b hb
    by_cases h : u < 10
    · rw [Lib.decDigits_one h] at hb
      simp only [List.mem_singleton] at hb
      subst hb
      have := digit_of u h
      omega
    · rw [decDigits_step u h] at hb
      rcases List.mem_append.1 hb with hb | hb
      · exact ih (u / 10) (by omega) b hb
      · simp only [List.mem_singleton] at hb
        subst hb
        have := digit_of (u % 10) (by omega)
        omega
theorem decDigits_ne (u : Nat) : Lib.decDigits u ≠ [] := by
  by_cases h : u < 10
  · rw [Lib.decDigits_one h]; simp
  · rw [decDigits_step u h]; simp
theorem parse_digits : ∀ (u : Nat), u < 18446744073709551616 → ∀ r, Lib.parseUint10 0 (Lib.decDigits u ++ r) = Lib.parseUint10 u r := by
  intro u
  induction u using Nat.strongRecOn with
  | _ u ih =>
    intro hu r
    by_cases h : u < 10
    · rw [Lib.decDigits_one h]
      have := digit_of u h
      simp only [List.cons_append, List.nil_append, Lib.parseUint10]
      rw [if_pos (by omega), if_neg (by omega), if_neg (by omega)]
      congr 1
      omega
    · rw [decDigits_step u h, List.append_assoc, ih (u / 10) (by omega) (by omega)]
      have := digit_of (u % 10) (by omega)
      simp only [List.cons_append, List.nil_append, Lib.parseUint10]
      rw [if_pos (by omega), if_neg (by omega), if_neg (by omega)]
      congr 1
      omega
theorem parseMag_digits (u : Nat) (hu : u < 18446744073709551616) : Lib.parseMag (Lib.decDigits u) = .ok u := by
  unfold Lib.parseMag
  rw [if_neg (decDigits_ne u)]
  have := parse_digits u hu []
  rw [List.append_nil] at this
  rw [this]
  rfl
theorem itoa_nonneg (n : Int) (h : ¬ n < 0) : Lib.itoa n = Lib.decDigits n.toNat := by unfold Lib.itoa; rw [if_neg h]
theorem itoa_neg (n : Int) (h : n < 0) : Lib.itoa n = 45 :: Lib.decDigits n.natAbs := by unfold Lib.itoa; rw [if_pos h]
theorem atoi_itoa (n : Int) (h : InR n) : Lib.atoiAll (Lib.itoa n) = .ok n := by
  obtain ⟨h0, h1⟩ := h
  by_cases hn : n < 0
  · rw [itoa_neg n hn, Lib.atoiAll_minus, parseMag_digits _ (by omega)]
    simp only [Lib.signed]
    rw [if_neg (by omega)]
    congr 1
    omega
  · rw [itoa_nonneg n hn]
    obtain ⟨c, r, hc⟩ : ∃ c r, Lib.decDigits n.toNat = c :: r := by
      cases hd : Lib.decDigits n.toNat with
      | nil => exact absurd hd (decDigits_ne _)
      | cons c r => exact ⟨c, r, rfl⟩
    have hb := decDigits_digit n.toNat c (by rw [hc]; simp)
    have hp := parseMag_digits n.toNat (by omega)
    rw [hc] at hp ⊢
    rw [Lib.atoiAll_plain c r (by omega) (by omega), hp]
    simp only [Lib.signless]
    rw [if_neg (by omega)]
    congr 1
    omega
theorem itoa_byte (n : Int) (b : UInt8) (hb : b ∈ Lib.itoa n) : b.toNat ≤ 57 ∧ 45 ≤ b.toNat := by
  by_cases hn : n < 0
  · rw [itoa_neg n hn] at hb
    rcases List.mem_cons.1 hb with hb | hb
    · subst hb; decide
    · have := decDigits_digit _ b hb; omega
  · rw [itoa_nonneg n hn] at hb
    have := decDigits_digit _ b hb
    omega
theorem itoa_ne (n : Int) : Lib.itoa n ≠ [] := by
  by_cases hn : n < 0
  · rw [itoa_neg n hn]; simp
  · rw [itoa_nonneg n hn]; exact decDigits_ne _
theorem itoa_len (n : Int) (h : InR n) : (Lib.itoa n).length ≤ 20 := by
  obtain ⟨h0, h1⟩ := h
  have key : ∀ u : Nat, u < 10000000000000000000 → (Lib.decDigits u).length ≤ 19 := by
    intro u hu
    rw [Lib.decDigits_length]
    by_cases h19 : 10 ^ 18 ≤ u
    · rw [Lib.nDigits_unique 18 u h19 (by omega)]; omega
    · have : ∀ k u : Nat, u < 10 ^ k → Lib.nDigits u ≤ k + 1 := by
        intro k
        induction k with
        | zero => intro u hu; rw [Lib.nDigits_small (by omega)]; omega
        | succ k ih =>
          intro u hu
          by_cases hs : u < 10
          · rw [Lib.nDigits_small hs]; omega
          · rw [Lib.nDigits_big hs]
            have := ih (u / 10) (by rw [Nat.pow_succ] at hu; omega)
            omega
      have := this 18 u (by omega)
      omega
  by_cases hn : n < 0
  · rw [itoa_neg n hn, List.length_cons]
    have := key n.natAbs (by omega)
    omega
  · rw [itoa_nonneg n hn]
    have := key n.toNat (by omega)
    omega

/-! ### Cutting -/
theorem cutAt_hit (e : UInt8) (d r : List UInt8) (h : e ∉ d) : cutAt e (d ++ e :: r) = some (d, r) := by
  induction d with
  | nil => simp [cutAt]
  | cons b d ih =>
    simp only [List.mem_cons, not_or] at h
    simp only [List.cons_append, cutAt]
    rw [if_neg (fun hb => h.1 hb.symm), ih h.2]
    rfl
theorem cutAt_some {e : UInt8} {s d r : List UInt8} (h : cutAt e s = some (d, r)) : s = d ++ e :: r ∧ e ∉ d := by
  induction s generalizing d with
  | nil => cases h
  | cons b l ih =>
    simp only [cutAt] at h
    by_cases hb : b = e
    · rw [if_pos hb] at h
      injection h with h
      injection h with h1 h2
      subst h1 h2 hb
      simp
    · rw [if_neg hb] at h
      cases hc : cutAt e l with
      | none => rw [hc] at h; cases h
      | some p =>
        rw [hc] at h
        simp only [Option.map_some, Option.some.injEq, Prod.mk.injEq] at h
        obtain ⟨h1, h2⟩ := h
        subst h1 h2
        obtain ⟨h3, h4⟩ := ih hc
        refine ⟨by rw [h3]; simp, ?_⟩
        simp only [List.mem_cons, not_or]
        exact ⟨fun hx => hb hx.symm, h4⟩
theorem lib_index (e : UInt8) (s : List UInt8) : Lib.index s [e] = match cutAt e s with | some p => (p.1.length : Int) | none => -1 := by
  induction s with
  | nil => rfl
  | cons b l ih =>
    simp only [Lib.index, cutAt, ih]
    by_cases hb : b = e
    · subst hb
      simp [List.isPrefixOf]
    · rw [if_neg hb]
      have : ([e].isPrefixOf (b :: l)) = false := by simp [List.isPrefixOf, Ne.symm hb]
      rw [this]
      cases hc : cutAt e l with
      | none => simp
      | some p =>
        simp only [Option.map_some, List.length_cons]
        rw [if_neg (by simp), if_neg (by simp)]
        rfl
theorem lib_cut (e : UInt8) (s : List UInt8) : Lib.cut s [e] = match cutAt e s with | some p => (p.1, p.2, true) | none => (s, [], false) := by
  unfold Lib.cut
  rw [lib_index]
  cases hc : cutAt e s with
  | none => rfl
  | some p =>
    obtain ⟨d, r⟩ := p
    obtain ⟨h1, _⟩ := cutAt_some hc
    simp only
    rw [if_pos (by omega)]
    subst h1
    simp

/-! ### Numbers -/
theorem readDig_iff (d : List UInt8) (n : Int) : readDig d = some n ↔ InR n ∧ d = Lib.itoa n := by
  unfold readDig
  constructor
  · intro h
    cases ha : Lib.atoiAll d with
    | ok v =>
      rw [ha] at h
      simp only at h
      by_cases hv : Lib.itoa v = d
      · rw [if_pos hv] at h
        injection h with h
        subst h
        exact ⟨Lib.atoiAll_bounds ha, hv.symm⟩
      · rw [if_neg hv] at h; cases h
    | _ => rw [ha] at h; cases h
  · rintro ⟨h, rfl⟩
    rw [atoi_itoa n h]
    simp
theorem not_in_itoa (e : UInt8) (he : 57 < e.toNat) (n : Int) : e ∉ Lib.itoa n := by
  intro h
  have := itoa_byte n e h
  omega
theorem rInt_iff (e : UInt8) (he : 57 < e.toNat) (s : List UInt8) (n : Int) (r : List UInt8) : rInt e s = some (n, r) ↔ InR n ∧ s = Lib.itoa n ++ e :: r := by
  unfold rInt
  constructor
  · intro h
    cases hc : cutAt e s with
    | none => rw [hc] at h; cases h
    | some p =>
      obtain ⟨d, q⟩ := p
      rw [hc] at h
      simp only [Option.bind_some] at h
      cases hd : readDig d with
      | none => rw [hd] at h; cases h
      | some m =>
        rw [hd] at h
        simp only [Option.map_some, Option.some.injEq, Prod.mk.injEq] at h
        obtain ⟨h1, h2⟩ := h
        subst h1 h2
        obtain ⟨h3, h4⟩ := (readDig_iff d m).1 hd
        exact ⟨h3, by rw [(cutAt_some hc).1, h4]⟩
  · rintro ⟨h, rfl⟩
    rw [cutAt_hit e _ r (not_in_itoa e he n)]
    simp only [Option.bind_some]
    rw [(readDig_iff _ n).2 ⟨h, rfl⟩]
    rfl
theorem rNum_iff (e : UInt8) (he : 57 < e.toNat) (s : List UInt8) (n : Int) (r : List UInt8) : rNum e s = some (n, r) ↔ 0 ≤ n ∧ InR n ∧ s = Lib.itoa n ++ e :: r := by
  unfold rNum
  constructor
  · intro h
    cases hi : rInt e s with
    | none => rw [hi] at h; cases h
    | some p =>
      obtain ⟨m, q⟩ := p
      rw [hi] at h
      simp only [Option.bind_some] at h
      by_cases hm : m < 0
      · rw [if_pos hm] at h; cases h
      · rw [if_neg hm] at h
        injection h with h
        injection h with h1 h2
        subst h1 h2
        have := (rInt_iff e he s m q).1 hi
        exact ⟨by omega, this.1, this.2⟩
  · rintro ⟨h0, h⟩
    rw [(rInt_iff e he s n r).2 h]
    simp only [Option.bind_some]
    rw [if_neg (by omega)]
theorem rNum_shorter {e : UInt8} (he : 57 < e.toNat) {s : List UInt8} {n : Int} {r : List UInt8} (h : rNum e s = some (n, r)) : r.length < s.length := by
  obtain ⟨_, _, rfl⟩ := (rNum_iff e he s n r).1 h
  simp
  omega
theorem rInt_shorter {e : UInt8} (he : 57 < e.toNat) {s : List UInt8} {n : Int} {r : List UInt8} (h : rInt e s = some (n, r)) : r.length < s.length := by
  obtain ⟨_, rfl⟩ := (rInt_iff e he s n r).1 h
  simp
  omega

/-! ### Texts -/
theorem rText_iff (s t r : List UInt8) : rText s = some (t, r) ↔ InR t.length ∧ s = eText t ++ r := by
  unfold rText
  constructor
  · intro h
    cases hn : rNum 58 s with
    | none => rw [hn] at h; cases h
    | some p =>
      obtain ⟨n, q⟩ := p
      rw [hn] at h
      simp only [Option.bind_some] at h
      obtain ⟨h0, h1, h2⟩ := (rNum_iff 58 (by decide) s n q).1 hn
      by_cases hq : q[n.toNat]? = some 44
      · rw [if_pos hq] at h
        injection h with h
        injection h with h3 h4
        obtain ⟨hlt, hget⟩ := List.getElem?_eq_some_iff.1 hq
        have hl : t.length = n.toNat := by rw [← h3, List.length_take]; omega
        refine ⟨by rw [hl]; unfold InR at *; omega, ?_⟩
        unfold eText
        rw [hl, Int.toNat_of_nonneg h0, h2]
        have : q = t ++ 44 :: r := by
          rw [← h3, ← h4]
          conv => lhs; rw [← List.take_append_drop n.toNat q]
          rw [List.drop_eq_getElem_cons hlt, hget]
        rw [this]
        simp
      · rw [if_neg hq] at h; cases h
  · rintro ⟨h, rfl⟩
    have e1 : eText t ++ r = Lib.itoa (t.length : Int) ++ 58 :: (t ++ 44 :: r) := by unfold eText; simp
    rw [e1, (rNum_iff 58 (by decide) _ (t.length : Int) (t ++ 44 :: r)).2 ⟨by omega, h, rfl⟩]
    simp
theorem rText_shorter {s t r : List UInt8} (h : rText s = some (t, r)) : r.length < s.length := by
  obtain ⟨_, rfl⟩ := (rText_iff s t r).1 h
  simp [eText]
  omega

/-! ### Lists -/
section
variable {α : Type} {p : List UInt8 → Option (α × List UInt8)} {enc : α → List UInt8} {ok : α → Prop}

theorem rMany_iff (hp : ∀ s a r, p s = some (a, r) ↔ ok a ∧ s = enc a ++ r) : ∀ (k : Nat) (s : List UInt8) (l : List α) (r : List UInt8), rMany p k s = some (l, r) ↔ l.length = k ∧ (∀ a ∈ l, ok a) ∧ s = l.flatMap enc ++ r := by
  intro k
  induction k with
  | zero =>
    intro s l r
    simp only [rMany, Option.some.injEq, Prod.mk.injEq]
    constructor
    · rintro ⟨rfl, rfl⟩; simp
    · rintro ⟨h, _, h2⟩
      have := List.eq_nil_of_length_eq_zero h
      subst this
      simp at h2
      exact ⟨rfl, h2⟩
  | succ k ih =>
    intro s l r
    simp only [rMany]
    constructor
    · intro h
      cases hm : rMany p k s with
      | none => rw [hm] at h; cases h
      | some q =>
        obtain ⟨l0, r0⟩ := q
        rw [hm] at h
        simp only [Option.bind_some] at h
        cases hx : p r0 with
        | none => rw [hx] at h; cases h
        | some x =>
          obtain ⟨a, r1⟩ := x
          rw [hx] at h
          simp only [Option.map_some, Option.some.injEq, Prod.mk.injEq] at h
          obtain ⟨h1, h2⟩ := h
          subst h1 h2
          obtain ⟨h3, h4, h5⟩ := (ih s l0 r0).1 hm
          obtain ⟨h6, h7⟩ := (hp r0 a r1).1 hx
          refine ⟨by simp [h3], fun y hy => ?_, by rw [h5, h7]; simp⟩
          rcases List.mem_append.1 hy with hy | hy
          · exact h4 y hy
          · simp only [List.mem_singleton] at hy; subst hy; exact h6
    · rintro ⟨h1, h2, h3⟩
      have hne : l ≠ [] := by intro h; subst h; simp at h1
      obtain ⟨l0, a, rfl⟩ : ∃ l0 a, l = l0 ++ [a] := ⟨l.dropLast, l.getLast hne, (List.dropLast_concat_getLast hne).symm⟩
      simp only [List.length_append, List.length_singleton] at h1
      rw [(ih s l0 (enc a ++ r)).2 ⟨by omega, fun y hy => h2 y (by simp [hy]), by rw [h3]; simp⟩]
      simp only [Option.bind_some]
      rw [(hp (enc a ++ r) a r).2 ⟨h2 a (by simp), rfl⟩]
      rfl
theorem rMany_none {k n : Nat} {s : List UInt8} (h : rMany p k s = none) (hk : k ≤ n) : rMany p n s = none := by
  induction n with
  | zero =>
    have : k = 0 := by omega
    subst this; exact h
  | succ n ih =>
    by_cases hn : k = n + 1
    · subst hn; exact h
    · simp only [rMany, ih (by omega)]; rfl
theorem rMany_short (hs : ∀ s a r, p s = some (a, r) → r.length < s.length) : ∀ (k : Nat) (s : List UInt8) (l : List α) (r : List UInt8), rMany p k s = some (l, r) → l.length = k ∧ r.length + k ≤ s.length := by
  intro k
  induction k with
  | zero =>
    intro s l r h
    simp only [rMany, Option.some.injEq, Prod.mk.injEq] at h
    obtain ⟨rfl, rfl⟩ := h
    simp
  | succ k ih =>
    intro s l r h
    simp only [rMany] at h
    cases hm : rMany p k s with
    | none => rw [hm] at h; cases h
    | some q =>
      obtain ⟨l0, r0⟩ := q
      rw [hm] at h
      simp only [Option.bind_some] at h
      cases hx : p r0 with
      | none => rw [hx] at h; cases h
      | some x =>
        obtain ⟨a, r1⟩ := x
        rw [hx] at h
        simp only [Option.map_some, Option.some.injEq, Prod.mk.injEq] at h
        obtain ⟨h1, h2⟩ := h
        subst h1 h2
        have h3 := ih s l0 r0 hm
        have h4 := hs r0 a r1 hx
        simp only [List.length_append, List.length_singleton]
        omega
theorem rClose_iff (e : UInt8) (s r : List UInt8) : rClose e s = some r ↔ s = e :: r := by
  cases s with
  | nil => simp [rClose]
  | cons b q =>
    simp only [rClose]
    by_cases hb : b = e
    · rw [if_pos hb]; subst hb; simp
    · rw [if_neg hb]; simp [hb]
theorem rList_iff (hp : ∀ s a r, p s = some (a, r) ↔ ok a ∧ s = enc a ++ r) (s : List UInt8) (l : List α) (r : List UInt8) : rList p s = some (l, r) ↔ InR l.length ∧ (∀ a ∈ l, ok a) ∧ s = eList enc l ++ r := by
  unfold rList
  constructor
  · intro h
    cases hn : rNum 91 s with
    | none => rw [hn] at h; cases h
    | some q =>
      obtain ⟨n, s1⟩ := q
      rw [hn] at h
      simp only [Option.bind_some] at h
      cases hm : rMany p n.toNat s1 with
      | none => rw [hm] at h; cases h
      | some x =>
        obtain ⟨l0, s2⟩ := x
        rw [hm] at h
        simp only [Option.bind_some] at h
        cases hc : rClose 93 s2 with
        | none => rw [hc] at h; cases h
        | some r0 =>
          rw [hc] at h
          simp only [Option.map_some, Option.some.injEq, Prod.mk.injEq] at h
          obtain ⟨h1, h2⟩ := h
          subst h1 h2
          obtain ⟨g0, g1, g2⟩ := (rNum_iff 91 (by decide) s n s1).1 hn
          obtain ⟨g3, g4, g5⟩ := (rMany_iff hp n.toNat s1 l0 s2).1 hm
          have g6 := (rClose_iff 93 s2 r0).1 hc
          refine ⟨by rw [g3]; unfold InR at *; omega, g4, ?_⟩
          unfold eList
          rw [g3, Int.toNat_of_nonneg g0, g2, g5, g6]
          simp
  · rintro ⟨h1, h2, rfl⟩
    have e1 : eList enc l ++ r = Lib.itoa (l.length : Int) ++ 91 :: (l.flatMap enc ++ 93 :: r) := by unfold eList; simp
    rw [e1, (rNum_iff 91 (by decide) _ (l.length : Int) (l.flatMap enc ++ 93 :: r)).2 ⟨by omega, h1, rfl⟩]
    simp only [Option.bind_some]
    rw [(rMany_iff hp _ _ l (93 :: r)).2 ⟨by simp, h2, rfl⟩]
    simp [rClose]
end
theorem rInt59_iff (s : List UInt8) (n : Int) (r : List UInt8) : rInt 59 s = some (n, r) ↔ InR n ∧ s = eInt n ++ r := by
  rw [rInt_iff 59 (by decide)]
  unfold eInt
  simp
end Go.Proofs.Ytmgpfkckafdbmaa.Wire
