/-
  Chapter 3 as functions on lists of bytes and values: encodings, their readers, the order of values and of rows; and what follows of the definitions. Nothing of the program stands here. No condition.
-/
import Derived.Test.YtmgpfkckafdbmaaTPlain
import Derived.Lib.Bytealg
import Derived.Lib.Small
namespace Go.Proofs.Ytmgpfkckafdbmaa.Vl
open Go Wire

/-- A value: its kind, its number, its text. -/
structure V where
  k : Int
  n : Int
  s : List UInt8

theorem V.ext_iff' (a b : V) : a = b ↔ a.k = b.k ∧ a.n = b.n ∧ a.s = b.s := by
  cases a
  cases b
  simp
instance : DecidableEq V := fun a b => decidable_of_iff _ (V.ext_iff' a b).symm

/-- The parts are ints of Go, and the text has a length. -/
def Fits (v : V) : Prop := InR v.k ∧ InR v.n ∧ InR v.s.length

/-! ### Encodings -/
def vbytes (v : V) : List UInt8 := eInt v.k ++ eInt v.n ++ eText v.s
def rdV (s : List UInt8) : Option (V × List UInt8) := (rInt 59 s).bind fun p => (rInt 59 p.2).bind fun q => (rText q.2).map fun t => (⟨p.1, q.1, t.1⟩, t.2)
def readV (s : List UInt8) : Option V := (rdV s).bind fun p => if p.2 = [] then some p.1 else none
def rbytes (l : List V) : List UInt8 := eInt l.length ++ l.flatMap vbytes
def readR (s : List UInt8) : Option (List V) := (rNum 59 s).bind fun p => (rMany rdV p.1.toNat p.2).bind fun q => if q.2 = [] then some q.1 else none

theorem rdV_iff (s : List UInt8) (v : V) (r : List UInt8) : rdV s = some (v, r) ↔ Fits v ∧ s = vbytes v ++ r := by
  unfold rdV
  constructor
  · intro h
    cases h1 : rInt 59 s with
    | none => rw [h1] at h; cases h
    | some p =>
      obtain ⟨a, s1⟩ := p
      rw [h1] at h
      simp only [Option.bind_some] at h
      cases h2 : rInt 59 s1 with
      | none => rw [h2] at h; cases h
      | some q =>
        obtain ⟨b, s2⟩ := q
        rw [h2] at h
        simp only [Option.bind_some] at h
        cases h3 : rText s2 with
        | none => rw [h3] at h; cases h
        | some t =>
          obtain ⟨c, s3⟩ := t
          rw [h3] at h
          simp only [Option.map_some, Option.some.injEq, Prod.mk.injEq] at h
          obtain ⟨h4, h5⟩ := h
          subst h4 h5
          have g1 := (rInt59_iff s a s1).1 h1
          have g2 := (rInt59_iff s1 b s2).1 h2
          have g3 := (rText_iff s2 c s3).1 h3
          refine ⟨⟨g1.1, g2.1, g3.1⟩, ?_⟩
          rw [g1.2, g2.2, g3.2]
          simp [vbytes]
  · rintro ⟨⟨f1, f2, f3⟩, rfl⟩
    obtain ⟨k, n, t⟩ := v
    have e : vbytes ⟨k, n, t⟩ ++ r = eInt k ++ (eInt n ++ (eText t ++ r)) := by simp [vbytes]
    rw [e, (rInt59_iff _ k (eInt n ++ (eText t ++ r))).2 ⟨f1, rfl⟩]
    simp only [Option.bind_some]
    rw [(rInt59_iff _ n (eText t ++ r)).2 ⟨f2, rfl⟩]
    simp only [Option.bind_some]
    rw [(rText_iff _ t r).2 ⟨f3, rfl⟩]
    rfl
theorem rdV_shorter {s : List UInt8} {v : V} {r : List UInt8} (h : rdV s = some (v, r)) : r.length < s.length := by
  obtain ⟨_, rfl⟩ := (rdV_iff s v r).1 h
  simp [vbytes, eText]
  omega
theorem readV_iff (s : List UInt8) (v : V) : readV s = some v ↔ Fits v ∧ s = vbytes v := by
  unfold readV
  constructor
  · intro h
    cases h1 : rdV s with
    | none => rw [h1] at h; cases h
    | some p =>
      obtain ⟨a, r⟩ := p
      rw [h1] at h
      simp only [Option.bind_some] at h
      by_cases hr : r = []
      · rw [if_pos hr] at h
        injection h with h
        subst h hr
        have := (rdV_iff s a []).1 h1
        simpa using this
      · rw [if_neg hr] at h; cases h
  · rintro ⟨h, rfl⟩
    have := (rdV_iff (vbytes v) v []).2 ⟨h, by simp⟩
    rw [this]
    rfl
theorem readR_iff (s : List UInt8) (l : List V) : readR s = some l ↔ InR l.length ∧ (∀ v ∈ l, Fits v) ∧ s = rbytes l := by
  unfold readR
  constructor
  · intro h
    cases h1 : rNum 59 s with
    | none => rw [h1] at h; cases h
    | some p =>
      obtain ⟨n, s1⟩ := p
      rw [h1] at h
      simp only [Option.bind_some] at h
      cases h2 : rMany rdV n.toNat s1 with
      | none => rw [h2] at h; cases h
      | some q =>
        obtain ⟨l0, s2⟩ := q
        rw [h2] at h
        simp only [Option.bind_some] at h
        by_cases hr : s2 = []
        · rw [if_pos hr] at h
          injection h with h
          subst h hr
          obtain ⟨g0, g1, g2⟩ := (rNum_iff 59 (by decide) s n s1).1 h1
          obtain ⟨g3, g4, g5⟩ := (rMany_iff rdV_iff n.toNat s1 l0 []).1 h2
          refine ⟨by rw [g3]; unfold InR at *; omega, g4, ?_⟩
          unfold rbytes eInt
          rw [g3, Int.toNat_of_nonneg g0, g2, g5]
          simp
        · rw [if_neg hr] at h; cases h
  · rintro ⟨h1, h2, rfl⟩
    have e : rbytes l = Lib.itoa (l.length : Int) ++ 59 :: (l.flatMap vbytes) := by unfold rbytes eInt; simp
    rw [e, (rNum_iff 59 (by decide) _ (l.length : Int) (l.flatMap vbytes)).2 ⟨by omega, h1, rfl⟩]
    simp only [Option.bind_some]
    rw [(rMany_iff rdV_iff _ _ l []).2 ⟨by simp, h2, by simp⟩]
    rfl
theorem readV_bytes {v : V} (h : Fits v) : readV (vbytes v) = some v := (readV_iff _ _).2 ⟨h, rfl⟩
theorem vbytes_inj {a b : V} (ha : Fits a) (hb : Fits b) : vbytes a = vbytes b ↔ a = b := by
  constructor
  · intro h
    have h1 := readV_bytes ha
    rw [h, readV_bytes hb] at h1
    injection h1 with h1
    exact h1.symm
  · rintro rfl; rfl
theorem rbytes_inj {a b : List V} (la : InR a.length) (lb : InR b.length) (ha : ∀ v ∈ a, Fits v) (hb : ∀ v ∈ b, Fits v) : rbytes a = rbytes b ↔ a = b := by
  constructor
  · intro h
    have h1 := (readR_iff (rbytes a) a).2 ⟨la, ha, rfl⟩
    rw [h, (readR_iff (rbytes b) b).2 ⟨lb, hb, rfl⟩] at h1
    injection h1 with h1
    exact h1.symm
  · rintro rfl; rfl
theorem vbytes_len (v : V) (h : Fits v) : (vbytes v).length ≤ 64 + v.s.length := by
  have h1 := itoa_len v.k h.1
  have h2 := itoa_len v.n h.2.1
  have h3 := itoa_len v.s.length h.2.2
  simp only [vbytes, eInt, eText, List.length_append, List.length_singleton]
  omega
theorem flatMap_bound {α β : Type} (f : α → List β) (m : Nat) (l : List α) (h : ∀ a ∈ l, (f a).length ≤ m) : (l.flatMap f).length ≤ m * l.length := by
  induction l with
  | nil => simp
  | cons a l ih =>
    rw [List.flatMap_cons, List.length_append, List.length_cons, Nat.mul_succ]
    have h1 := h a (by simp)
    have h2 := ih (fun b hb => h b (by simp [hb]))
    omega
theorem rbytes_len (l : List V) (m : Nat) (hl : InR l.length) (h : ∀ v ∈ l, Fits v ∧ v.s.length ≤ m) : (rbytes l).length ≤ 21 + (64 + m) * l.length := by
  have h1 := itoa_len l.length hl
  have h2 := flatMap_bound vbytes (64 + m) l (fun v hv => by
    have := vbytes_len v (h v hv).1
    have := (h v hv).2
    omega)
  simp only [rbytes, eInt, List.length_append, List.length_singleton]
  omega

/-! ### Orders -/
/-- A comparison of a total order: -1, 0, 1. -/
structure Tot {α : Type} (c : α → α → Int) : Prop where
  lo : ∀ a b, c a b = -1 ∨ c a b = 0 ∨ c a b = 1
  eq : ∀ a b, c a b = 0 ↔ a = b
  anti : ∀ a b, c b a = - c a b
  trans : ∀ a b d, c a b = -1 → c b d = -1 → c a d = -1
theorem Tot.self {α : Type} {c : α → α → Int} (h : Tot c) (a : α) : c a a = 0 := (h.eq a a).2 rfl
theorem Tot.le_trans {α : Type} {c : α → α → Int} (h : Tot c) {a b d : α} (h1 : c a b ≤ 0) (h2 : c b d ≤ 0) : c a d ≤ 0 := by
  rcases h.lo a b with e1 | e1 | e1
  · rcases h.lo b d with e2 | e2 | e2
    · have := h.trans a b d e1 e2; omega
    · rw [← (h.eq b d).1 e2]; omega
    · omega
  · rw [(h.eq a b).1 e1]; exact h2
  · omega
theorem Tot.lt_trans {α : Type} {c : α → α → Int} (h : Tot c) {a b d : α} (h1 : c a b ≤ 0) (h2 : c b d ≤ 0) (h3 : c a b < 0 ∨ c b d < 0) : c a d < 0 := by
  rcases h.lo a b with e1 | e1 | e1
  · rcases h.lo b d with e2 | e2 | e2
    · have := h.trans a b d e1 e2; omega
    · rw [← (h.eq b d).1 e2]; omega
    · omega
  · rw [(h.eq a b).1 e1]; omega
  · omega
theorem Tot.pull {α β : Type} {c : α → α → Int} (h : Tot c) (f : β → α) (hf : ∀ x y, f x = f y → x = y) : Tot (fun x y => c (f x) (f y)) :=
  ⟨fun a b => h.lo _ _, fun a b => ⟨fun e => hf _ _ ((h.eq _ _).1 e), fun e => by rw [e]; exact h.self _⟩, fun a b => h.anti _ _, fun a b d => h.trans _ _ _⟩
theorem Tot.pair {α β : Type} {c : α → α → Int} {d : β → β → Int} (h : Tot c) (k : Tot d) : Tot (fun (x y : α × β) => if c x.1 y.1 ≠ 0 then c x.1 y.1 else d x.2 y.2) := by
  refine ⟨fun a b => ?_, fun a b => ?_, fun a b => ?_, fun a b e => ?_⟩
  · split
    · exact h.lo _ _
    · exact k.lo _ _
  · obtain ⟨a1, a2⟩ := a
    obtain ⟨b1, b2⟩ := b
    simp only [Prod.mk.injEq]
    by_cases hc : c a1 b1 = 0
    · rw [if_neg (by simp [hc]), k.eq, (h.eq _ _).1 hc]
      simp
    · rw [if_pos hc]
      constructor
      · intro h0; exact absurd h0 hc
      · rintro ⟨h1, _⟩; exact (h.eq _ _).2 h1
  · have e1 := h.anti a.1 b.1
    have e2 := k.anti a.2 b.2
    by_cases hc : c a.1 b.1 = 0
    · rw [if_neg (by simp [e1, hc]), if_neg (by simp [hc]), e2]
    · rw [if_pos (by omega), if_pos hc, e1]
  · obtain ⟨a1, a2⟩ := a
    obtain ⟨b1, b2⟩ := b
    obtain ⟨e1, e2⟩ := e
    simp only
    by_cases h1 : c a1 b1 = 0
    · have := (h.eq _ _).1 h1
      subst this
      rw [if_neg (by simp [h1])]
      by_cases h2 : c a1 e1 = 0
      · rw [if_neg (by simp [h2]), if_neg (by simp [h2])]
        exact k.trans _ _ _
      · rw [if_pos h2, if_pos h2]
        intro _ h; exact h
    · rw [if_pos h1]
      by_cases h2 : c b1 e1 = 0
      · have := (h.eq _ _).1 h2
        subst this
        rw [if_neg (by simp [h2]), if_pos h1]
        intro h _; exact h
      · rw [if_pos h2]
        intro g1 g2
        have := h.trans _ _ _ g1 g2
        rw [if_pos (by omega)]
        exact this
/-- The order of the first elements that differ; if there are none, the shorter list comes first. -/
def lex {α : Type} (c : α → α → Int) : List α → List α → Int
  | [], [] => 0
  | [], _ :: _ => -1
  | _ :: _, [] => 1
  | a :: x, b :: y => if c a b ≠ 0 then c a b else lex c x y
theorem Tot.lex {α : Type} {c : α → α → Int} (h : Tot c) : Tot (lex c) := by
  refine ⟨fun a => ?_, fun a => ?_, fun a => ?_, fun a => ?_⟩
  · induction a with
    | nil => intro b; cases b <;> simp [Vl.lex]
    | cons x a ih =>
      intro b
      cases b with
      | nil => simp [Vl.lex]
      | cons y b =>
        simp only [Vl.lex]
        split
        · exact h.lo _ _
        · exact ih b
  · induction a with
    | nil => intro b; cases b <;> simp [Vl.lex]
    | cons x a ih =>
      intro b
      cases b with
      | nil => simp [Vl.lex]
      | cons y b =>
        simp only [Vl.lex, List.cons.injEq]
        by_cases hc : c x y = 0
        · rw [if_neg (by simp [hc]), ih b, (h.eq _ _).1 hc]
          simp
        · rw [if_pos hc]
          constructor
          · intro h0; exact absurd h0 hc
          · rintro ⟨h1, _⟩; exact (h.eq _ _).2 h1
  · induction a with
    | nil => intro b; cases b <;> simp [Vl.lex]
    | cons x a ih =>
      intro b
      cases b with
      | nil => simp [Vl.lex]
      | cons y b =>
        simp only [Vl.lex]
        have e1 := h.anti x y
        by_cases hc : c x y = 0
        · rw [if_neg (by simp [e1, hc]), if_neg (by simp [hc]), ih b]
        · rw [if_pos (by omega), if_pos hc, e1]
  · induction a with
    | nil =>
      intro b d
      cases b with
      | nil => simp [Vl.lex]
      | cons y b => cases d <;> simp [Vl.lex]
    | cons x a ih =>
      intro b d
      cases b with
      | nil => simp [Vl.lex]
      | cons y b =>
        cases d with
        | nil => simp [Vl.lex]
        | cons z d =>
          simp only [Vl.lex]
          by_cases h1 : c x y = 0
          · have := (h.eq _ _).1 h1
            subst this
            rw [if_neg (by simp [h1])]
            by_cases h2 : c x z = 0
            · rw [if_neg (by simp [h2]), if_neg (by simp [h2])]
              exact ih _ _
            · rw [if_pos h2, if_pos h2]
              intro _ h; exact h
          · rw [if_pos h1]
            by_cases h2 : c y z = 0
            · have := (h.eq _ _).1 h2
              subst this
              rw [if_neg (by simp [h2]), if_pos h1]
              intro h _; exact h
            · rw [if_pos h2]
              intro g1 g2
              have := h.trans _ _ _ g1 g2
              rw [if_pos (by omega)]
              exact this
/-- Where the lists have begun alike, the first elements that differ decide. -/
theorem lex_at {α : Type} {c : α → α → Int} (h : Tot c) : ∀ (i : Nat) (a b : List α) (x y : α), a.take i = b.take i → a[i]? = some x → b[i]? = some y → lex c a b = if c x y ≠ 0 then c x y else lex c (a.drop (i + 1)) (b.drop (i + 1)) := by
  intro i
  induction i with
  | zero =>
    intro a b x y _ ha hb
    cases a with
    | nil => cases ha
    | cons p a =>
      cases b with
      | nil => cases hb
      | cons q b =>
        simp at ha hb
        subst ha hb
        simp [Vl.lex]
  | succ i ih =>
    intro a b x y ht ha hb
    cases a with
    | nil => cases ha
    | cons p a =>
      cases b with
      | nil => cases hb
      | cons q b =>
        simp only [List.take_succ_cons, List.cons.injEq] at ht
        simp only [List.getElem?_cons_succ] at ha hb
        have := ih a b x y ht.2 ha hb
        obtain ⟨rfl, _⟩ := ht
        simp only [Vl.lex, List.drop_succ_cons, ne_eq]
        rw [if_neg (by simp [h.self p])]
        exact this
theorem lex_behind {α : Type} {c : α → α → Int} : ∀ (a b t : List α) (i : Nat) (x y : α), a[i]? = some x → b[i]? = some y → c x y ≠ 0 → lex c (a ++ t) b = lex c a b := by
  intro a
  induction a with
  | nil => intro b t i x y h; cases h
  | cons p a ih =>
    intro b t i x y hx hy hc
    cases b with
    | nil => cases hy
    | cons q b =>
      simp only [List.cons_append, Vl.lex]
      by_cases h0 : c p q = 0
      · rw [if_neg (by simp [h0]), if_neg (by simp [h0])]
        cases i with
        | zero => simp at hx hy; subst hx hy; exact absurd h0 hc
        | succ i => exact ih b t i x y (by simpa using hx) (by simpa using hy) hc
      · rw [if_pos h0, if_pos h0]
theorem lex_longer {α : Type} {c : α → α → Int} (h : Tot c) (a t : List α) (ht : t ≠ []) : lex c a (a ++ t) = -1 := by
  induction a with
  | nil =>
    cases t with
    | nil => exact absurd rfl ht
    | cons x t => simp [Vl.lex]
  | cons p a ih =>
    simp only [List.cons_append, Vl.lex]
    rw [if_neg (by simp [h.self p]), ih]
theorem lex_end {α : Type} {c : α → α → Int} (h : Tot c) (p a b : List α) : lex c (p ++ a) (p ++ b) = lex c a b := by
  induction p with
  | nil => rfl
  | cons x p ih =>
    simp only [List.cons_append, Vl.lex]
    rw [if_neg (by simp [h.self x]), ih]
theorem tot_int : Tot Lib.compareInt := by
  refine ⟨fun a b => ?_, fun a b => ?_, fun a b => ?_, fun a b d => ?_⟩
  · unfold Lib.compareInt; split <;> (try split) <;> omega
  · unfold Lib.compareInt
    split
    · constructor <;> intro h <;> omega
    · split
      · constructor <;> intro h <;> omega
      · constructor <;> intro h <;> omega
  · unfold Lib.compareInt; split <;> split <;> (try split) <;> (try split) <;> omega
  · unfold Lib.compareInt; split <;> split <;> split <;> (try split) <;> (try split) <;> (try split) <;> omega
def cmpU (a b : UInt8) : Int := Lib.compareInt a.toNat b.toNat
theorem tot_u8 : Tot cmpU := tot_int.pull (fun a : UInt8 => (a.toNat : Int)) (fun x y h => UInt8.toNat_inj.1 (by omega))
theorem cmpU_lt {x y : UInt8} (h : x < y) : cmpU x y = -1 := by
  have := UInt8.lt_iff_toNat_lt.1 h
  unfold cmpU Lib.compareInt
  rw [if_pos (by omega)]
theorem cmpU_gt {x y : UInt8} (h : y < x) : cmpU x y = 1 := by
  have := UInt8.lt_iff_toNat_lt.1 h
  unfold cmpU Lib.compareInt
  rw [if_neg (by omega), if_pos (by omega)]
theorem u8_eq {x y : UInt8} (h1 : ¬ x < y) (h2 : ¬ y < x) : x = y := by
  apply UInt8.toNat_inj.1
  have g1 : ¬ x.toNat < y.toNat := fun h => h1 (UInt8.lt_iff_toNat_lt.2 h)
  have g2 : ¬ y.toNat < x.toNat := fun h => h2 (UInt8.lt_iff_toNat_lt.2 h)
  omega
theorem bytes_lex : ∀ (a b : List UInt8), Lib.compareBytes a b = lex cmpU a b
  | [], [] => rfl
  | [], _ :: _ => rfl
  | _ :: _, [] => rfl
  | x :: a, y :: b => by
    unfold Lib.compareBytes Vl.lex
    rw [← bytes_lex a b]
    by_cases h1 : x < y
    · rw [if_pos h1, cmpU_lt h1]
      simp
    · rw [if_neg h1]
      by_cases h2 : y < x
      · rw [if_pos h2, cmpU_gt h2]
        simp
      · obtain rfl := u8_eq h1 h2
        rw [if_neg h2, tot_u8.self]
        simp
theorem tot_bytes : Tot Lib.compareBytes := by
  have : Lib.compareBytes = lex cmpU := by funext a b; exact bytes_lex a b
  rw [this]
  exact tot_u8.lex
theorem bytes_less : ∀ (a b : List UInt8), Go.Op.bytesLess a b = decide (Lib.compareBytes a b < 0)
  | [], [] => rfl
  | [], _ :: _ => rfl
  | _ :: _, [] => rfl
  | x :: a, y :: b => by
    have ih := bytes_less a b
    unfold Go.Op.bytesLess Lib.compareBytes
    by_cases h1 : x < y
    · simp [h1]
    · by_cases h2 : y < x
      · simp [h1, h2]
        try (intro h3; subst h3; exact absurd h2 h1)
      · obtain rfl := u8_eq h1 h2
        simp [h1, ih]
/-- The order of values. -/
def cmpV (a b : V) : Int := if Lib.compareInt a.k b.k ≠ 0 then Lib.compareInt a.k b.k else if Lib.compareInt a.n b.n ≠ 0 then Lib.compareInt a.n b.n else Lib.compareBytes a.s b.s
theorem tot_v : Tot cmpV := (tot_int.pair (tot_int.pair tot_bytes)).pull (fun v : V => (v.k, v.n, v.s)) (fun x y h => by
  simp only [Prod.mk.injEq] at h
  exact (V.ext_iff' x y).2 h)
theorem cmpV_k {a b : V} (h : a.k ≠ b.k) : cmpV a b = Lib.compareInt a.k b.k := by
  unfold cmpV
  rw [if_pos (fun h0 => h ((tot_int.eq _ _).1 h0))]
theorem cmpV_n {a b : V} (h : a.k = b.k) (h2 : a.n ≠ b.n) : cmpV a b = Lib.compareInt a.n b.n := by
  unfold cmpV
  rw [if_neg (by simp [(tot_int.eq _ _).2 h]), if_pos (fun h0 => h2 ((tot_int.eq _ _).1 h0))]
theorem cmpV_s {a b : V} (h : a.k = b.k) (h2 : a.n = b.n) : cmpV a b = Lib.compareBytes a.s b.s := by
  unfold cmpV
  rw [if_neg (by simp [(tot_int.eq _ _).2 h]), if_neg (by simp [(tot_int.eq _ _).2 h2])]
def cmpR : List V → List V → Int := lex cmpV
theorem tot_r : Tot cmpR := tot_v.lex
end Go.Proofs.Ytmgpfkckafdbmaa.Vl
