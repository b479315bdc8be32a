/-
  Chapter 3 as functions on lists of bytes and values: right values, the texts of values and of rows, and where a value's text ends. Nothing of the program stands here. No condition.
-/
import Derived.Test.YtmgpfkckafdbmaaVPlain
import Derived.Lib.Join
namespace Go.Proofs.Ytmgpfkckafdbmaa.Vl
open Go Wire Txt

/-! ### Right values -/
def rightV (v : V) : Bool := decide ((v.k = 0 ∧ v.s = []) ∨ (v.k = 1 ∧ v.n = 0 ∧ v.s.length ≤ 200) ∨ (v.k = 2 ∧ v.s = [] ∧ (v.n = 0 ∨ v.n = 1)))
def rightR (l : List V) : Bool := decide (l.length ≤ 12) && l.all rightV
theorem rightV_iff (v : V) : rightV v = true ↔ (v.k = 0 ∧ v.s = []) ∨ (v.k = 1 ∧ v.n = 0 ∧ v.s.length ≤ 200) ∨ (v.k = 2 ∧ v.s = [] ∧ (v.n = 0 ∨ v.n = 1)) := by
  unfold rightV
  rw [decide_eq_true_eq]

/-! ### Texts of values -/
def tTrue : List UInt8 := [116, 114, 117, 101]
def tFalse : List UInt8 := [102, 97, 108, 115, 101]
def showV (v : V) : List UInt8 := if rightV v = true then (if v.k = 0 then Lib.itoa v.n else if v.k = 1 then quote v.s else if v.n = 1 then tTrue else tFalse) else []
def parseV (s : List UInt8) : Option V :=
  if s = tTrue then some ⟨2, 1, []⟩ else if s = tFalse then some ⟨2, 0, []⟩ else match readDig s with
    | some n => some ⟨0, n, []⟩
    | none => match unquote s with
      | some t => if t.length ≤ 200 then some ⟨1, 0, t⟩ else none
      | none => none

theorem itoa_first (n : Int) (c : UInt8) (r : List UInt8) (h : Lib.itoa n = c :: r) : 45 ≤ c.toNat ∧ c.toNat ≤ 57 := by
  have := itoa_byte n c (by rw [h]; simp)
  omega
theorem itoa_true (n : Int) : Lib.itoa n ≠ tTrue := by
  intro h
  have := itoa_first n 116 _ h
  simp at this
theorem itoa_false (n : Int) : Lib.itoa n ≠ tFalse := by
  intro h
  have := itoa_first n 102 _ h
  simp at this
theorem itoa_quote (n : Int) (l : List UInt8) : Lib.itoa n ≠ quote l := by
  intro h
  have := itoa_first n 34 _ h
  simp at this
theorem dig_quote (l : List UInt8) : readDig (quote l) = none := by
  cases h : readDig (quote l) with
  | none => rfl
  | some n => exact absurd ((readDig_iff _ n).1 h).2.symm (itoa_quote n l)
theorem quote_true (l : List UInt8) : quote l ≠ tTrue := by intro h; unfold quote tTrue at h; injection h with h _; simp at h
theorem quote_false (l : List UInt8) : quote l ≠ tFalse := by intro h; unfold quote tFalse at h; injection h with h _; simp at h
theorem parseV_show (v : V) (h : rightV v = true) (hn : InR v.n) : parseV (showV v) = some v := by
  unfold showV
  rw [if_pos h]
  obtain ⟨k, n, s⟩ := v
  rcases (rightV_iff _).1 h with ⟨h1, h2⟩ | ⟨h1, h2, h3⟩ | ⟨h1, h2, h3⟩
  · simp only at h1 h2 hn
    subst h1 h2
    simp only [if_true]
    unfold parseV
    rw [if_neg (itoa_true n), if_neg (itoa_false n), (readDig_iff _ n).2 ⟨hn, rfl⟩]
  · simp only at h1 h2 h3
    subst h1 h2
    rw [if_neg (by simp), if_pos rfl]
    unfold parseV
    rw [if_neg (quote_true s), if_neg (quote_false s), dig_quote, unquote_quote]
    simp only
    rw [if_pos h3]
  · simp only at h1 h2 h3
    subst h1 h2
    rw [if_neg (by simp), if_neg (by simp)]
    rcases h3 with rfl | rfl
    · rw [if_neg (by simp)]
      rfl
    · rw [if_pos rfl]
      rfl
theorem parseV_some {s : List UInt8} {v : V} (h : parseV s = some v) : rightV v = true ∧ InR v.n ∧ showV v = s := by
  unfold parseV at h
  by_cases h1 : s = tTrue
  · rw [if_pos h1] at h
    injection h with h
    subst h h1
    exact ⟨by decide, by unfold InR; simp, by decide⟩
  · rw [if_neg h1] at h
    by_cases h2 : s = tFalse
    · rw [if_pos h2] at h
      injection h with h
      subst h h2
      exact ⟨by decide, by unfold InR; simp, by decide⟩
    · rw [if_neg h2] at h
      cases hd : readDig s with
      | some n =>
        rw [hd] at h
        simp only [Option.some.injEq] at h
        subst h
        obtain ⟨g1, g2⟩ := (readDig_iff s n).1 hd
        have hr : rightV ⟨0, n, []⟩ = true := (rightV_iff _).2 (Or.inl ⟨rfl, rfl⟩)
        refine ⟨hr, g1, ?_⟩
        unfold showV
        rw [if_pos hr, if_pos rfl, g2]
      | none =>
        rw [hd] at h
        simp only at h
        cases hu : unquote s with
        | none => rw [hu] at h; cases h
        | some t =>
          rw [hu] at h
          simp only at h
          by_cases ht : t.length ≤ 200
          · rw [if_pos ht] at h
            injection h with h
            subst h
            have hr : rightV ⟨1, 0, t⟩ = true := (rightV_iff _).2 (Or.inr (Or.inl ⟨rfl, rfl, ht⟩))
            refine ⟨hr, by unfold InR; simp, ?_⟩
            unfold showV
            rw [if_pos hr, if_neg (by simp), if_pos rfl]
            exact (unquote_iff s t).1 hu
          · rw [if_neg ht] at h; cases h
theorem parseV_iff (s : List UInt8) (v : V) : parseV s = some v ↔ rightV v = true ∧ InR v.n ∧ showV v = s :=
  ⟨parseV_some, fun ⟨h1, h2, h3⟩ => by rw [← h3]; exact parseV_show v h1 h2⟩
theorem parseV_nil : parseV [] = none := by
  cases h : parseV [] with
  | none => rfl
  | some v =>
    obtain ⟨h1, _, h3⟩ := parseV_some h
    unfold showV at h3
    rw [if_pos h1] at h3
    split at h3
    · exact absurd h3 (itoa_ne _)
    · split at h3
      · cases h3
      · split at h3 <;> cases h3
theorem showV_ne {v : V} (h : rightV v = true) : showV v ≠ [] := by
  unfold showV
  rw [if_pos h]
  split
  · exact itoa_ne _
  · split
    · intro h; cases h
    · split <;> (intro h; cases h)
theorem showV_wrong {v : V} (h : rightV v = false) : showV v = [] := by unfold showV; rw [if_neg (by simp [h])]
theorem showV_inj {a b : V} (ha : rightV a = true) (hb : rightV b = true) (na : InR a.n) (nb : InR b.n) (h : showV a = showV b) : a = b := by
  have h1 := parseV_show a ha na
  rw [h, parseV_show b hb nb] at h1
  injection h1 with h1
  exact h1.symm
theorem showV_len (v : V) (hn : InR v.n) : (showV v).length ≤ 802 := by
  unfold showV
  split
  · rename_i h
    split
    · have := itoa_len v.n hn; omega
    · split
      · rename_i h0 h1
        have := quote_len v.s
        rcases (rightV_iff v).1 h with ⟨g, _⟩ | ⟨_, _, g⟩ | ⟨g, _⟩
        · exact absurd g h0
        · omega
        · omega
      · split <;> decide
  · simp

/-! ### Where the text of a value ends -/
/-- How many bytes of a quoted string there are, behind the quotation mark that begins it. -/
def qend : List UInt8 → Nat
  | [] => 0
  | c :: r => if c = 92 then (match r with
      | [] => 1
      | _ :: t => 2 + qend t) else if c = 34 then 1 else 1 + qend r
def extent (s : List UInt8) : Nat := match s with
  | [] => 0
  | c :: r => if c = 34 then 1 + qend r else (match cutAt 44 s with
      | some p => p.1.length
      | none => s.length)
theorem qend_bs (d : UInt8) (t : List UInt8) : qend (92 :: d :: t) = 2 + qend t := by rw [qend.eq_def]; simp
theorem qend_last : qend [92] = 1 := by rw [qend.eq_def]; simp
theorem qend_q (t : List UInt8) : qend (34 :: t) = 1 := by rw [qend.eq_def]; simp
theorem qend_plain (c : UInt8) (t : List UInt8) (h1 : c ≠ 92) (h2 : c ≠ 34) : qend (c :: t) = 1 + qend t := by rw [qend.eq_def]; simp [h1, h2]
theorem qend_le_aux : ∀ (n : Nat) (s : List UInt8), s.length ≤ n → qend s ≤ s.length := by
  intro n
  induction n with
  | zero =>
    intro s h
    have : s = [] := List.eq_nil_of_length_eq_zero (by omega)
    subst this
    rw [qend.eq_def]
    simp
  | succ n ih =>
    intro s h
    cases s with
    | nil => rw [qend.eq_def]; simp
    | cons c r =>
      simp only [List.length_cons] at *
      by_cases h1 : c = 92
      · subst h1
        cases r with
        | nil => rw [qend_last]; omega
        | cons d t =>
          simp only [List.length_cons] at *
          have := ih t (by omega)
          rw [qend_bs]
          omega
      · by_cases h2 : c = 34
        · subst h2; rw [qend_q]; omega
        · have := ih r (by omega)
          rw [qend_plain c r h1 h2]
          omega
theorem qend_le (s : List UInt8) : qend s ≤ s.length := qend_le_aux _ s (Nat.le_refl _)
theorem hexd_nq : ∀ n, n < 16 → hexd n ≠ 34 := by decide +kernel
theorem qend_qb (c : UInt8) (r : List UInt8) : qend (qb c ++ r) = (qb c).length + qend r := by
  have hc := c.toNat_lt
  unfold qb
  split
  · rw [List.cons_append, List.cons_append, List.nil_append, qend_bs]; rfl
  · rename_i h1
    split
    · rw [List.cons_append, List.cons_append, List.nil_append, qend_bs]; rfl
    · split
      · have a1 := hexd_ne (c.toNat / 16) (by omega)
        have a2 := hexd_ne (c.toNat % 16) (by omega)
        have b1 := hexd_nq (c.toNat / 16) (by omega)
        have b2 := hexd_nq (c.toNat % 16) (by omega)
        simp only [List.cons_append, List.nil_append]
        rw [qend_bs, qend_plain _ _ a1 b1, qend_plain _ _ a2 b2]
        simp
        omega
      · have a1 : c ≠ 92 := by rintro rfl; simp at h1
        have a2 : c ≠ 34 := by rintro rfl; simp at h1
        rw [List.cons_append, List.nil_append, qend_plain c r a1 a2]
        rfl
theorem qend_quoted (l r : List UInt8) : qend (l.flatMap qb ++ 34 :: r) = (l.flatMap qb).length + 1 := by
  induction l with
  | nil => rw [List.flatMap_nil, List.nil_append, qend_q]; rfl
  | cons c l ih =>
    rw [List.flatMap_cons, List.append_assoc, qend_qb, ih, List.length_append]
    omega
theorem extent_quote (l r : List UInt8) : extent (quote l ++ r) = (quote l).length := by
  have e : quote l ++ r = 34 :: (l.flatMap qb ++ 34 :: r) := by simp [quote]
  rw [e]
  unfold extent
  simp only [if_true]
  rw [qend_quoted]
  simp [quote]
  omega
theorem cutAt_miss' {e : UInt8} {s : List UInt8} (h : e ∉ s) : cutAt e s = none := by
  induction s with
  | nil => rfl
  | cons b l ih =>
    simp only [List.mem_cons, not_or] at h
    simp only [cutAt]
    rw [if_neg (fun hb => h.1 hb.symm), ih h.2]
    rfl
theorem extent_plain (x r : List UInt8) (h0 : x ≠ []) (h1 : x.head? ≠ some 34) (h2 : (44 : UInt8) ∉ x) (h3 : r = [] ∨ r.head? = some 44) : extent (x ++ r) = x.length := by
  cases x with
  | nil => exact absurd rfl h0
  | cons c x =>
    have hc : c ≠ 34 := by simpa using h1
    unfold extent
    simp only [List.cons_append]
    rw [if_neg hc]
    rcases h3 with rfl | h3
    · rw [List.append_nil, cutAt_miss' h2]
    · cases r with
      | nil => simp at h3
      | cons d r =>
        simp only [List.head?_cons, Option.some.injEq] at h3
        subst h3
        have := cutAt_hit 44 (c :: x) r h2
        rw [List.cons_append] at this
        rw [this]
theorem extent_show (v : V) (r : List UInt8) (h : rightV v = true) (h3 : r = [] ∨ r.head? = some 44) : extent (showV v ++ r) = (showV v).length := by
  unfold showV
  rw [if_pos h]
  split
  · refine extent_plain _ _ (itoa_ne _) ?_ ?_ h3
    · intro hh
      cases hi : Lib.itoa v.n with
      | nil => rw [hi] at hh; cases hh
      | cons c t =>
        rw [hi] at hh
        simp only [List.head?_cons, Option.some.injEq] at hh
        subst hh
        have := itoa_first _ _ _ hi
        simp at this
    · intro hm
      have := itoa_byte _ _ hm
      simp at this
  · split
    · exact extent_quote _ _
    · split
      · exact extent_plain _ _ (by decide) (by decide) (by decide) h3
      · exact extent_plain _ _ (by decide) (by decide) (by decide) h3
theorem extent_le (s : List UInt8) : extent s ≤ s.length := by
  cases s with
  | nil => simp [extent]
  | cons c r =>
    unfold extent
    simp only
    by_cases hc : c = 34
    · rw [if_pos hc]
      have := qend_le r
      simp only [List.length_cons]
      omega
    · rw [if_neg hc]
      cases hp : cutAt 44 (c :: r) with
      | some p =>
        obtain ⟨d, q⟩ := p
        rw [(cutAt_some hp).1]
        simp
      | none => exact Nat.le_refl _

/-! ### Texts of rows -/
/-- A right value with an int of Go. -/
def Rt (v : V) : Prop := rightV v = true ∧ InR v.n
def sep : List UInt8 := [44, 32]
def body (l : List V) : List UInt8 := Lib.join (l.map showV) sep
def showR (l : List V) : List UInt8 := if l.all rightV = true then 40 :: (body l ++ [41]) else []
/-- s is the text of the row l. -/
def RowText (s : List UInt8) (l : List V) : Prop := (∀ v ∈ l, Rt v) ∧ showR l = s

theorem showR_all {l : List V} (h : ∀ v ∈ l, rightV v = true) : showR l = 40 :: (body l ++ [41]) := by
  unfold showR
  rw [if_pos (List.all_eq_true.2 h)]
theorem showR_no {l : List V} {v : V} (h : v ∈ l) (hv : rightV v = false) : showR l = [] := by
  unfold showR
  rw [if_neg]
  intro ha
  have := List.all_eq_true.1 ha v h
  rw [hv] at this
  cases this
theorem body_nil : body [] = [] := rfl
theorem body_snoc (l : List V) (v : V) : body (l ++ [v]) = body l ++ ((if l = [] then [] else sep) ++ showV v) := by
  cases l with
  | nil => simp [body, Lib.join_one, Lib.join_nil]
  | cons a l =>
    unfold body
    simp only [List.cons_append, List.map_cons, List.map_append, List.map_nil]
    rw [Lib.join_cons, Lib.join_cons]
    simp [Lib.joinTail]
/-- What stands behind the first values. -/
def tailOf (l : List V) : List UInt8 := (l.map fun v => sep ++ showV v).flatten
theorem tailOf_nil : tailOf [] = [] := rfl
theorem tailOf_cons (v : V) (l : List V) : tailOf (v :: l) = sep ++ showV v ++ tailOf l := by simp [tailOf]
theorem tailOf_head (l : List V) : tailOf l = [] ∨ (tailOf l).head? = some 44 := by
  cases l with
  | nil => left; rfl
  | cons v l => right; rw [tailOf_cons]; rfl
theorem body_split (a : List V) (v : V) (b : List V) : body (a ++ v :: b) = body a ++ ((if a = [] then [] else sep) ++ (showV v ++ tailOf b)) := by
  cases a with
  | nil =>
    unfold body
    simp only [List.nil_append, List.map_cons, List.map_nil]
    rw [Lib.join_cons, Lib.join_nil]
    simp [Lib.joinTail, tailOf, List.map_map, Function.comp_def]
  | cons x a =>
    unfold body
    simp only [List.cons_append, List.map_cons, List.map_append]
    rw [Lib.join_cons, Lib.join_cons]
    simp [Lib.joinTail, tailOf, List.map_map, Function.comp_def]
theorem body_one_ne {l : List V} (h : ∀ v ∈ l, Rt v) (hn : body l = []) : l = [] := by
  cases l with
  | nil => rfl
  | cons v l =>
    have := body_split [] v l
    rw [List.nil_append] at this
    rw [this] at hn
    simp [body_nil] at hn
    exact absurd hn.1 (showV_ne (h v (by simp)).1)

/-- One more value: what is before it, its text, and what follows. -/
def stepP (before rest : List UInt8) : Option (V × List UInt8) :=
  if Lib.hasPrefix rest before = true then (parseV ((rest.drop before.length).take (extent (rest.drop before.length)))).map fun v => (v, (rest.drop before.length).drop (extent (rest.drop before.length))) else none
theorem hasPrefix_app (b t : List UInt8) : Lib.hasPrefix (b ++ t) b = true := by
  unfold Lib.hasPrefix
  exact List.isPrefixOf_iff_prefix.2 ⟨t, rfl⟩
theorem hasPrefix_drop {b s : List UInt8} (h : Lib.hasPrefix s b = true) : s = b ++ s.drop b.length := by
  unfold Lib.hasPrefix at h
  obtain ⟨t, rfl⟩ := List.isPrefixOf_iff_prefix.1 h
  simp
theorem stepP_some {b r : List UInt8} {v : V} {r' : List UInt8} (h : stepP b r = some (v, r')) : r = b ++ (showV v ++ r') ∧ Rt v := by
  unfold stepP at h
  by_cases hp : Lib.hasPrefix r b = true
  · rw [if_pos hp] at h
    cases hv : parseV ((r.drop b.length).take (extent (r.drop b.length))) with
    | none => rw [hv] at h; cases h
    | some x =>
      rw [hv] at h
      simp only [Option.map_some, Option.some.injEq, Prod.mk.injEq] at h
      obtain ⟨h1, h2⟩ := h
      subst h1
      obtain ⟨g1, g2, g3⟩ := parseV_some hv
      refine ⟨?_, g1, g2⟩
      rw [g3, ← h2, List.take_append_drop]
      exact hasPrefix_drop hp
  · rw [if_neg hp] at h; cases h
theorem stepP_of (b : List UInt8) (v : V) (t : List UInt8) (h : Rt v) (ht : t = [] ∨ t.head? = some 44) : stepP b (b ++ (showV v ++ t)) = some (v, t) := by
  unfold stepP
  rw [if_pos (hasPrefix_app _ _), List.drop_left, extent_show v t h.1 ht, List.take_left, List.drop_left, parseV_show v h.1 h.2]
  rfl
/-- l is what stands in front of the rest r of the inner text s: and every row with this text begins with l. -/
def Front (s : List UInt8) (l : List V) (r : List UInt8) : Prop := (∀ v ∈ l, Rt v) ∧ s = body l ++ r ∧ ∀ L, (∀ v ∈ L, Rt v) → body L = s → ∃ t, L = l ++ t
theorem Front.start (s : List UInt8) : Front s [] s := ⟨by simp, by simp [body_nil], fun L _ _ => ⟨L, rfl⟩⟩
theorem Front.front {s r : List UInt8} {l L : List V} (h : Front s l r) (hL : ∀ v ∈ L, Rt v) (hb : body L = s) (hr : r ≠ []) : ∃ v t, L = l ++ v :: t ∧ Rt v ∧ r = (if l = [] then [] else sep) ++ (showV v ++ tailOf t) := by
  obtain ⟨t, rfl⟩ := h.2.2 L hL hb
  cases t with
  | nil =>
    rw [List.append_nil] at hb
    have h1 := h.2.1
    rw [← hb] at h1
    have := List.append_cancel_left (as := body l) (bs := []) (cs := r) (by simpa using h1)
    exact absurd this.symm hr
  | cons v t =>
    refine ⟨v, t, rfl, hL v (by simp), ?_⟩
    have h1 := h.2.1
    rw [← hb, body_split] at h1
    exact (List.append_cancel_left h1).symm
theorem Front.step {s r r' : List UInt8} {l : List V} {v : V} (h : Front s l r) (hr : r ≠ []) (hs : stepP (if l = [] then [] else sep) r = some (v, r')) : Front s (l ++ [v]) r' := by
  obtain ⟨h1, h2⟩ := stepP_some hs
  refine ⟨fun x hx => ?_, ?_, fun L hL hb => ?_⟩
  · rcases List.mem_append.1 hx with hx | hx
    · exact h.1 x hx
    · simp only [List.mem_singleton] at hx; subst hx; exact h2
  · rw [body_snoc, h.2.1, h1]
    simp
  · obtain ⟨x, t, rfl, hx, he⟩ := h.front hL hb hr
    have := stepP_of (if l = [] then [] else sep) x (tailOf t) hx (tailOf_head t)
    rw [← he, hs] at this
    simp only [Option.some.injEq, Prod.mk.injEq] at this
    obtain ⟨rfl, _⟩ := this
    exact ⟨t, by simp⟩
theorem Front.stop {s r : List UInt8} {l : List V} (h : Front s l r) (hr : r ≠ []) (hs : stepP (if l = [] then [] else sep) r = none) (L : List V) (hL : ∀ v ∈ L, Rt v) : body L ≠ s := by
  intro hb
  obtain ⟨x, t, rfl, hx, he⟩ := h.front hL hb hr
  have := stepP_of (if l = [] then [] else sep) x (tailOf t) hx (tailOf_head t)
  rw [← he, hs] at this
  cases this
theorem Front.done {s : List UInt8} {l : List V} (h : Front s l []) : body l = s := by rw [h.2.1]; simp
theorem stepP_shorter {b r : List UInt8} {v : V} {r' : List UInt8} (h : stepP b r = some (v, r')) : r'.length < r.length := by
  obtain ⟨h1, h2⟩ := stepP_some h
  have := List.length_pos_iff.2 (showV_ne h2.1)
  rw [h1]
  simp only [List.length_append]
  omega
theorem rowText_body {s : List UInt8} {l : List V} (h : RowText s l) : s = 40 :: (body l ++ [41]) := by
  rw [← h.2, showR_all (fun v hv => (h.1 v hv).1)]
theorem rowText_of {l : List V} (h : ∀ v ∈ l, Rt v) (x : List UInt8) (hb : body l = x) : RowText (40 :: (x ++ [41])) l := ⟨h, by rw [showR_all (fun v hv => (h v hv).1), hb]⟩
theorem body_inj {a : List V} : ∀ {b : List V}, (∀ v ∈ a, Rt v) → (∀ v ∈ b, Rt v) → body a = body b → a = b := by
  have key : ∀ (n : Nat) (a b : List V), a.length ≤ n → (∀ v ∈ a, Rt v) → (∀ v ∈ b, Rt v) → tailOf a = tailOf b → a = b := by
    intro n
    induction n with
    | zero =>
      intro a b hl ha hb h
      have : a = [] := List.eq_nil_of_length_eq_zero (by omega)
      subst this
      cases b with
      | nil => rfl
      | cons y b => rw [tailOf_cons] at h; cases h
    | succ n ih =>
      intro a b hl ha hb h
      cases a with
      | nil =>
        cases b with
        | nil => rfl
        | cons y b => rw [tailOf_cons] at h; cases h
      | cons x a =>
        cases b with
        | nil => rw [tailOf_cons] at h; cases h
        | cons y b =>
          rw [tailOf_cons, tailOf_cons, List.append_assoc, List.append_assoc] at h
          have h1 := stepP_of sep x (tailOf a) (ha x (by simp)) (tailOf_head a)
          rw [h, stepP_of sep y (tailOf b) (hb y (by simp)) (tailOf_head b)] at h1
          simp only [Option.some.injEq, Prod.mk.injEq] at h1
          obtain ⟨rfl, h2⟩ := h1
          rw [ih a b (by simp at hl; omega) (fun v hv => ha v (by simp [hv])) (fun v hv => hb v (by simp [hv])) h2.symm]
  intro b ha hb h
  cases a with
  | nil => exact (body_one_ne hb (by rw [← h]; rfl)).symm
  | cons x a =>
    cases b with
    | nil => exact body_one_ne ha (by rw [h]; rfl)
    | cons y b =>
      have e1 := body_split [] x a
      have e2 := body_split [] y b
      rw [List.nil_append] at e1 e2
      rw [e1, e2] at h
      simp only [body_nil, if_true, List.nil_append] at h
      have h1 := stepP_of [] x (tailOf a) (ha x (by simp)) (tailOf_head a)
      rw [List.nil_append, h] at h1
      have h2 := stepP_of [] y (tailOf b) (hb y (by simp)) (tailOf_head b)
      rw [List.nil_append, h1] at h2
      simp only [Option.some.injEq, Prod.mk.injEq] at h2
      obtain ⟨rfl, h3⟩ := h2
      rw [key a.length a b (Nat.le_refl _) (fun v hv => ha v (by simp [hv])) (fun v hv => hb v (by simp [hv])) h3]
theorem rowText_inj {s : List UInt8} {a b : List V} (ha : RowText s a) (hb : RowText s b) : a = b := by
  have h := rowText_body ha
  rw [rowText_body hb] at h
  injection h with _ h
  exact (body_inj hb.1 ha.1 (List.append_cancel_right h)).symm
theorem rowText_inner {s : List UInt8} {l : List V} (h : RowText (40 :: (s ++ [41])) l) : body l = s := by
  have := rowText_body h
  injection this with _ this
  exact (List.append_cancel_right this).symm
theorem join_le (xs : List (List UInt8)) (m : Nat) (h : ∀ x ∈ xs, x.length ≤ m) : (Lib.join xs sep).length ≤ (m + 2) * xs.length := by
  cases xs with
  | nil => simp [Lib.join_nil]
  | cons x r =>
    rw [Lib.join_cons, List.length_append, List.length_cons, Nat.mul_succ]
    have h1 := h x (by simp)
    have h2 : (Lib.joinTail sep r).length ≤ (m + 2) * r.length := by
      have : Lib.joinTail sep r = r.flatMap (fun y => sep ++ y) := by simp [Lib.joinTail, List.flatMap]
      rw [this]
      refine flatMap_bound _ _ _ (fun y hy => ?_)
      have := h y (by simp [hy])
      simp [sep]
      omega
    omega
theorem body_len (l : List V) (h : ∀ v ∈ l, InR v.n) : (body l).length ≤ 804 * l.length := by
  have := join_le (l.map showV) 802 (fun x hx => by
    obtain ⟨v, hv, rfl⟩ := List.mem_map.1 hx
    exact showV_len v (h v hv))
  simpa [body] using this
end Go.Proofs.Ytmgpfkckafdbmaa.Vl
