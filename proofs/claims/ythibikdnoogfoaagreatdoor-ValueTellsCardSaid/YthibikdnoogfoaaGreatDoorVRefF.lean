/-
  The reference's ParseRow: what holds at every place of the string (no program in it).
-/
import Derived.Test.YthibikdnoogfoaaGreatDoorVRefE
import Derived.Test.YthibikdnoogfoaaGreatDoorVRefC
namespace Go.Proofs.YthibikdnoogfoaaGreatDoor
open Go Go.RowKit Go.Sort Wire Txt Vl

def preL (l : List V) : List UInt8 := if l = [] then [] else sep
/-- Behind the values l the next text begins at a. -/
def RInv (s : List UInt8) (l : List V) (a : Nat) : Prop := (∀ v ∈ l, Rt v) ∧ ∀ x, s = 40 :: (x ++ [41]) → ∃ r, a = 1 + (body l ++ preL l).length ∧ Front x l (preL l ++ r)
def SepAt (s : List UInt8) (j : Nat) : Prop := s[j]? = some 44 ∧ s[j + 1]? = some 32
def LastAt (s : List UInt8) (j : Nat) : Prop := s[j]? = some 41 ∧ j + 1 = s.length
/-- From a on, no place before i ends a text. -/
def Miss (s : List UInt8) (a i : Nat) : Prop := ∀ j, a ≤ j → j < i → SepAt s j ∨ LastAt s j → parseV ((s.take j).drop a) = none
theorem RInv.start (s : List UInt8) : RInv s [] 1 := ⟨by simp, fun x _ => ⟨x, by simp [body_nil, preL], by simpa [preL] using Front.start x⟩⟩
theorem Miss.start (s : List UInt8) (a : Nat) : Miss s a a := fun j h1 h2 => by omega
theorem Miss.less {s : List UInt8} {a i : Nat} (h : i < a) : Miss s a i := fun j h1 h2 => by omega
theorem Miss.skip {s : List UInt8} {a i : Nat} (h : Miss s a i) (hn : SepAt s i ∨ LastAt s i → a ≤ i → parseV ((s.take i).drop a) = none) : Miss s a (i + 1) := by
  intro j h1 h2 h3
  by_cases hj : j = i
  · subst hj; exact hn h3 h1
  · exact h j h1 (by omega) h3
theorem drop_part (s : List UInt8) (a i : Nat) (h : a ≤ i) (hi : i ≤ s.length) : s.drop a = (s.take i).drop a ++ s.drop i := by
  have h1 : (s.take i ++ s.drop i).drop a = (s.take i).drop a ++ s.drop i := by
    rw [List.drop_append_of_le_length]
    simp; omega
  rw [List.take_append_drop] at h1
  exact h1
theorem inv_drop {s x r : List UInt8} {l : List V} {a : Nat} (hx : s = 40 :: (x ++ [41])) (ha : a = 1 + (body l ++ preL l).length) (hf : Front x l (preL l ++ r)) : s.drop a = r ++ [41] := by
  have e : s = (40 :: (body l ++ preL l)) ++ (r ++ [41]) := by rw [hx, hf.2.1]; simp
  rw [e, ha]
  have e2 : 1 + (body l ++ preL l).length = (40 :: (body l ++ preL l)).length := by simp; omega
  rw [e2, List.drop_left]
theorem RInv.atSep {s : List UInt8} {l : List V} {a i : Nat} {v : V} (h : RInv s l a) (hs : SepAt s i) (hai : a ≤ i) (hp : parseV ((s.take i).drop a) = some v) : RInv s (l ++ [v]) (i + 2) := by
  obtain ⟨hv1, hv2, hv3⟩ := parseV_some hp
  have hv : Rt v := ⟨hv1, hv2⟩
  refine ⟨fun u hu => ?_, fun x hx => ?_⟩
  · rw [List.mem_append] at hu
    rcases hu with hu | hu
    · exact h.1 u hu
    · simp at hu; subst hu; exact hv
  · obtain ⟨r, ha, hf⟩ := h.2 x hx
    have hi : i < s.length := (List.getElem?_eq_some_iff.1 hs.1).1
    have hd := inv_drop hx ha hf
    rw [drop_part s a i hai (by omega), ← hv3, drop_get hs.1, drop_get hs.2] at hd
    obtain ⟨q, hq⟩ : ∃ q, r = showV v ++ (44 :: 32 :: q) := by
      rcases List.eq_nil_or_concat (s.drop (i + 1 + 1)) with h0 | ⟨q, y, h0⟩
      · rw [h0] at hd
        have hd' : (showV v ++ [44]) ++ [32] = r ++ [41] := by rw [← hd]; simp
        have := (List.append_inj' hd' rfl).2
        simp at this
      · rw [h0] at hd
        have hd' : (showV v ++ 44 :: 32 :: q) ++ [y] = r ++ [41] := by rw [← hd]; simp
        exact ⟨q, (List.append_inj' hd' rfl).1.symm⟩
    have hst : stepP (if l = [] then [] else sep) (preL l ++ r) = some (v, 44 :: 32 :: q) := by rw [hq]; exact stepP_of _ v _ hv (Or.inr rfl)
    have hne : preL l ++ r ≠ [] := by rw [hq]; simp
    have hpre : preL (l ++ [v]) = sep := by unfold preL; rw [if_neg (by simp)]
    have hlen : (showV v).length = i - a := by rw [hv3]; simp; omega
    refine ⟨q, ?_, ?_⟩
    · have h1 : (body (l ++ [v])).length = (body l ++ preL l).length + (showV v).length := by rw [body_snoc]; simp [preL]; omega
      have h2 : (body (l ++ [v]) ++ sep).length = (body (l ++ [v])).length + 2 := by rw [List.length_append]; rfl
      rw [hpre]
      omega
    · rw [hpre]; exact hf.step hne hst
theorem RInv.atEnd {s : List UInt8} {l : List V} {a i : Nat} {v : V} (h : RInv s l a) (h0 : s.head? = some 40) (hs : LastAt s i) (hai : a ≤ i) (hi1 : 1 ≤ i) (hp : parseV ((s.take i).drop a) = some v) : RowText s (l ++ [v]) := by
  obtain ⟨hv1, hv2, hv3⟩ := parseV_some hp
  have hv : Rt v := ⟨hv1, hv2⟩
  obtain ⟨x, hx⟩ : ∃ x, s = 40 :: (x ++ [41]) := by
    cases s with
    | nil => simp at h0
    | cons c y =>
      simp at h0
      subst h0
      rcases List.eq_nil_or_concat y with h1 | ⟨x, z, h1⟩
      · subst h1; have := hs.2; simp at this; omega
      · have h2 : y[y.length - 1]? = some 41 := by
          obtain ⟨j, rfl⟩ : ∃ j, i = j + 1 := ⟨i - 1, by omega⟩
          have h3 := hs.1
          have h4 := hs.2
          simp at h3 h4
          rw [show y.length - 1 = j by omega]; exact h3
        rw [h1] at h2
        simp at h2
        exact ⟨x, by rw [h1, h2]; simp⟩
  obtain ⟨r, ha, hf⟩ := h.2 x hx
  have hi : i < s.length := by have := hs.2; omega
  have hd := inv_drop hx ha hf
  have hend : s.drop (i + 1) = [] := List.drop_eq_nil_iff.2 (by have := hs.2; omega)
  rw [drop_part s a i hai (by omega), ← hv3, drop_get hs.1, hend] at hd
  have hr : showV v = r := (List.append_inj' hd rfl).1
  have hall : ∀ u ∈ l ++ [v], Rt u := by
    intro u hu
    rw [List.mem_append] at hu
    rcases hu with hu | hu
    · exact h.1 u hu
    · simp at hu; subst hu; exact hv
  rw [hx]
  refine rowText_of hall x ?_
  rw [body_snoc, hf.2.1, hr]
  rfl
theorem RInv.over {s : List UInt8} {l : List V} {a : Nat} (h : RInv s l a) (hm : Miss s a s.length) (hs : s ≠ [40, 41]) (L : List V) : ¬ RowText s L := by
  intro hL
  have hx := rowText_body hL
  obtain ⟨r, ha, hf⟩ := h.2 _ hx
  have hne : preL l ++ r ≠ [] := by
    intro h0
    have h1 := hf.2.1
    rw [h0] at h1
    have hl : l = [] := by
      by_cases hl : l = []
      · exact hl
      · have : preL l = sep := by unfold preL; rw [if_neg hl]
        rw [this] at h0
        simp [sep] at h0
    subst hl
    rw [body_nil] at h1
    rw [h1] at hx
    exact hs hx
  obtain ⟨v, t, rfl, hv, hr⟩ := hf.front hL.1 rfl hne
  have hr' : r = showV v ++ tailOf t := List.append_cancel_left (show preL l ++ r = preL l ++ (showV v ++ tailOf t) from hr)
  have hd := inv_drop hx ha hf
  rw [hr'] at hd
  have hal : a ≤ s.length := by
    have : s.length - a = (showV v ++ tailOf t ++ [41]).length := by rw [← hd]; simp
    simp at this
    omega
  have hj : ∀ k, s[a + k]? = (showV v ++ tailOf t ++ [41])[k]? := fun k => by rw [← hd, List.getElem?_drop]
  have hlen : s.length = a + (showV v ++ tailOf t ++ [41]).length := by rw [← hd]; simp; omega
  have hsub : (s.take (a + (showV v).length)).drop a = showV v := by
    rw [List.drop_take, hd, List.append_assoc, show a + (showV v).length - a = (showV v).length by omega, List.take_left]
  have hbad := hm (a + (showV v).length) (by omega) (by rw [hlen]; simp) (by
    cases t with
    | nil =>
      right
      refine ⟨?_, ?_⟩
      · rw [hj]; simp [tailOf_nil]
      · rw [hlen]; simp [tailOf_nil]; omega
    | cons u t =>
      left
      refine ⟨?_, ?_⟩
      · rw [hj]; simp [tailOf_cons, sep]
      · rw [Nat.add_assoc, hj]; simp [tailOf_cons, sep])
  rw [hsub, parseV_show v hv.1 hv.2] at hbad
  cases hbad
end Go.Proofs.YthibikdnoogfoaaGreatDoor
