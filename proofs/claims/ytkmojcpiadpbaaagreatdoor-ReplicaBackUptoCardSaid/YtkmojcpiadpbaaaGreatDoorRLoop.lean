/-
  The loops of a replica, one turn at a time.
-/
import Derived.Test.YtkmojcpiadpbaaaGreatDoorRModel
namespace Go.Proofs.YtkmojcpiadpbaaaGreatDoor
namespace Rp

/-- Entries of which the first k are looked at: what is left to look at. -/
theorem sound_cons (x : Rec) (l : List Rec) (least most : Int) : sound (x :: l) least most = if x.t < least ∨ most < x.t ∨ 2000 < x.d.length then false else sound l x.t most := rfl
theorem sound_turn {L : List Rec} {k : Nat} {least most : Int} (h : k < L.length) : sound (L.drop k) least most = if L[k].t < least ∨ most < L[k].t ∨ 2000 < L[k].d.length then false else sound (L.drop (k + 1)) L[k].t most := by
  rw [List.drop_eq_getElem_cons h, sound_cons]
theorem sound_end {L : List Rec} {k : Nat} (h : L.length ≤ k) (least most : Int) : sound (L.drop k) least most = true := by rw [List.drop_of_length_le h]; rfl
/-- The commit number, when the numbers up to N are looked at. -/
theorem best_low {l : List Rec} {t mm c : Int} : ∀ {N : Nat}, (N : Int) ≤ c → best l t mm c N = c
  | 0, _ => rfl
  | n + 1, h => by
    unfold best
    rw [if_neg (fun w => by have := w.1; push_cast at h; omega)]
    exact best_low (by push_cast at h; omega)
theorem best_turn {l : List Rec} {t mm c : Int} {n : Nat} (h : c < (n : Int) + 1) : best l t mm c (n + 1) = if tAt l (n + 1) = t ∧ (n : Int) + 1 ≤ mm then (n : Int) + 1 else best l t mm c n := by
  conv => lhs; unfold best
  by_cases w : tAt l (n + 1) = t ∧ (n : Int) + 1 ≤ mm
  · rw [if_pos ⟨h, w⟩, if_pos w]
  · rw [if_neg (fun q => w q.2), if_neg w]
/-- The entries that agree, when the first k of them do. -/
theorem agree_turn {l rs : List Rec} {i0 k : Nat} (h : k < rs.length) : agree l (i0 + k) (rs.drop k) = if i0 + k + 1 ≤ l.length ∧ tAt l (i0 + k + 1) = rs[k].t then agree l (i0 + (k + 1)) (rs.drop (k + 1)) + 1 else 0 := by
  rw [List.drop_eq_getElem_cons h]
  rfl
theorem agree_end {l rs : List Rec} {i0 k : Nat} (h : rs.length ≤ k) : agree l (i0 + k) (rs.drop k) = 0 := by rw [List.drop_of_length_le h]; rfl
/-- What the loop finds. -/
theorem agree_stop {l rs : List Rec} {i0 k : Nat} (h : agree l i0 rs = k + agree l (i0 + k) (rs.drop k)) : (k < rs.length → i0 + k + 1 ≤ l.length → tAt l (i0 + k + 1) = (rs[k]?.map (·.t)).getD 0 → agree l i0 rs = (k + 1) + agree l (i0 + (k + 1)) (rs.drop (k + 1))) ∧
    (¬ (k < rs.length ∧ i0 + k + 1 ≤ l.length ∧ tAt l (i0 + k + 1) = (rs[k]?.map (·.t)).getD 0) → agree l i0 rs = k) := by
  refine ⟨fun h1 h2 h3 => ?_, fun hn => ?_⟩
  · rw [List.getElem?_eq_getElem h1] at h3
    have h3 : tAt l (i0 + k + 1) = rs[k].t := h3
    rw [h, agree_turn h1, if_pos ⟨h2, h3⟩]
    omega
  · by_cases h1 : k < rs.length
    · rw [h, agree_turn h1, if_neg (fun w => hn ⟨h1, w.1, by rw [List.getElem?_eq_getElem h1]; exact w.2⟩)]
      rfl
    · rw [h, agree_end (by omega)]
      rfl
theorem agree_le : ∀ (l : List Rec) (j : Nat) (rs : List Rec), agree l j rs ≤ rs.length
  | _, _, [] => Nat.le_refl _
  | l, j, x :: xs => by
    unfold agree
    split
    · have := agree_le l (j + 1) xs
      rw [List.length_cons]; omega
    · exact Nat.zero_le _
/-- The entry k of a log, as a program reads it. -/
theorem tI_in {l : List Rec} {n : Int} (h1 : 1 ≤ n) (h2 : n ≤ (l.length : Int)) : tI l n = (l[n.toNat - 1]'(by omega)).t := by
  unfold tI tAt
  rw [if_pos h1, if_neg (by omega), List.getElem?_eq_getElem (by omega)]
  rfl
theorem tI_out {l : List Rec} {n : Int} (h : n < 1 ∨ (l.length : Int) < n) : tI l n = 0 := by
  unfold tI
  split
  · unfold tAt
    rw [if_neg (by omega), List.getElem?_eq_none (by omega)]
    rfl
  · rfl
theorem lastT_tI (l : List Rec) : lastT l = tI l (l.length : Int) := by
  unfold lastT tI
  split
  · rw [Int.toNat_natCast]
  · next h =>
    have : l.length = 0 := by omega
    rw [this]; rfl
theorem cnt_turn (f : Int → Bool) : cnt f = (if f 0 = true then 1 else 0) + (if f 1 = true then 1 else 0) + (if f 2 = true then 1 else 0) := rfl
end Rp
end Go.Proofs.YtkmojcpiadpbaaaGreatDoor
