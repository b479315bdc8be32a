/-
  size, within and matches of package text: each returns what chapter 2 says; of what was there nothing has turned.
-/
import Derived.Test.YthibikdnoogfoaaGreatDoorTInt
namespace Go.Proofs.YthibikdnoogfoaaGreatDoor
open Go Go.RowKit Go.Sort Wire Txt

theorem at0 (c : UInt8) (r : List UInt8) : (⟨(c :: r).toArray⟩ : ByteArray)[0]'(by show 0 < (c :: r).toArray.size; simp) = c := rfl
theorem at1 (a c : UInt8) (r : List UInt8) : (⟨(a :: c :: r).toArray⟩ : ByteArray)[1]'(by show 1 < (a :: c :: r).toArray.size; simp) = c := rfl
theorem at2 (a b c : UInt8) (r : List UInt8) : (⟨(a :: b :: c :: r).toArray⟩ : ByteArray)[2]'(by show 2 < (a :: b :: c :: r).toArray.size; simp) = c := rfl
theorem beq_no {a b : Int} (h : a ≠ b) : (a == b) = false := by simpa using h

def strLen : Value → Nat
  | .string s => s.size
  | _ => 0
theorem below_drew {B : Nat} {w w' : World} (h : Below B w w') (k : Nat) : Below B w (w'.drewN k) := ⟨h.os, h.tape, h.output, h.size, h.block⟩
theorem str_ne_nil (a : UInt8) (r : List UInt8) : (a :: r == ([] : List UInt8)) = false := by simp

theorem within_hit (c a : UInt8) (s : List UInt8) (h : (∀ d b r, s = d :: b :: r → d.toNat ≠ 45)) (hc : a.toNat ≤ c.toNat ∧ c.toNat ≤ a.toNat) : within c (a :: s) = true := by
  have : a = c := by apply UInt8.toNat_inj.1; omega
  cases s with
  | nil => simp [within, this]
  | cons d s =>
    cases s with
    | nil => rw [within.eq_def]; simp [this]
    | cons b s => rw [within.eq_def]; simp [this, h d b s rfl]
theorem within_miss (c a : UInt8) (s : List UInt8) (h : (∀ d b r, s = d :: b :: r → d.toNat ≠ 45)) (hc : ¬ (a.toNat ≤ c.toNat ∧ c.toNat ≤ a.toNat)) : within c (a :: s) = within c s := by
  have : a ≠ c := by rintro rfl; omega
  cases s with
  | nil => simp [within, this]
  | cons d s =>
    cases s with
    | nil => rw [within.eq_def]; simp [this]
    | cons b s => rw [within.eq_def]; simp [this, h d b s rfl]
theorem within_hit3 (c a d b : UInt8) (s : List UInt8) (h : d.toNat = 45) (hc : a.toNat ≤ c.toNat ∧ c.toNat ≤ b.toNat) : within c (a :: d :: b :: s) = true := by
  rw [within.eq_def]; simp [h, hc]
theorem within_miss3 (c a d b : UInt8) (s : List UInt8) (h : d.toNat = 45) (hc : ¬ (a.toNat ≤ c.toNat ∧ c.toNat ≤ b.toNat)) : within c (a :: d :: b :: s) = within c s := by
  rw [within.eq_def]
  by_cases h1 : a.toNat ≤ c.toNat
  · have : ¬ c.toNat ≤ b.toNat := fun h2 => hc ⟨h1, h2⟩
    simp [h, this]
  · simp [h, h1]

theorem fits_any (c : UInt8) : fits [63] c = true := rfl
theorem fits_byte (x : List UInt8) (c d : UInt8) (h0 : x ≠ [63]) (h1 : x.length ≤ 2) (hd : x.getLast? = some d) : fits x c = decide (d = c) := by
  unfold fits
  rw [if_neg h0, if_pos h1, hd]
  simp
theorem fits_not (x : List UInt8) (c : UInt8) (h1 : 2 < x.length) (h2 : x[1]? = some 33 ∧ 3 < x.length) : fits x c = !within c ((x.drop 2).take (x.length - 3)) := by
  unfold fits
  rw [if_neg (by rintro rfl; simp at h1), if_neg (by omega), if_pos h2]
theorem fits_set (x : List UInt8) (c : UInt8) (h1 : 2 < x.length) (h2 : ¬ (x[1]? = some 33 ∧ 3 < x.length)) : fits x c = within c ((x.drop 1).take (x.length - 2)) := by
  unfold fits
  rw [if_neg (by rintro rfl; simp at h1), if_neg (by omega), if_neg h2]

theorem slice_mid (l : List UInt8) (i j : Int) (h0 : 0 ≤ i) (h1 : i ≤ j) (h2 : j ≤ l.length) (wx : World) :
    (Instr.slice 9 (.string ⟨l.toArray⟩) (some (.int .i64 i)) (some (.int .i64 j)) none).run Tryz.prog wx = .ok (.string ⟨((l.take j.toNat).drop i.toNat).toArray⟩) wx := by
  rw [run_slice_string wx 9 ⟨l.toArray⟩ .i64 .i64 i j Tryz.underlying9 h0 h1 (by rw [ba_size]; exact h2), ba_extract]
theorem byte_beq (a b : UInt8) : ((a.toNat : Int) == (b.toNat : Int)) = decide (a = b) := by
  rw [Bool.eq_iff_iff]
  simp only [beq_iff_eq, decide_eq_true_eq]
  constructor
  · intro h; apply UInt8.toNat_inj.1; omega
  · rintro rfl; rfl
theorem last_at (x : List UInt8) (d : UInt8) (h : x.getLast? = some d) (hl : x.length - 1 < (⟨x.toArray⟩ : ByteArray).size) : (⟨x.toArray⟩ : ByteArray)[x.length - 1] = d := by
  rw [List.getLast?_eq_getElem?] at h
  show x.toArray[x.length - 1]'hl = d
  rw [List.getElem_toArray]
  exact (List.getElem?_eq_some_iff.1 h).2
end Go.Proofs.YthibikdnoogfoaaGreatDoor
