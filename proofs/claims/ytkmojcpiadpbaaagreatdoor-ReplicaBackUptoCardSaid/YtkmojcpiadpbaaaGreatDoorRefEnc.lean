/-
  What the reference writes: its digits, Int, Num, Text, Nums and Texts return the encodings of chapter 1.
-/
import Derived.Test.YtkmojcpiadpbaaaGreatDoorRead
namespace Go.Proofs.YtkmojcpiadpbaaaGreatDoor
open Go Go.RowKit Go.Sort Wire

theorem tmod10 (u : Nat) : (-(u : Int)).tmod 10 = -((u % 10 : Nat) : Int) := by
  rw [Int.neg_tmod, Int.tmod_eq_emod_of_nonneg (by omega)]
  omega
theorem tdiv10 (u : Nat) : (-(u : Int)).tdiv 10 = -((u / 10 : Nat) : Int) := by
  rw [Int.neg_tdiv, Int.tdiv_eq_ediv_of_nonneg (by omega)]
  omega

theorem conv_digit (w : World) (u : Nat) : (convert 57 9 (.slice (some ⟨w.heap.size, 0, none⟩) 1 1)).run Tryz.prog (w.alloc (.cells #[.int .u8 (48 + (u : Int) % 10)] 5)) = .ok (.string ⟨#[UInt8.ofNat (48 + u % 10)]⟩) (w.alloc (.cells #[.int .u8 (48 + (u : Int) % 10)] 5)) := by
  have h := run_convert_bytes_back (P := Tryz.prog) (w.alloc (.cells #[.int .u8 (48 + (u : Int) % 10)] 5)) 57 9 5 ⟨w.heap.size, 0, none⟩ 1 [UInt8.ofNat (48 + u % 10)] Tryz.underlying57 Tryz.underlying5 Tryz.underlying9 (fun j hj => by
    match j, hj with
    | 0, _ =>
      rw [Lib.add_plain, Lib.cell_of_heap (heap_alloc_new w _)]
      have := (digit_of (u % 10) (by omega)).2.2
      simp only [List.getElem_cons_zero]
      rw [this]
      simp)
  exact h
set_option maxRecDepth 100000 in
theorem digits_c : ∀ (u : Nat), u ≤ 9223372036854775808 → ∀ (n : Int), n = -(u : Int) → ∀ (w : World),
    Calls Tryz.prog 58 #[.int .i64 n] w fun e w' => e = .returned (.string ⟨(Lib.decDigits u).toArray⟩) ∧ Below w.heap.size w w' := by
  intro u
  induction u using Nat.strongRecOn with
  | _ u ih =>
    intro hu n hn w
    have IH := Lib.hid ih
    clear ih
    have hm : n.tmod 10 = -((u % 10 : Nat) : Int) := by rw [hn]; exact tmod10 u
    have hq : n.tdiv 10 = -((u / 10 : Nat) : Int) := by rw [hn]; exact tdiv10 u
    have h0 : -9223372036854775808 ≤ n := by omega
    have h1 : n ≤ 0 := by omega
    have h10 : ((u % 10 : Nat) : Int) < 10 := by omega
    have hcv := conv_digit w u
    by_cases hs : u < 10
    · have hgt : -10 < n := by omega
      have HD := Lib.hid (Lib.decDigits_one hs)
      have HM := Lib.hid (show u % 10 = u by omega)
      clear hn
      go_enter Tryz.func58, Tryz.ntmps58
      go_wp2_with fail
      go_ret
      refine ⟨ret_str ?_, (Below.refl _ _).alloc (Nat.le_refl _) _⟩
      rw [HD.out]
      have := HM.out
      simp [this]
    · have hgt : ¬ -10 < n := by omega
      have HD := Lib.hid (decDigits_step u hs)
      have hdl : (Lib.decDigits (u / 10)).length ≤ 20 := by
        have h20 := itoa_len (((u / 10 : Nat)) : Int) (by unfold InR; omega)
        rw [Wire.itoa_nonneg _ (by omega)] at h20
        rw [Int.toNat_natCast] at h20
        exact h20
      clear hn
      go_enter Tryz.func58, Tryz.ntmps58
      go_wp2_with fail
      refine (IH.out (u / 10) (by omega) (by omega) _ ?_ _).mono ?_
      · simp
      rintro e w1 ⟨rfl, hb1⟩
      go_wp2_with fail
      go_ret
      refine ⟨ret_str ?_, chain ((Below.refl _ _).alloc (Nat.le_refl _) _) hb1⟩
      rw [HD.out]
      have e := str_add (Lib.decDigits (u / 10)) [UInt8.ofNat (48 + u % 10)]
      simpa using e

theorem itoa_of_nat (m : Nat) : Lib.decDigits m = Lib.itoa (m : Int) := by rw [Wire.itoa_nonneg _ (by omega), Int.toNat_natCast]
theorem cInt_c (n : Int) (h : InR n) (w : World) : Calls Tryz.prog 38 #[.int .i64 n] w fun e w' => e = .returned (.string ⟨(eInt n).toArray⟩) ∧ Below w.heap.size w w' := by
  obtain ⟨h0, h1⟩ := h
  have hl := itoa_len n ⟨h0, h1⟩
  by_cases hn : n < 0
  · have HE := Lib.hid (itoa_neg n hn)
    have HC := Lib.hid (digits_c n.natAbs (by omega) n (by omega))
    have hd : (Lib.decDigits n.natAbs).length ≤ 20 := by have := HE.out; rw [this, List.length_cons] at hl; omega
    go_enter Tryz.func38, Tryz.ntmps38
    go_wp2_with fail
    refine (HC.out _).mono ?_
    rintro e w1 ⟨rfl, hb1⟩
    go_wp2_with fail
    go_ret
    refine ⟨ret_str ?_, hb1⟩
    have e1 := str_add [45] (Lib.decDigits n.natAbs)
    have e2 := str_add ([45] ++ Lib.decDigits n.natAbs) [59]
    unfold eInt
    rw [HE.out]
    rw [e1, e2]
    rfl
  · have HE := Lib.hid (itoa_nonneg n hn)
    have HC := Lib.hid (digits_c n.toNat (by omega) (-n) (by omega))
    have hd : (Lib.decDigits n.toNat).length ≤ 20 := by have := HE.out; rw [this] at hl; exact hl
    go_enter Tryz.func38, Tryz.ntmps38
    go_wp2_with fail
    refine (HC.out _).mono ?_
    rintro e w1 ⟨rfl, hb1⟩
    go_wp2_with fail
    go_ret
    refine ⟨ret_str ?_, hb1⟩
    unfold eInt
    rw [HE.out]
    exact str_add _ _
theorem cNum_c (n : Int) (h : InR n) (w : World) : Calls Tryz.prog 39 #[.int .i64 n] w fun e w' => e = .returned (.string ⟨(eNum n).toArray⟩) ∧ Below w.heap.size w w' := by
  by_cases hn : n < 0
  · go_enter Tryz.func39, Tryz.ntmps39
    go_wp2_with fail
    go_ret
    exact ⟨ret_str (by unfold eNum; rw [if_pos hn]), Below.refl _ _⟩
  · go_enter Tryz.func39, Tryz.ntmps39
    go_wp2_with fail
    refine (cInt_c n h _).mono ?_
    rintro e w1 ⟨rfl, hb⟩
    go_wp2_with fail
    go_ret
    exact ⟨ret_str (by unfold eNum; rw [if_neg (by omega)]), hb⟩
theorem cText_c (s : List UInt8) (hs : s.length ≤ 1000000000000) (w : World) : Calls Tryz.prog 59 #[.string ⟨s.toArray⟩] w fun e w' => e = .returned (.string ⟨(eText s).toArray⟩) ∧ Below w.heap.size w w' := by
  have hin : InR (s.length : Int) := by unfold InR; omega
  have hl := itoa_len s.length hin
  have HC := Lib.hid (digits_c s.length (by omega) (-(s.length : Int)) rfl)
  have HI := Lib.hid (itoa_of_nat s.length)
  have hd : (Lib.decDigits s.length).length ≤ 20 := by rw [HI.out]; exact hl
  go_enter Tryz.func59, Tryz.ntmps59
  go_wp2_with fail
  refine (HC.out _).mono ?_
  rintro e w1 ⟨rfl, hb⟩
  go_wp2_with fail
  go_ret
  refine ⟨ret_str ?_, hb⟩
  rw [str_add, str_add, str_add, HI.out]
  rfl

end Go.Proofs.YtkmojcpiadpbaaaGreatDoor
