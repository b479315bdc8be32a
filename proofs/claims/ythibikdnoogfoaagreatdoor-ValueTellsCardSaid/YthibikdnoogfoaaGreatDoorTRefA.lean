/-
  The reference of layer 2: Decimal and Int return what chapter 2 says; of what was there nothing has turned.
-/
import Derived.Test.YthibikdnoogfoaaGreatDoorTQuote
import Derived.Test.YthibikdnoogfoaaGreatDoorTUnq
namespace Go.Proofs.YthibikdnoogfoaaGreatDoor
open Go Go.RowKit Go.Sort Wire Txt

theorem neg_rem10 (u : Nat) : (-(u : Int)).tmod 10 = -((u % 10 : Nat) : Int) := by
  rw [Int.neg_tmod, Int.tmod_eq_emod_of_nonneg (by omega)]
  omega
theorem neg_quo10 (u : Nat) : (-(u : Int)).tdiv 10 = -((u / 10 : Nat) : Int) := by
  rw [Int.neg_tdiv, Int.tdiv_eq_ediv_of_nonneg (by omega)]
  omega
theorem byteOf (u : Nat) (h : u < 10) : ((UInt8.ofNat (48 + u)).toNat : Int) = 48 + (u : Int) := by rw [UInt8.toNat_ofNat']; omega
theorem conv_one (w : World) (z : Int) (c : UInt8) (h : (c.toNat : Int) = z) : (convert 45 9 (.slice (some ⟨w.heap.size, 0, none⟩) 1 1)).run Tryz.prog (w.alloc (.cells #[.int .u8 z] 5)) = .ok (.string ⟨#[c]⟩) (w.alloc (.cells #[.int .u8 z] 5)) := by
  have h := run_convert_bytes_back (P := Tryz.prog) (w.alloc (.cells #[.int .u8 z] 5)) 45 9 5 ⟨w.heap.size, 0, none⟩ 1 [c] Tryz.underlying45 Tryz.underlying5 Tryz.underlying9 (fun j hj => by
    match j, hj with
    | 0, _ =>
      rw [Lib.add_plain, Lib.cell_of_heap (heap_alloc_new w _)]
      simp [h])
  exact h

theorem itoa_small (u : Nat) (h : u < 10) : Lib.itoa (u : Int) = [UInt8.ofNat (48 + u)] := by
  rw [Wire.itoa_nonneg _ (by omega), Int.toNat_natCast, Lib.decDigits_one h]
theorem itoa_big (u : Nat) (h : ¬ u < 10) : Lib.itoa (u : Int) = Lib.itoa ((u / 10 : Nat) : Int) ++ Lib.itoa ((u % 10 : Nat) : Int) := by
  rw [itoa_small (u % 10) (by omega), Wire.itoa_nonneg _ (by omega), Wire.itoa_nonneg _ (by omega), Int.toNat_natCast, Int.toNat_natCast, Wire.decDigits_step u h]
theorem itoa_minus (u : Nat) (h : 0 < u) : Lib.itoa (-(u : Int)) = 45 :: Lib.itoa (u : Int) := by
  rw [Wire.itoa_neg _ (by omega), Wire.itoa_nonneg _ (by omega), Int.toNat_natCast, Int.natAbs_neg, Int.natAbs_natCast]
theorem itoa_minus_big (u : Nat) (h : ¬ u < 10) : Lib.itoa (-(u : Int)) = Lib.itoa (-((u / 10 : Nat) : Int)) ++ Lib.itoa ((u % 10 : Nat) : Int) := by
  rw [itoa_minus u (by omega), itoa_minus (u / 10) (by omega), itoa_big u h]
  rfl

set_option maxHeartbeats 1000000 in
set_option maxRecDepth 100000 in
theorem decimalR_small (u : Nat) (h : u < 10) (n : Int) (hn : n = u) (w : World) :
    Calls Tryz.prog 51 #[.int .i64 n] w fun e w' => e = .returned (.string ⟨(Lib.itoa u).toArray⟩) ∧ Below w.heap.size w w' := by
  obtain ⟨c, hc⟩ : ∃ c, c = UInt8.ofNat (48 + u) := ⟨_, rfl⟩
  have hcv := conv_one w (48 + n) c (by rw [hc, hn]; exact byteOf u h)
  have HI := Lib.hid (show Lib.itoa (u : Int) = [c] by rw [hc]; exact itoa_small u h)
  have h0 : 0 ≤ n := by omega
  have h1 : n < 10 := by omega
  clear hc hn
  go_enter Tryz.func51, Tryz.ntmps51
  go_wp2_with fail
  go_ret
  exact ⟨ret_str (by rw [HI.out]), (Below.refl _ _).alloc (Nat.le_refl _) _⟩
set_option maxHeartbeats 1000000 in
set_option maxRecDepth 100000 in
theorem decimalR_pos : ∀ (u : Nat), u ≤ 9223372036854775808 → ∀ (n : Int), n = u → n ≤ 9223372036854775807 → ∀ (w : World),
    Calls Tryz.prog 51 #[.int .i64 n] w fun e w' => e = .returned (.string ⟨(Lib.itoa u).toArray⟩) ∧ Below w.heap.size w w' := by
  intro u
  induction u using Nat.strongRecOn with
  | _ u ih =>
    intro hu n hn hub w
    by_cases h : u < 10
    · exact decimalR_small u h n hn w
    · have hi := itoa_big u h
      have k1 := ih (u / 10) (by omega) (by omega) (n / 10) (by omega) (by omega)
      have k2 := decimalR_small (u % 10) (by omega) (n % 10) (by omega)
      have hl1 := itoa_len (((u / 10 : Nat)) : Int) (by unfold InR; omega)
      have hl2 := itoa_len (((u % 10 : Nat)) : Int) (by unfold InR; omega)
      obtain ⟨A, hA⟩ : ∃ A, A = Lib.itoa ((u / 10 : Nat) : Int) := ⟨_, rfl⟩
      obtain ⟨B, hB⟩ : ∃ B, B = Lib.itoa ((u % 10 : Nat) : Int) := ⟨_, rfl⟩
      rw [← hA] at hi k1 hl1
      rw [← hB] at hi k2 hl2
      have HI := Lib.hid hi
      have H1 := Lib.hid k1
      have H2 := Lib.hid k2
      clear ih hi k1 k2 hA hB
      have h0 : 0 ≤ n := by omega
      have h1 : ¬ n < 10 := by omega
      have h2 : 0 < n := by omega
      clear hn
      go_enter Tryz.func51, Tryz.ntmps51
      go_wp2_with fail
      refine (H1.out _).mono ?_
      rintro e w1 ⟨rfl, hb1⟩
      go_wp2_with fail
      refine (H2.out _).mono ?_
      rintro e w2 ⟨rfl, hb2⟩
      go_wp2_with fail
      go_ret
      exact ⟨ret_str (by rw [HI.out]; exact str_add _ _), chain hb1 hb2⟩
set_option maxHeartbeats 1000000 in
set_option maxRecDepth 100000 in
theorem decimalR_neg : ∀ (u : Nat), 0 < u → u ≤ 9223372036854775808 → ∀ (n : Int), n = -(u : Int) → ∀ (w : World),
    Calls Tryz.prog 51 #[.int .i64 n] w fun e w' => e = .returned (.string ⟨(Lib.itoa (-(u : Int))).toArray⟩) ∧ Below w.heap.size w w' := by
  intro u
  induction u using Nat.strongRecOn with
  | _ u ih =>
    intro hu0 hu n hn w
    have hb0 : -9223372036854775808 ≤ n := by omega
    have hb1 : n < 0 := by omega
    by_cases h : u < 10
    · have HI := Lib.hid (itoa_minus u hu0)
      have H1 := Lib.hid (decimalR_small u h (-n) (by omega))
      have hl1 := itoa_len (u : Int) (by unfold InR; omega)
      have hgt : -10 < n := by omega
      clear ih hn
      go_enter Tryz.func51, Tryz.ntmps51
      go_wp2_with fail
      refine (H1.out _).mono ?_
      rintro e w1 ⟨rfl, hb1⟩
      go_wp2_with fail
      go_ret
      exact ⟨ret_str (by rw [HI.out]; exact str_add [45] _), hb1⟩
    · have hi := itoa_minus_big u h
      have hm : n.tmod 10 = -((u % 10 : Nat) : Int) := by rw [hn]; exact neg_rem10 u
      have hq : n.tdiv 10 = -((u / 10 : Nat) : Int) := by rw [hn]; exact neg_quo10 u
      have k1 := ih (u / 10) (by omega) (by omega) (by omega) (n.tdiv 10) hq
      have k2 := decimalR_small (u % 10) (by omega) (-n.tmod 10) (by omega)
      have hl1 := itoa_len (-((u / 10 : Nat) : Int)) (by unfold InR; omega)
      have hl2 := itoa_len (((u % 10 : Nat)) : Int) (by unfold InR; omega)
      obtain ⟨A, hA⟩ : ∃ A, A = Lib.itoa (-((u / 10 : Nat) : Int)) := ⟨_, rfl⟩
      obtain ⟨B, hB⟩ : ∃ B, B = Lib.itoa ((u % 10 : Nat) : Int) := ⟨_, rfl⟩
      rw [← hA] at hi k1 hl1
      rw [← hB] at hi k2 hl2
      have HI := Lib.hid hi
      have H1 := Lib.hid k1
      have H2 := Lib.hid k2
      have hm0 : -9 ≤ n.tmod 10 := by omega
      have hm1 : n.tmod 10 ≤ 0 := by omega
      have hgt : ¬ -10 < n := by omega
      clear ih hn hm hq hi k1 k2 hA hB
      go_enter Tryz.func51, Tryz.ntmps51
      go_wp2_with fail
      refine (H1.out _).mono ?_
      rintro e w1 ⟨rfl, hb1⟩
      go_wp2_with fail
      refine (H2.out _).mono ?_
      rintro e w2 ⟨rfl, hb2⟩
      go_wp2_with fail
      go_ret
      exact ⟨ret_str (by rw [HI.out]; exact str_add _ _), chain hb1 hb2⟩
theorem decimalR_c (n : Int) (h : InR n) (w : World) : Calls Tryz.prog 51 #[.int .i64 n] w fun e w' => e = .returned (.string ⟨(Lib.itoa n).toArray⟩) ∧ Below w.heap.size w w' := by
  obtain ⟨h0, h1⟩ := h
  by_cases hn : n < 0
  · have := decimalR_neg n.natAbs (by omega) (by omega) n (by omega) w
    have e : -((n.natAbs : Nat) : Int) = n := by omega
    rw [e] at this
    exact this
  · have := decimalR_pos n.toNat (by omega) n (by omega) h1 w
    have e : ((n.toNat : Nat) : Int) = n := by omega
    rw [e] at this
    exact this
end Go.Proofs.YthibikdnoogfoaaGreatDoor
