/-
  What the reference writes: its digits, Int, Num, Text, Nums and Texts return the encodings of chapter 1.
-/
import Derived.Test.YtlfpelmblpdbjaaDoorValB
namespace Go.Proofs.YtlfpelmblpdbjaaDoor
open Go Go.RowKit Go.Sort Wire

theorem tmod10 (u : Nat) : (-(u : Int)).tmod 10 = -((u % 10 : Nat) : Int) := by
  rw [Int.neg_tmod, Int.tmod_eq_emod_of_nonneg (by omega)]
  omega
theorem tdiv10 (u : Nat) : (-(u : Int)).tdiv 10 = -((u / 10 : Nat) : Int) := by
  rw [Int.neg_tdiv, Int.tdiv_eq_ediv_of_nonneg (by omega)]
  omega

theorem conv_digit (w : World) (u : Nat) : (convert 63 9 (.slice (some ⟨w.heap.size, 0, none⟩) 1 1)).run Tryd.prog (w.alloc (.cells #[.int .u8 (48 + (u : Int) % 10)] 5)) = .ok (.string ⟨#[UInt8.ofNat (48 + u % 10)]⟩) (w.alloc (.cells #[.int .u8 (48 + (u : Int) % 10)] 5)) := by
  have h := run_convert_bytes_back (P := Tryd.prog) (w.alloc (.cells #[.int .u8 (48 + (u : Int) % 10)] 5)) 63 9 5 ⟨w.heap.size, 0, none⟩ 1 [UInt8.ofNat (48 + u % 10)] Tryd.underlying63 Tryd.underlying5 Tryd.underlying9 (fun j hj => by
    match j, hj with
    | 0, _ =>
      rw [Lib.add_plain, Lib.cell_of_heap (heap_alloc_new w _)]
      have := (digit_of (u % 10) (by omega)).2.2
      simp only [List.getElem_cons_zero]
      rw [this]
      simp)
  exact h
set_option maxRecDepth 100000 in
theorem digits_c : ∀ (u : Nat), u ≤ 9223372036854775808 → ∀ (n : Int), n = -(u : Int) → ∀ (w : World),
    Calls Tryd.prog 45 #[.int .i64 n] w fun e w' => e = .returned (.string ⟨(Lib.decDigits u).toArray⟩) ∧ Below w.heap.size w w' := by
  intro u
  induction u using Nat.strongRecOn with
  | _ u ih =>
    intro hu n hn w
    have IH := Lib.hid ih
    clear ih
    have hm : n.tmod 10 = -((u % 10 : Nat) : Int) := by rw [hn]; exact tmod10 u
    have hq : n.tdiv 10 = -((u / 10 : Nat) : Int) := by rw [hn]; exact tdiv10 u
    have h0 : -9223372036854775808 ≤ n := by omega
    have h1 : n ≤ 0 := by omega
    have h10 : ((u % 10 : Nat) : Int) < 10 := by omega
    have hcv := conv_digit w u
    by_cases hs : u < 10
    · have hgt : -10 < n := by omega
      have HD := Lib.hid (Lib.decDigits_one hs)
      have HM := Lib.hid (show u % 10 = u by omega)
      clear hn
      go_enter Tryd.func45, Tryd.ntmps45
      go_wp2_with fail
      go_ret
      refine ⟨ret_str ?_, (Below.refl _ _).alloc (Nat.le_refl _) _⟩
      rw [HD.out]
      have := HM.out
      simp [this]
    · have hgt : ¬ -10 < n := by omega
      have HD := Lib.hid (decDigits_step u hs)
      have hdl : (Lib.decDigits (u / 10)).length ≤ 20 := by
        have h20 := itoa_len (((u / 10 : Nat)) : Int) (by unfold InR; omega)
        rw [Wire.itoa_nonneg _ (by omega)] at h20
        rw [Int.toNat_natCast] at h20
        exact h20
      clear hn
      go_enter Tryd.func45, Tryd.ntmps45
      go_wp2_with fail
      refine (IH.out (u / 10) (by omega) (by omega) _ ?_ _).mono ?_
      · simp
      rintro e w1 ⟨rfl, hb1⟩
      go_wp2_with fail
      go_ret
      refine ⟨ret_str ?_, chain ((Below.refl _ _).alloc (Nat.le_refl _) _) hb1⟩
      rw [HD.out]
      have e := str_add (Lib.decDigits (u / 10)) [UInt8.ofNat (48 + u % 10)]
      simpa using e

theorem itoa_of_nat (m : Nat) : Lib.decDigits m = Lib.itoa (m : Int) := by rw [Wire.itoa_nonneg _ (by omega), Int.toNat_natCast]
theorem cInt_c (n : Int) (h : InR n) (w : World) : Calls Tryd.prog 14 #[.int .i64 n] w fun e w' => e = .returned (.string ⟨(eInt n).toArray⟩) ∧ Below w.heap.size w w' := by
  obtain ⟨h0, h1⟩ := h
  have hl := itoa_len n ⟨h0, h1⟩
  by_cases hn : n < 0
  · have HE := Lib.hid (itoa_neg n hn)
    have HC := Lib.hid (digits_c n.natAbs (by omega) n (by omega))
    have hd : (Lib.decDigits n.natAbs).length ≤ 20 := by have := HE.out; rw [this, List.length_cons] at hl; omega
    go_enter Tryd.func14, Tryd.ntmps14
    go_wp2_with fail
    refine (HC.out _).mono ?_
    rintro e w1 ⟨rfl, hb1⟩
    go_wp2_with fail
    go_ret
    refine ⟨ret_str ?_, hb1⟩
    have e1 := str_add [45] (Lib.decDigits n.natAbs)
    have e2 := str_add ([45] ++ Lib.decDigits n.natAbs) [59]
    unfold eInt
    rw [HE.out]
    rw [e1, e2]
    rfl
  · have HE := Lib.hid (itoa_nonneg n hn)
    have HC := Lib.hid (digits_c n.toNat (by omega) (-n) (by omega))
    have hd : (Lib.decDigits n.toNat).length ≤ 20 := by have := HE.out; rw [this] at hl; exact hl
    go_enter Tryd.func14, Tryd.ntmps14
    go_wp2_with fail
    refine (HC.out _).mono ?_
    rintro e w1 ⟨rfl, hb1⟩
    go_wp2_with fail
    go_ret
    refine ⟨ret_str ?_, hb1⟩
    unfold eInt
    rw [HE.out]
    exact str_add _ _
theorem cNum_c (n : Int) (h : InR n) (w : World) : Calls Tryd.prog 12 #[.int .i64 n] w fun e w' => e = .returned (.string ⟨(eNum n).toArray⟩) ∧ Below w.heap.size w w' := by
  by_cases hn : n < 0
  · go_enter Tryd.func12, Tryd.ntmps12
    go_wp2_with fail
    go_ret
    exact ⟨ret_str (by unfold eNum; rw [if_pos hn]), Below.refl _ _⟩
  · go_enter Tryd.func12, Tryd.ntmps12
    go_wp2_with fail
    refine (cInt_c n h _).mono ?_
    rintro e w1 ⟨rfl, hb⟩
    go_wp2_with fail
    go_ret
    exact ⟨ret_str (by unfold eNum; rw [if_neg (by omega)]), hb⟩
theorem cText_c (s : List UInt8) (hs : s.length ≤ 1000000000000) (w : World) : Calls Tryd.prog 16 #[.string ⟨s.toArray⟩] w fun e w' => e = .returned (.string ⟨(eText s).toArray⟩) ∧ Below w.heap.size w w' := by
  have hin : InR (s.length : Int) := by unfold InR; omega
  have hl := itoa_len s.length hin
  have HC := Lib.hid (digits_c s.length (by omega) (-(s.length : Int)) rfl)
  have HI := Lib.hid (itoa_of_nat s.length)
  have hd : (Lib.decDigits s.length).length ≤ 20 := by rw [HI.out]; exact hl
  go_enter Tryd.func16, Tryd.ntmps16
  go_wp2_with fail
  refine (HC.out _).mono ?_
  rintro e w1 ⟨rfl, hb⟩
  go_wp2_with fail
  go_ret
  refine ⟨ret_str ?_, hb⟩
  rw [str_add, str_add, str_add, HI.out]
  rfl

set_option maxHeartbeats 1000000 in
set_option maxRecDepth 100000 in
theorem cNums_c (l : List Int) (v : Value) (hin : ∀ n ∈ l, InR n) (hbig : (l.flatMap eInt).length ≤ 1000000000000) (w : World) (hv : RowAt w v (ints l)) :
    Calls Tryd.prog 18 #[v] w fun e w' => e = .returned (.string ⟨(eList eInt l).toArray⟩) ∧ Below w.heap.size w w' := by
  obtain ⟨h0, a, cap, rfl, hcells⟩ := hv
  have hlen : (ints l).length = l.length := by simp [ints]
  rw [hlen] at h0 ⊢
  have hil := itoa_len (l.length : Int) (by unfold InR; omega)
  have HI := Lib.hid (itoa_of_nat l.length)
  have hd : (Lib.decDigits l.length).length ≤ 20 := by rw [HI.out]; exact hil
  have HC := Lib.hid hcells
  have HD := Lib.hid (digits_c l.length (by omega) (-(l.length : Int)) rfl)
  clear hcells hlen
  go_enter Tryd.func18, Tryd.ntmps18
  go_wp2_with fail
  refine (HD.out _).mono ?_
  rintro e w1 ⟨rfl, hb1⟩
  go_wp2_with fail
  have HA : Hid ((⟨(Lib.decDigits l.length).toArray⟩ : ByteArray) ++ ⟨#[91]⟩ = ⟨(Lib.itoa (l.length : Int) ++ [91]).toArray⟩) := Lib.hid (by rw [HI.out]; exact str_add _ _)
  go_loopw [3, 4] (fun s i wr => ∃ k : Nat, k ≤ l.length ∧ i = .int .i64 k ∧ s = .string ⟨((Lib.itoa (l.length : Int) ++ [91]) ++ (l.take k).flatMap eInt).toArray⟩ ∧ Below w.heap.size w wr) (fun _ i _ => l.length - (intOf i).toNat)
  case atStart => exact ⟨0, Nat.zero_le _, rfl, by rw [HA.out]; simp, hb1⟩
  case round =>
    obtain ⟨k, hk, rfl, rfl, hbk⟩ := hrel
    clear hb1
    have hlb := flatMap_take_le eInt l k
    have hsl : (Lib.itoa (l.length : Int) ++ [91] ++ (l.take k).flatMap eInt).length ≤ 2000000000000 := by simp only [List.length_append, List.length_singleton]; omega
    by_cases hlt : k < l.length
    · obtain ⟨x, hx⟩ : ∃ x, l[k]? = some x := ⟨l[k], List.getElem?_eq_getElem hlt⟩
      obtain ⟨b, off, rfl, hc⟩ := HC.out (by intro h; have := congrArg List.length h; simp [ints] at this; subst this; simp at hlt)
      have hck := hc k _ (ints_get hx)
      have hcr : wr.cell? ⟨b, off + k, none⟩ = some (.int .i64 x) := by rw [hbk.cell (lt_of_cell hck)]; exact hck
      have hxin : InR x := hin x (List.mem_of_getElem? hx)
      have hxl := itoa_len x hxin
      have hel : (eInt x).length ≤ 21 := by unfold eInt; simp; omega
      have HS := Lib.hid (flatMap_take_succ eInt l k x hx)
      generalize hpre : Lib.itoa (l.length : Int) ++ [91] ++ (l.take k).flatMap eInt = pre at *
      have HP := Lib.hid hpre
      clear hx hck HC hc hpre
      go_wp2_with fail
      refine (cInt_c x hxin _).mono ?_
      rintro e w4 ⟨rfl, hb4⟩
      go_wp2_with fail
      go_roundw
      case rel => exact ⟨k + 1, by omega, by go_num, by rw [str_add, HS.out, ← List.append_assoc, HP.out], chain hbk hb4⟩
      case measure => simp [intOf]; omega
    · obtain rfl : k = l.length := by omega
      generalize hpre : Lib.itoa (l.length : Int) ++ [91] ++ (l.take l.length).flatMap eInt = pre at *
      have HP := Lib.hid hpre
      clear hpre
      go_wp2_with fail
      go_ret
      refine ⟨ret_str ?_, hbk⟩
      rw [str_add, ← HP.out]
      unfold eList
      rw [List.take_length]
set_option maxHeartbeats 1000000 in
set_option maxRecDepth 100000 in
theorem cTexts_c (l : List (List UInt8)) (v : Value) (hbig : (l.flatMap eText).length ≤ 1000000000000) (w : World) (hv : RowAt w v (strs l)) :
    Calls Tryd.prog 20 #[v] w fun e w' => e = .returned (.string ⟨(eList eText l).toArray⟩) ∧ Below w.heap.size w w' := by
  obtain ⟨h0, a, cap, rfl, hcells⟩ := hv
  have hlen : (strs l).length = l.length := by simp [strs]
  rw [hlen] at h0 ⊢
  have hil := itoa_len (l.length : Int) (by unfold InR; omega)
  have HI := Lib.hid (itoa_of_nat l.length)
  have hd : (Lib.decDigits l.length).length ≤ 20 := by rw [HI.out]; exact hil
  have HC := Lib.hid hcells
  have HD := Lib.hid (digits_c l.length (by omega) (-(l.length : Int)) rfl)
  clear hcells hlen
  go_enter Tryd.func20, Tryd.ntmps20
  go_wp2_with fail
  refine (HD.out _).mono ?_
  rintro e w1 ⟨rfl, hb1⟩
  go_wp2_with fail
  have HA : Hid ((⟨(Lib.decDigits l.length).toArray⟩ : ByteArray) ++ ⟨#[91]⟩ = ⟨(Lib.itoa (l.length : Int) ++ [91]).toArray⟩) := Lib.hid (by rw [HI.out]; exact str_add _ _)
  go_loopw [3, 4] (fun s i wr => ∃ k : Nat, k ≤ l.length ∧ i = .int .i64 k ∧ s = .string ⟨((Lib.itoa (l.length : Int) ++ [91]) ++ (l.take k).flatMap eText).toArray⟩ ∧ Below w.heap.size w wr) (fun _ i _ => l.length - (intOf i).toNat)
  case atStart => exact ⟨0, Nat.zero_le _, rfl, by rw [HA.out]; simp, hb1⟩
  case round =>
    obtain ⟨k, hk, rfl, rfl, hbk⟩ := hrel
    clear hb1
    have hlb := flatMap_take_le eText l k
    have hsl : (Lib.itoa (l.length : Int) ++ [91] ++ (l.take k).flatMap eText).length ≤ 2000000000000 := by simp only [List.length_append, List.length_singleton]; omega
    by_cases hlt : k < l.length
    · obtain ⟨x, hx⟩ : ∃ x, l[k]? = some x := ⟨l[k], List.getElem?_eq_getElem hlt⟩
      obtain ⟨b, off, rfl, hc⟩ := HC.out (by intro h; have := congrArg List.length h; simp [strs] at this; subst this; simp at hlt)
      have hck := hc k _ (strs_get hx)
      have hcr : wr.cell? ⟨b, off + k, none⟩ = some (.string ⟨x.toArray⟩) := by rw [hbk.cell (lt_of_cell hck)]; exact hck
      have hle := flatMap_take_le eText l (k + 1)
      have hsu := flatMap_take_succ eText l k x hx
      rw [hsu, List.length_append] at hle
      have hxe : (eText x).length = (Lib.itoa x.length ++ [58]).length + x.length + 1 := by simp [eText]; omega
      have hxl : x.length ≤ 1000000000000 := by omega
      have HS := Lib.hid hsu
      clear hxe hsu
      generalize hpre : Lib.itoa (l.length : Int) ++ [91] ++ (l.take k).flatMap eText = pre at *
      have HP := Lib.hid hpre
      clear hx hck HC hc hpre
      go_wp2_with fail
      refine (cText_c x hxl _).mono ?_
      rintro e w4 ⟨rfl, hb4⟩
      go_wp2_with fail
      go_roundw
      case rel => exact ⟨k + 1, by omega, by go_num, by rw [str_add, HS.out, ← List.append_assoc, HP.out], chain hbk hb4⟩
      case measure => simp [intOf]; omega
    · obtain rfl : k = l.length := by omega
      generalize hpre : Lib.itoa (l.length : Int) ++ [91] ++ (l.take l.length).flatMap eText = pre at *
      have HP := Lib.hid hpre
      clear hpre
      go_wp2_with fail
      go_ret
      refine ⟨ret_str ?_, hbk⟩
      rw [str_add, ← HP.out]
      unfold eList
      rw [List.take_length]
end Go.Proofs.YtlfpelmblpdbjaaDoor
