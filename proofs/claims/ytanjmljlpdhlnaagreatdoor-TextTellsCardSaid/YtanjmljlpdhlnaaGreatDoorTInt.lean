/-
  Decimal, Int, isClass, endAfter, classSize, size, within, matches of package text: each returns what chapter 2 says; of what was there nothing has turned.
-/
import Derived.Test.YtanjmljlpdhlnaaGreatDoorWords
import Derived.Test.YtanjmljlpdhlnaaGreatDoorTPat
import Derived.Deep.QuietTactic
import Derived.BigQuiet
namespace Go.Proofs.YtanjmljlpdhlnaaGreatDoor
open Go Go.RowKit Go.Sort Wire Txt

theorem decimal_c (n : Int) (h : InR n) (w : World) (hg : Good w) : Calls Tryz.prog 9 #[.int .i64 n] w fun e w' => e = .returned (.string ⟨(Lib.itoa n).toArray⟩) ∧ Below w.heap.size w w' := by
  go_enter Tryz.func9, Tryz.ntmps9
  go_wp2_with fail
  refine (itoa_c n h _ hg).mono ?_
  rintro e w1 ⟨rfl, hb⟩
  go_wp2_with fail
  go_ret
  exact ⟨rfl, hb⟩

set_option maxRecDepth 100000 in
theorem int_ok (d : List UInt8) (n : Int) (hd : readDig d = some n) (hdl : d.length < 4294967281) (w : World) (hg : Good w) :
    Calls Tryz.prog 5 #[.string ⟨d.toArray⟩] w fun e w' => e = .returned (.tuple #[.int .i64 n, .bool true]) ∧ Below w.heap.size w w' := by
  obtain ⟨hin, hdi⟩ := (readDig_iff d n).1 hd
  have HA := Lib.hid (show Lib.atoiAll d = .ok n by rw [hdi]; exact atoi_itoa n hin)
  have HI := Lib.hid hdi
  clear hd hdi
  have hq : (!Lib.itoa n == d) = false := by rw [HI.out]; simp
  go_enter Tryz.func5, Tryz.ntmps5
  go_wp2_with fail
  refine (atoi_ok d hdl n HA.out _).mono ?_
  rintro v w1 ⟨rfl, hb1⟩
  have hg1 := hg.on hb1
  go_wp2_with fail
  refine (itoa_c n hin _ hg1).mono ?_
  rintro v w2 ⟨rfl, hb2⟩
  go_wp2_with fail
  go_ret2
  exact ⟨rfl, chain hb1 hb2⟩
set_option maxRecDepth 100000 in
theorem int_no (d : List UInt8) (hd : readDig d = none) (hdl : d.length < 4294967281) (w : World) (hg : Good w) :
    Calls Tryz.prog 5 #[.string ⟨d.toArray⟩] w fun e w' => e = .returned (.tuple #[.int .i64 0, .bool false]) ∧ Below w.heap.size w w' := by
  cases ha : Lib.atoiAll d with
  | ok n =>
    have hin : InR n := Lib.atoiAll_bounds ha
    have hne : Lib.itoa n ≠ d := by
      intro hh
      rw [(readDig_iff d n).2 ⟨hin, hh.symm⟩] at hd
      cases hd
    have hq : (!Lib.itoa n == d) = true := by simp [hne]
    have HA := Lib.hid ha
    clear ha hd hne
    go_enter Tryz.func5, Tryz.ntmps5
    go_wp2_with fail
    refine (atoi_ok d hdl n HA.out _).mono ?_
    rintro v w1 ⟨rfl, hb1⟩
    have hg1 := hg.on hb1
    go_wp2_with fail
    refine (itoa_c n hin _ hg1).mono ?_
    rintro v w2 ⟨rfl, hb2⟩
    go_wp2_with fail
    go_ret2
    exact ⟨rfl, chain hb1 hb2⟩
  | _ =>
    have HA := Lib.hid (show ∀ v, Lib.atoiAll d ≠ .ok v by rw [ha]; intro v hv; cases hv)
    clear ha hd
    go_enter Tryz.func5, Tryz.ntmps5
    go_wp2_with fail
    refine (atoi_bad d hdl HA.out _ hg).mono ?_
    rintro v w1 ⟨n, N, rfl, hb1⟩
    go_wp2_with fail
    go_ret2
    exact ⟨rfl, hb1⟩
/-- What Int returns. -/
def intV (d : List UInt8) : Value := match readDig d with
  | some n => .tuple #[.int .i64 n, .bool true]
  | none => .tuple #[.int .i64 0, .bool false]
theorem int_c (d : List UInt8) (hdl : d.length < 4294967281) (w : World) (hg : Good w) :
    Calls Tryz.prog 5 #[.string ⟨d.toArray⟩] w fun e w' => e = .returned (intV d) ∧ Below w.heap.size w w' := by
  unfold intV
  cases h : readDig d with
  | some n => exact int_ok d n h hdl w hg
  | none => exact int_no d h hdl w hg

theorem isClass_c (x : List UInt8) (w : World) : Calls Tryz.prog 43 #[.string ⟨x.toArray⟩] w fun e w' => e = .returned (.bool (decide (2 < x.length))) ∧ w = w' := by
  go_enter Tryz.func43, Tryz.ntmps43
  go_wp2_with fail
  go_ret
  exact ⟨ret_bool (by simp; omega), rfl⟩
theorem isClass_t (x : List UInt8) (w : World) (h : 2 < x.length) : Calls Tryz.prog 43 #[.string ⟨x.toArray⟩] w fun e w' => e = .returned (.bool true) ∧ w = w' :=
  (isClass_c x w).mono fun e w' ⟨he, hw⟩ => ⟨by rw [he, decide_eq_true h], hw⟩
theorem isClass_f (x : List UInt8) (w : World) (h : x.length ≤ 2) : Calls Tryz.prog 43 #[.string ⟨x.toArray⟩] w fun e w' => e = .returned (.bool false) ∧ w = w' :=
  (isClass_c x w).mono fun e w' ⟨he, hw⟩ => ⟨by rw [he, decide_eq_false (by omega)], hw⟩

theorem indexByte_c (l : List UInt8) (c : UInt8) (n : Int) (hn : n = c.toNat) (w : World) : Calls Tryz.prog 97 #[.string ⟨l.toArray⟩, .int .u8 n] w fun e w' => e = .returned (.int .i64 (Lib.indexByte l c)) ∧ w = w' :=
  (Tryz.strings_IndexByte ⟨l.toArray⟩ n w).mono fun e w' ⟨he, hw⟩ => ⟨by rw [he, hn]; simp, hw.symm⟩
set_option maxRecDepth 100000 in
theorem endAfter_c (p : List UInt8) (n : Nat) (hp : p.length ≤ 1000000000000) (hn : n ≤ 1000) (w : World) :
    Calls Tryz.prog 84 #[.string ⟨p.toArray⟩, .int .i64 n] w fun e w' => e = .returned (.int .i64 (endAfter p n)) ∧ w = w' := by
  have HX := Lib.hid (ba_drop p n)
  by_cases hlt : p.length < n
  · have HE := Lib.hid (show endAfter p n = 0 by unfold endAfter; rw [if_pos hlt])
    go_enter Tryz.func84, Tryz.ntmps84
    go_wp2_with fail
    go_ret
    exact ⟨ret_int (by rw [HE.out]; rfl), rfl⟩
  · rcases indexByte_bd (p.drop n) 93 with hi | hi
    · have HE := Lib.hid (show endAfter p n = 0 by unfold endAfter; rw [if_neg hlt, if_pos hi])
      go_enter Tryz.func84, Tryz.ntmps84
      go_wp2_with fail
      rw [HX.out]
      refine (indexByte_c _ 93 93 rfl _).mono ?_
      rintro e w1 ⟨rfl, rfl⟩
      go_wp2_with fail
      go_ret
      exact ⟨ret_int (by rw [HE.out]; rfl), rfl⟩
    · by_cases h0 : Lib.indexByte (p.drop n) 93 < 0
      · have HE := Lib.hid (show endAfter p n = 0 by unfold endAfter; rw [if_neg hlt, if_pos h0])
        go_enter Tryz.func84, Tryz.ntmps84
        go_wp2_with fail
        rw [HX.out]
        refine (indexByte_c _ 93 93 rfl _).mono ?_
        rintro e w1 ⟨rfl, rfl⟩
        go_wp2_with fail
        go_ret
        exact ⟨ret_int (by rw [HE.out]; rfl), rfl⟩
      · have HE := Lib.hid (show (endAfter p n : Int) = n + Lib.indexByte (p.drop n) 93 + 1 by unfold endAfter; rw [if_neg hlt, if_neg h0]; omega)
        have h1 : 0 ≤ Lib.indexByte (p.drop n) 93 := by omega
        have h2 : Lib.indexByte (p.drop n) 93 ≤ 1000000000000 := by rw [List.length_drop] at hi; omega
        clear hi
        go_enter Tryz.func84, Tryz.ntmps84
        go_wp2_with fail
        rw [HX.out]
        refine (indexByte_c _ 93 93 rfl _).mono ?_
        rintro e w1 ⟨rfl, rfl⟩
        go_wp2_with fail
        go_ret
        exact ⟨ret_int (by rw [HE.out]), rfl⟩
theorem hasPrefix_c (s p : List UInt8) (w : World) : Calls Tryz.prog 83 #[.string ⟨s.toArray⟩, .string ⟨p.toArray⟩] w fun e w' => e = .returned (.bool (Lib.hasPrefix s p)) ∧ w = w' :=
  (Tryz.strings_HasPrefix ⟨s.toArray⟩ ⟨p.toArray⟩ w).mono fun e w' ⟨he, hw⟩ => ⟨by rw [he], hw.symm⟩
set_option maxRecDepth 100000 in
theorem classSize_c (p : List UInt8) (hp : p.length ≤ 1000000000000) (w : World) :
    Calls Tryz.prog 71 #[.string ⟨p.toArray⟩] w fun e w' => e = .returned (.int .i64 (classSize p)) ∧ w = w' := by
  have h3 := endAfter_le p 3
  have h2 := endAfter_le p 2
  cases hb : Lib.hasPrefix p [91, 33] with
  | false =>
    have HE := Lib.hid (show classSize p = max (endAfter p 2) 1 by unfold classSize; rw [if_neg (by simp [hb])])
    have HB := Lib.hid hb
    clear hb
    go_enter Tryz.func71, Tryz.ntmps71
    go_wp2_with fail
    refine (hasPrefix_c p [91, 33] _).mono ?_
    rw [HB.out]
    rintro e w1 ⟨rfl, rfl⟩
    go_wp2_with fail
    refine (endAfter_c p 2 hp (by omega) _).mono ?_
    rintro e w1 ⟨rfl, rfl⟩
    go_wp2_with fail
    go_ret
    exact ⟨ret_int (by rw [HE.out]; omega), rfl⟩
  | true =>
    by_cases h0 : 0 < endAfter p 3
    · have HE := Lib.hid (show classSize p = endAfter p 3 by unfold classSize; rw [if_pos ⟨hb, h0⟩])
      have HB := Lib.hid hb
      clear hb
      go_enter Tryz.func71, Tryz.ntmps71
      go_wp2_with fail
      refine (hasPrefix_c p [91, 33] _).mono ?_
      rw [HB.out]
      rintro e w1 ⟨rfl, rfl⟩
      go_wp2_with fail
      refine (endAfter_c p 3 hp (by omega) _).mono ?_
      rintro e w1 ⟨rfl, rfl⟩
      go_wp2_with fail
      go_ret
      exact ⟨ret_int (by rw [HE.out]), rfl⟩
    · have HE := Lib.hid (show classSize p = max (endAfter p 2) 1 by unfold classSize; rw [if_neg (by simp [h0])])
      have HB := Lib.hid hb
      have hz : ¬ (0 : Int) < endAfter p 3 := by omega
      clear hb
      go_enter Tryz.func71, Tryz.ntmps71
      go_wp2_with fail
      refine (hasPrefix_c p [91, 33] _).mono ?_
      rw [HB.out]
      rintro e w1 ⟨rfl, rfl⟩
      go_wp2_with fail
      refine (endAfter_c p 3 hp (by omega) _).mono ?_
      rintro e w1 ⟨rfl, rfl⟩
      go_wp2_with fail
      refine (endAfter_c p 2 hp (by omega) _).mono ?_
      rintro e w1 ⟨rfl, rfl⟩
      go_wp2_with fail
      go_ret
      exact ⟨ret_int (by rw [HE.out]; omega), rfl⟩
end Go.Proofs.YtanjmljlpdhlnaaGreatDoor
