/-
  Decimal, Int, isClass, endAfter, classSize, size, within, matches of package text: each returns what chapter 2 says; of what was there nothing has turned.
-/
import Derived.Test.YthibikdnoogfoaaGreatDoorWords
import Derived.Test.YthibikdnoogfoaaGreatDoorTPat
import Derived.Deep.QuietTactic
import Derived.BigQuiet
namespace Go.Proofs.YthibikdnoogfoaaGreatDoor
open Go Go.RowKit Go.Sort Wire Txt

theorem decimal_c (n : Int) (h : InR n) (w : World) (hg : Good w) : Calls Tryz.prog 49 #[.int .i64 n] w fun e w' => e = .returned (.string ⟨(Lib.itoa n).toArray⟩) ∧ Below w.heap.size w w' := by
  go_enter Tryz.func49, Tryz.ntmps49
  go_wp2_with fail
  refine (itoa_c n h _ hg).mono ?_
  rintro e w1 ⟨rfl, hb⟩
  go_wp2_with fail
  go_ret
  exact ⟨rfl, hb⟩

set_option maxRecDepth 100000 in
theorem int_ok (d : List UInt8) (n : Int) (hd : readDig d = some n) (hdl : d.length < 4294967281) (w : World) (hg : Good w) :
    Calls Tryz.prog 62 #[.string ⟨d.toArray⟩] w fun e w' => e = .returned (.tuple #[.int .i64 n, .bool true]) ∧ Below w.heap.size w w' := by
  obtain ⟨hin, hdi⟩ := (readDig_iff d n).1 hd
  have HA := Lib.hid (show Lib.atoiAll d = .ok n by rw [hdi]; exact atoi_itoa n hin)
  have HI := Lib.hid hdi
  clear hd hdi
  have hq : (!Lib.itoa n == d) = false := by rw [HI.out]; simp
  go_enter Tryz.func62, Tryz.ntmps62
  go_wp2_with fail
  refine (atoi_ok d hdl n HA.out _).mono ?_
  rintro v w1 ⟨rfl, hb1⟩
  have hg1 := hg.on hb1
  go_wp2_with fail
  refine (itoa_c n hin _ hg1).mono ?_
  rintro v w2 ⟨rfl, hb2⟩
  go_wp2_with fail
  go_ret2
  exact ⟨rfl, chain hb1 hb2⟩
set_option maxRecDepth 100000 in
theorem int_no (d : List UInt8) (hd : readDig d = none) (hdl : d.length < 4294967281) (w : World) (hg : Good w) :
    Calls Tryz.prog 62 #[.string ⟨d.toArray⟩] w fun e w' => e = .returned (.tuple #[.int .i64 0, .bool false]) ∧ Below w.heap.size w w' := by
  cases ha : Lib.atoiAll d with
  | ok n =>
    have hin : InR n := Lib.atoiAll_bounds ha
    have hne : Lib.itoa n ≠ d := by
      intro hh
      rw [(readDig_iff d n).2 ⟨hin, hh.symm⟩] at hd
      cases hd
    have hq : (!Lib.itoa n == d) = true := by simp [hne]
    have HA := Lib.hid ha
    clear ha hd hne
    go_enter Tryz.func62, Tryz.ntmps62
    go_wp2_with fail
    refine (atoi_ok d hdl n HA.out _).mono ?_
    rintro v w1 ⟨rfl, hb1⟩
    have hg1 := hg.on hb1
    go_wp2_with fail
    refine (itoa_c n hin _ hg1).mono ?_
    rintro v w2 ⟨rfl, hb2⟩
    go_wp2_with fail
    go_ret2
    exact ⟨rfl, chain hb1 hb2⟩
  | _ =>
    have HA := Lib.hid (show ∀ v, Lib.atoiAll d ≠ .ok v by rw [ha]; intro v hv; cases hv)
    clear ha hd
    go_enter Tryz.func62, Tryz.ntmps62
    go_wp2_with fail
    refine (atoi_bad d hdl HA.out _ hg).mono ?_
    rintro v w1 ⟨n, N, rfl, hb1⟩
    go_wp2_with fail
    go_ret2
    exact ⟨rfl, hb1⟩
/-- What Int returns. -/
def intV (d : List UInt8) : Value := match readDig d with
  | some n => .tuple #[.int .i64 n, .bool true]
  | none => .tuple #[.int .i64 0, .bool false]
theorem int_c (d : List UInt8) (hdl : d.length < 4294967281) (w : World) (hg : Good w) :
    Calls Tryz.prog 62 #[.string ⟨d.toArray⟩] w fun e w' => e = .returned (intV d) ∧ Below w.heap.size w w' := by
  unfold intV
  cases h : readDig d with
  | some n => exact int_ok d n h hdl w hg
  | none => exact int_no d h hdl w hg

theorem hasPrefix_c (s p : List UInt8) (w : World) : Calls Tryz.prog 95 #[.string ⟨s.toArray⟩, .string ⟨p.toArray⟩] w fun e w' => e = .returned (.bool (Lib.hasPrefix s p)) ∧ w = w' :=
  (Tryz.strings_HasPrefix ⟨s.toArray⟩ ⟨p.toArray⟩ w).mono fun e w' ⟨he, hw⟩ => ⟨by rw [he], hw.symm⟩
end Go.Proofs.YthibikdnoogfoaaGreatDoor
