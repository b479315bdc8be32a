/-
  The reference's Same: it compares two lists of strings; of what was there nothing has turned.
-/
import Derived.Test.YtanjmljlpdhlnaaGreatDoorTSmall
namespace Go.Proofs.YtanjmljlpdhlnaaGreatDoor
open Go Go.RowKit Go.Sort Wire Txt

theorem take_eq_next {α : Type} (a b : List α) (k : Nat) (x : α) (ha : a[k]? = some x) (hb : b[k]? = some x) (h : a.take k = b.take k) : a.take (k + 1) = b.take (k + 1) := by
  rw [List.take_add_one, List.take_add_one, ha, hb, h]
theorem row_at {w : World} {A : Option Addr} {n cap : Nat} {l : List (List UInt8)} (h : RowAt w (.slice A n cap) (strs l)) {k : Nat} {x : List UInt8} (hx : l[k]? = some x) : ∃ b off, A = some ⟨b, off, none⟩ ∧ w.cell? ⟨b, off + k, none⟩ = some (.string ⟨x.toArray⟩) := by
  have hne : l ≠ [] := by rintro rfl; simp at hx
  obtain ⟨b, off, cap', hv, _, hc⟩ := row_slice h hne
  injection hv with h1 _ _
  exact ⟨b, off, h1, hc k x hx⟩

set_option maxHeartbeats 1000000 in
set_option maxRecDepth 100000 in
theorem same_c (a b : List (List UInt8)) (va vb : Value) (w : World) (ha : RowAt w va (strs a)) (hb : RowAt w vb (strs b)) (hl : a.length ≤ 1000000) :
    Calls Tryz.prog 13 #[va, vb] w fun e w' => e = .returned (.bool (decide (a = b))) ∧ Below w.heap.size w w' := by
  obtain ⟨A, ca, rfl⟩ := row_any ha
  obtain ⟨B, cb, rfl⟩ := row_any hb
  have hbl : b.length ≤ 9223372036854775807 := by have := hb.1; simpa [strs] using this
  have HA := Lib.hid ha
  have HB := Lib.hid hb
  clear ha hb
  by_cases hlen : a.length = b.length
  · have q0 : ((a.length : Int) == (b.length : Int)) = true := by rw [hlen]; simp
    have HL := Lib.hid hlen
    clear hlen
    go_enter Tryz.func13, Tryz.ntmps13
    go_wp2_with fail
    go_loopw [5] (fun i wr => ∃ k : Nat, k ≤ a.length ∧ i = .int .i64 k ∧ Hid (a.take k = b.take k) ∧ Below w.heap.size w wr) (fun i _ => a.length - (intOf i).toNat)
    case atStart => exact ⟨0, Nat.zero_le _, rfl, Lib.hid rfl, Below.refl _ _⟩
    case round =>
      obtain ⟨k, hk, rfl, HT, hbk⟩ := hrel
      by_cases hlt : k < a.length
      · obtain ⟨x, hx⟩ : ∃ x, a[k]? = some x := ⟨a[k], List.getElem?_eq_getElem hlt⟩
        obtain ⟨y, hy⟩ : ∃ y, b[k]? = some y := ⟨b[k]'(by rw [← HL.out]; exact hlt), List.getElem?_eq_getElem (by rw [← HL.out]; exact hlt)⟩
        obtain ⟨b1, o1, rfl, c1⟩ := row_at HA.out hx
        obtain ⟨b2, o2, rfl, c2⟩ := row_at HB.out hy
        have k1 : wr.cell? ⟨b1, o1 + k, none⟩ = some (.string ⟨x.toArray⟩) := by rw [hbk.cell (lt_of_cell c1)]; exact c1
        have k2 : wr.cell? ⟨b2, o2 + k, none⟩ = some (.string ⟨y.toArray⟩) := by rw [hbk.cell (lt_of_cell c2)]; exact c2
        have hkb : (k : Int) < (b.length : Int) := by have := HL.out; omega
        have hka : (k : Int) < (a.length : Int) := by omega
        have hk0 : (0 : Int) ≤ k := by omega
        have HX := Lib.hid hx
        have HY := Lib.hid hy
        clear hx hy c1 c2
        by_cases hxy : x = y
        · subst hxy
          have HN := Lib.hid (take_eq_next a b k x HX.out HY.out HT.out)
          go_wp2_with fail
          go_quiet (fail)
          go_wp2_with fail
          go_roundw
          case rel => exact ⟨k + 1, by omega, by go_num, HN, below_drew hbk _⟩
          case measure => simp [intOf]; omega
        · have hq : (x == y) = false := by simpa using hxy
          have HD := Lib.hid (show decide (a = b) = false by
            rw [decide_eq_false_iff_not]
            intro he
            have h1 := HX.out
            rw [he, HY.out] at h1
            injection h1 with h1
            exact hxy h1.symm)
          clear hxy
          go_wp2_with fail
          go_quiet (fail)
          go_wp2_with fail
          go_ret
          exact ⟨ret_bool HD.out.symm, below_drew hbk _⟩
      · have HD := Lib.hid (show decide (a = b) = true by
          rw [decide_eq_true_eq]
          have h := HT.out
          rw [List.take_of_length_le (by omega), List.take_of_length_le (by have := HL.out; omega)] at h
          exact h)
        go_wp2_with fail
        go_ret
        exact ⟨ret_bool HD.out.symm, hbk⟩
  · have q0 : ((a.length : Int) == (b.length : Int)) = false := beq_no (by omega)
    have HD := Lib.hid (show decide (a = b) = false by rw [decide_eq_false_iff_not]; rintro rfl; exact hlen rfl)
    clear hlen
    go_enter Tryz.func13, Tryz.ntmps13
    go_wp2_with fail
    go_ret
    exact ⟨ret_bool HD.out.symm, Below.refl _ _⟩
end Go.Proofs.YtanjmljlpdhlnaaGreatDoor
