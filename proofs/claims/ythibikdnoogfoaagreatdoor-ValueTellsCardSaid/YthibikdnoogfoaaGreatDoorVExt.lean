/-
  extent of package value: where the text of a value may end; of what was there nothing has turned.
-/
import Derived.Test.YthibikdnoogfoaaGreatDoorVParse
import Derived.Test.YthibikdnoogfoaaGreatDoorTQuote
namespace Go.Proofs.YthibikdnoogfoaaGreatDoor
open Go Go.RowKit Go.Sort Wire Txt Vl

theorem hasPre_no {s : List UInt8} (h : s.head? ≠ some 34) : Lib.hasPrefix s [34] = false := by
  unfold Lib.hasPrefix
  cases s with
  | nil => rfl
  | cons c r =>
    have : c ≠ 34 := by simpa using h
    simp [List.isPrefixOf, Ne.symm this]
theorem extent_no {s : List UInt8} (h : s.head? ≠ some 34) : extent s = match cutAt 44 s with
    | some p => p.1.length
    | none => s.length := by
  unfold extent
  cases s with
  | nil => rfl
  | cons c r =>
    have : c ≠ 34 := by simpa using h
    simp only
    rw [if_neg this]
    cases cutAt 44 (c :: r) <;> rfl
theorem extent_yes (r : List UInt8) : extent (34 :: r) = 1 + qend r := by unfold extent; simp
theorem drop_get {s : List UInt8} {k : Nat} {c : UInt8} (h : s[k]? = some c) : s.drop k = c :: s.drop (k + 1) := by
  obtain ⟨hk, he⟩ := List.getElem?_eq_some_iff.1 h
  rw [List.drop_eq_getElem_cons hk, he]
set_option maxHeartbeats 1000000 in
set_option maxRecDepth 100000 in
theorem extent_c (s : List UInt8) (hs : s.length ≤ 10000000) (w : World) (hg : Good w) : Calls Tryz.prog 72 #[.string ⟨s.toArray⟩] w fun e w' => e = .returned (.int .i64 (extent s)) ∧ Below w.heap.size w w' := by
  by_cases hq : s.head? = some 34
  · obtain ⟨r, rfl⟩ : ∃ r, s = 34 :: r := by
      cases s with
      | nil => cases hq
      | cons c r =>
        simp only [List.head?_cons, Option.some.injEq] at hq
        exact ⟨r, by rw [hq]⟩
    have HP := Lib.hid (show Lib.hasPrefix (34 :: r) [34] = true from hasPrefix_app [34] r)
    have hx0 : extent (34 :: r) = 1 + qend ((34 :: r).drop 1) := extent_yes r
    obtain ⟨s, hs0⟩ : ∃ s, s = 34 :: r := ⟨_, rfl⟩
    have hs1 : 1 ≤ s.length := by rw [hs0]; simp
    rw [← hs0] at hs HP hx0 ⊢
    clear hs0 hq
    have HX := Lib.hid hx0
    clear hx0
    go_enter Tryz.func72, Tryz.ntmps72
    go_wp2_with fail
    refine (hasPrefix_c s [34] _).mono ?_
    rw [HP.out]
    rintro e w1 ⟨rfl, rfl⟩
    go_wp2_with fail
    go_loopw [6] (fun i wr => ∃ k : Nat, 1 ≤ k ∧ k ≤ s.length + 1 ∧ i = .int .i64 k ∧ ((k ≤ s.length ∧ extent s = k + qend (s.drop k)) ∨ (k = s.length + 1 ∧ extent s = s.length)) ∧ w = wr) (fun i _ => s.length + 2 - (intOf i).toNat)
    case atStart => exact ⟨1, by omega, by omega, rfl, Or.inl ⟨hs1, HX.out⟩, rfl⟩
    case round =>
      obtain ⟨k, hk1, hk2, rfl, hR, rfl⟩ := hrel
      have HR := Lib.hid hR
      clear hR
      by_cases hlt : k < s.length
      · have HE := Lib.hid (show extent s = k + qend (s.drop k) by rcases HR.out with h | h; exact h.2; omega)
        obtain ⟨c, hc⟩ : ∃ c, s[k]? = some c := ⟨s[k], List.getElem?_eq_getElem hlt⟩
        have ei := at_k s k c hc (by rw [ba_size]; exact hlt)
        have HD := Lib.hid (drop_get hc)
        clear hc
        by_cases h1 : c = 92
        · subst h1
          by_cases hk3 : k + 1 < s.length
          · obtain ⟨d, hd⟩ : ∃ d, s[k + 1]? = some d := ⟨s[k + 1], List.getElem?_eq_getElem hk3⟩
            have HD2 := Lib.hid (drop_get hd)
            clear hd
            go_wp2_with fail
            go_roundw
            case rel => exact ⟨k + 1 + 1, by omega, by omega, by go_num, Or.inl ⟨by omega, by rw [HE.out, HD.out, HD2.out, qend_bs]; omega⟩, by first | rfl | trivial⟩
            case measure => simp [intOf]; omega
          · go_wp2_with fail
            go_roundw
            case rel => exact ⟨k + 2, by omega, by omega, by go_num, Or.inr ⟨by omega, by rw [HE.out, HD.out, List.drop_of_length_le (by omega), qend_last]; omega⟩, by first | rfl | trivial⟩
            case measure => simp [intOf]; omega
        · have hcl := c.toNat_lt
          have n92 : c.toNat ≠ 92 := fun h => h1 (byte_of c 92 h)
          have b92 : ((c.toNat : Int) == 92) = false := beq_no (by omega)
          by_cases h2 : c = 34
          · subst h2
            go_wp2_with fail
            go_ret
            exact ⟨ret_int (by rw [HE.out, HD.out, qend_q]; omega), Below.refl _ _⟩
          · have n34 : c.toNat ≠ 34 := fun h => h2 (byte_of c 34 h)
            have b34 : ((c.toNat : Int) == 34) = false := beq_no (by omega)
            go_wp2_with fail
            go_roundw
            case rel => exact ⟨k + 1, by omega, by omega, by go_num, Or.inl ⟨by omega, by rw [HE.out, HD.out, qend_plain _ _ h1 h2]; omega⟩, by first | rfl | trivial⟩
            case measure => simp [intOf]; omega
      · have HE := Lib.hid (show extent s = s.length by
          rcases HR.out with h | h
          · have : s.drop k = [] := List.drop_of_length_le (by omega)
            rw [h.2, this]
            simp only [qend]
            omega
          · exact h.2)
        go_wp2_with fail
        go_ret
        exact ⟨ret_int (by rw [HE.out]), Below.refl _ _⟩
  · have HP := Lib.hid (hasPre_no hq)
    have HX := Lib.hid (extent_no hq)
    clear hq
    cases hc : cutAt 44 s with
    | some p =>
      obtain ⟨d, q⟩ := p
      have HC := Lib.hid hc
      clear hc
      go_enter Tryz.func72, Tryz.ntmps72
      go_wp2_with fail
      refine (hasPrefix_c s [34] _).mono ?_
      rw [HP.out]
      rintro e w1 ⟨rfl, rfl⟩
      go_wp2_with fail
      refine (cut_hit 44 s d q HC.out _ (by omega) hg).mono ?_
      rintro e w2 ⟨rfl, hb2⟩
      go_wp2_with fail
      go_ret
      exact ⟨ret_int (by rw [HX.out, HC.out]), hb2⟩
    | none =>
      have HC := Lib.hid hc
      clear hc
      go_enter Tryz.func72, Tryz.ntmps72
      go_wp2_with fail
      refine (hasPrefix_c s [34] _).mono ?_
      rw [HP.out]
      rintro e w1 ⟨rfl, rfl⟩
      go_wp2_with fail
      refine (cut_miss 44 s HC.out _ (by omega) hg).mono ?_
      rintro e w2 ⟨rfl, hb2⟩
      go_wp2_with fail
      go_ret
      exact ⟨ret_int (by rw [HX.out, HC.out]), hb2⟩
end Go.Proofs.YthibikdnoogfoaaGreatDoor
