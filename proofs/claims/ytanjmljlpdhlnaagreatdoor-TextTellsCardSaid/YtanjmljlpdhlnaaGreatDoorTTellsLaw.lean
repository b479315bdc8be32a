/-
  TextTells returns true, for every int, all strings and every list of strings that can be; of what was there nothing has turned.
-/
import Derived.Test.YtanjmljlpdhlnaaGreatDoorTRefI
import Derived.Test.YtanjmljlpdhlnaaGreatDoorTSmall
import Derived.Test.YtanjmljlpdhlnaaGreatDoorTFields
import Derived.Test.YtanjmljlpdhlnaaGreatDoorTLinesLem
namespace Go.Proofs.YtanjmljlpdhlnaaGreatDoor
open Go Go.RowKit Go.Sort Wire Txt

theorem row_on {w w' : World} {v : Value} {l : List (List UInt8)} (h : RowAt w v (strs l)) (hb : Below w.heap.size w w') : RowAt w' v (strs l) := by
  obtain ⟨h0, a, cap, hv, hc⟩ := h
  refine ⟨h0, a, cap, hv, fun hne => ?_⟩
  obtain ⟨b, off, ha, hcc⟩ := hc hne
  refine ⟨b, off, ha, fun i x hx => ?_⟩
  have := hcc i x hx
  rw [hb.cell (lt_of_cell this)]
  exact this
theorem fields_len (s : List UInt8) : (fields s).length ≤ s.length := by
  have key : ∀ (s cur : List UInt8), (fieldsGo cur s).length ≤ s.length + (if cur = [] then 0 else 1) := by
    intro s
    induction s with
    | nil => intro cur; unfold fieldsGo; split <;> simp
    | cons c r ih =>
      intro cur
      unfold fieldsGo
      split
      · have h0 := ih []
        rw [if_pos rfl] at h0
        split
        · simp only [List.length_cons]; omega
        · simp only [List.length_cons]; omega
      · have h1 := ih (cur ++ [c])
        rw [if_neg (by simp)] at h1
        simp only [List.length_cons]
        split <;> omega
  have := key s []
  rw [if_pos rfl] at this
  exact this
theorem unlines_big (l : List (List UInt8)) (h : ∀ x ∈ l, x.length ≤ 100) : (unlines l).length ≤ 101 * l.length := by
  induction l with
  | nil => simp [unlines]
  | cons x l ih =>
    have h1 := h x (by simp)
    have h2 := ih (fun y hy => h y (by simp [hy]))
    have e : unlines (x :: l) = x ++ 10 :: unlines l := by simp [unlines]
    rw [e, List.length_append, List.length_cons, List.length_cons]
    omega
theorem intV_form (s : List UInt8) : ∃ n b, intV s = .tuple #[.int .i64 n, .bool b] := by
  unfold intV
  split
  · exact ⟨_, _, rfl⟩
  · exact ⟨_, _, rfl⟩
theorem unqV_form (s : List UInt8) : ∃ d b, unqV s = .tuple #[.string ⟨d⟩, .bool b] := by
  unfold unqV
  split
  · exact ⟨_, _, rfl⟩
  · exact ⟨_, _, rfl⟩

set_option maxHeartbeats 8000000 in
set_option maxRecDepth 100000 in
theorem tellsLaw_c (n : Int) (hn : InR n) (s p : List UInt8) (l : List (List UInt8)) (hsl : s.length ≤ 9223372036854775807) (hpl : p.length ≤ 9223372036854775807) (v : Value) (w : World) (hg0 : Good w) (hv : RowAt w v (strs l)) :
    Calls Tryz.prog 3 #[.int .i64 n, .string ⟨s.toArray⟩, .string ⟨p.toArray⟩, v] w fun e w' => e = .returned (.bool true) ∧ Below w.heap.size w w' := by
  have hll : l.length ≤ 9223372036854775807 := by have := hv.1; simpa [strs] using this
  obtain ⟨A, cap, rfl⟩ := row_any hv
  have HV := Lib.hid hv
  clear hv
  by_cases hbig : 300 < s.length ∨ 100 < p.length ∨ 30 < l.length
  · have hcase : 300 < s.length ∨ (¬ 300 < s.length ∧ 100 < p.length) ∨ (¬ 300 < s.length ∧ ¬ 100 < p.length ∧ 30 < l.length) := by omega
    clear hbig
    rcases hcase with h1 | ⟨h1, h2⟩ | ⟨h1, h2, h3⟩
    · go_enter Tryz.func3, Tryz.ntmps3
      go_wp2_with fail
      refine (small_c _ hg0).mono ?_
      rintro e w1 ⟨rfl, hb1⟩
      go_wp2_with fail
      go_ret
      exact ⟨rfl, hb1⟩
    · go_enter Tryz.func3, Tryz.ntmps3
      go_wp2_with fail
      refine (small_c _ hg0).mono ?_
      rintro e w1 ⟨rfl, hb1⟩
      go_wp2_with fail
      go_ret
      exact ⟨rfl, hb1⟩
    · go_enter Tryz.func3, Tryz.ntmps3
      go_wp2_with fail
      refine (small_c _ hg0).mono ?_
      rintro e w1 ⟨rfl, hb1⟩
      go_wp2_with fail
      go_ret
      exact ⟨rfl, hb1⟩
  have h1 : s.length ≤ 300 := by omega
  have h2 : p.length ≤ 100 := by omega
  have h3 : l.length ≤ 30 := by omega
  clear hbig hsl hpl hll
  obtain ⟨ni, bi, hi⟩ := intV_form s
  obtain ⟨du, bu, hu⟩ := unqV_form s
  have HI := Lib.hid hi
  have HU := Lib.hid hu
  have hln := lines_count s
  have hfn := fields_len s
  clear hi hu
  go_enter Tryz.func3, Tryz.ntmps3
  go_wp2_with fail
  refine (small_c _ hg0).mono ?_
  rintro e w1 ⟨rfl, hb1⟩
  have hg1 := hg0.on hb1
  clear hg0
  go_wp2_with fail
  go_loopg [10] l.length (fun g i wr => ∃ k : Nat, k ≤ l.length ∧ g = l.length - k ∧ i = .int .i64 k ∧ Hid (∀ x ∈ l.take k, x.length ≤ 100) ∧ w1 = wr)
  case atStart => exact ⟨0, Nat.zero_le _, rfl, rfl, Lib.hid (by intro x hx; simp at hx), rfl⟩
  case round =>
    obtain ⟨k, hk, rfl, rfl, HK, rfl⟩ := hrel
    by_cases hlt : k < l.length
    · obtain ⟨x, hx⟩ : ∃ x, l[k]? = some x := ⟨l[k], List.getElem?_eq_getElem hlt⟩
      obtain ⟨b, off, rfl, hc⟩ := row_at HV.out hx
      have hcr : w1.cell? ⟨b, off + k, none⟩ = some (.string ⟨x.toArray⟩) := by rw [hb1.cell (lt_of_cell hc)]; exact hc
      have HX := Lib.hid hx
      clear hx hc
      by_cases h100 : 100 < x.length
      · go_wp2_with fail
        go_ret
        exact ⟨rfl, hb1⟩
      · have HN := Lib.hid (show ∀ y ∈ l.take (k + 1), y.length ≤ 100 by
          intro y hy
          rw [List.take_add_one, HX.out] at hy
          rcases List.mem_append.1 hy with hy | hy
          · exact HK.out y hy
          · simp at hy; subst hy; omega)
        go_wp2_with fail
        go_roundg (l.length - (k + 1))
        case measure => omega
        case rel => exact ⟨k + 1, by omega, rfl, by go_num, HN, rfl⟩
    · obtain rfl : k = l.length := by omega
      have hul := unlines_big l (fun x hx => HK.out x (by rw [List.take_length]; exact hx))
      have hbig : (unlines l).length ≤ 1000000000000 := by omega
      have hB1 := hb1
      clear HK hb1
      go_wp2_with fail
      refine (int_c s (by omega) _ hg1).mono ?_
      rw [HI.out]
      rintro e w2 ⟨rfl, hb2⟩
      have hB2 := chain hB1 hb2
      have hg2 := hg1.on hb2
      clear hB1 hg1 hb2
      go_wp2_with fail
      refine (intR_c s (by omega) _).mono ?_
      rw [HI.out]
      rintro e w3 ⟨rfl, hb3⟩
      have hB3 := chain hB2 hb3
      have hg3 := hg2.on hb3
      clear hB2 hg2 hb3
      go_wp2_with fail
      refine (unquote_c s (by omega) _ hg3).mono ?_
      rw [HU.out]
      rintro e w4 ⟨rfl, hb4⟩
      have hB4 := chain hB3 hb4
      have hg4 := hg3.on hb4
      clear hB3 hg3 hb4
      go_wp2_with fail
      refine (unquoteR_c s (by omega) _).mono ?_
      rw [HU.out]
      rintro e w5 ⟨rfl, hb5⟩
      have hB5 := chain hB4 hb5
      have hg5 := hg4.on hb5
      clear hB4 hg4 hb5
      go_wp2_with fail
      refine (decimal_c n hn _ hg5).mono ?_
      rintro e w6 ⟨rfl, hb6⟩
      have hB6 := chain hB5 hb6
      have hg6 := hg5.on hb6
      clear hB5 hg5 hb6
      go_wp2_with fail
      refine (decimalR_c n hn _).mono ?_
      rintro e w7 ⟨rfl, hb7⟩
      have hB7 := chain hB6 hb7
      have hg7 := hg6.on hb7
      clear hB6 hg6 hb7
      go_wp2_with fail
      refine (quote_c s (by omega) _).mono ?_
      rintro e w8 ⟨rfl, hb8⟩
      have hB8 := chain hB7 hb8
      have hg8 := hg7.on hb8
      clear hB7 hg7 hb8
      go_wp2_with fail
      refine (quoteR_c s (by omega) _).mono ?_
      rintro e w9 ⟨rfl, hb9⟩
      have hB9 := chain hB8 hb9
      have hg9 := hg8.on hb9
      clear hB8 hg8 hb9
      go_wp2_with fail
      refine (lines_c s (by omega) _ hg9).mono ?_
      rintro e w10 ⟨vl, rfl, hrl, hb10⟩
      obtain ⟨Al, cl, rfl⟩ := row_any hrl
      have HRlines0 := Lib.hid hrl
      clear hrl
      have hB10 := chain hB9 hb10
      have hg10 := hg9.on hb10
      clear hB9 hg9 hb10
      go_wp2_with fail
      refine (linesR_c s (by omega) _).mono ?_
      rintro e w11 ⟨vlinesR, rfl, howlinesR, hb11⟩
      have hrlinesR := howlinesR.row
      obtain ⟨AlinesR, clinesR, rfl⟩ := row_any hrlinesR
      clear howlinesR
      have HRlines := Lib.hid (row_on HRlines0.out hb11)
      have HRlinesR := Lib.hid hrlinesR
      clear hrlinesR HRlines0
      have hB11 := chain hB10 hb11
      have hg11 := hg10.on hb11
      clear hB10 hg10 hb11
      go_wp2_with fail
      refine (same_c (lines s) (lines s) _ _ _ HRlines.out HRlinesR.out (by omega)).mono ?_
      rintro e w12 ⟨rfl, hb12⟩
      clear HRlines HRlinesR
      have hB12 := chain hB11 hb12
      have hg12 := hg11.on hb12
      clear hB11 hg11 hb12
      go_wp2_with fail
      refine (unlines_c l _ hbig _ (row_on HV.out hB12)).mono ?_
      rintro e w13 ⟨rfl, hb13⟩
      have hB13 := chain hB12 hb13
      have hg13 := hg12.on hb13
      clear hB12 hg12 hb13
      go_wp2_with fail
      refine (unlinesR_c l _ hbig _ (row_on HV.out hB13)).mono ?_
      rintro e w14 ⟨rfl, hb14⟩
      have hB14 := chain hB13 hb14
      have hg14 := hg13.on hb14
      clear hB13 hg13 hb14
      go_wp2_with fail
      refine (fields_c s (by omega) _).mono ?_
      rintro e w15 ⟨vfields, rfl, howfields, hb15⟩
      have hrfields := howfields.row
      obtain ⟨Afields, cfields, rfl⟩ := row_any hrfields
      clear howfields
      have HRfields0 := Lib.hid hrfields
      clear hrfields
      have hB15 := chain hB14 hb15
      have hg15 := hg14.on hb15
      clear hB14 hg14 hb15
      go_wp2_with fail
      refine (fieldsR_c s (by omega) _).mono ?_
      rintro e w16 ⟨vfieldsR, rfl, howfieldsR, hb16⟩
      have hrfieldsR := howfieldsR.row
      obtain ⟨AfieldsR, cfieldsR, rfl⟩ := row_any hrfieldsR
      clear howfieldsR
      have HRfields := Lib.hid (row_on HRfields0.out hb16)
      have HRfieldsR := Lib.hid hrfieldsR
      clear hrfieldsR HRfields0
      have hB16 := chain hB15 hb16
      have hg16 := hg15.on hb16
      clear hB15 hg15 hb16
      go_wp2_with fail
      refine (same_c (fields s) (fields s) _ _ _ HRfields.out HRfieldsR.out (by omega)).mono ?_
      rintro e w17 ⟨rfl, hb17⟩
      clear HRfields HRfieldsR
      have hB17 := chain hB16 hb17
      have hg17 := hg16.on hb17
      clear hB16 hg16 hb17
      go_wp2_with fail
      refine (pattern_c p s (by omega) (by omega) _).mono ?_
      rintro e w18 ⟨rfl, hb18⟩
      have hB18 := chain hB17 hb18
      have hg18 := hg17.on hb18
      clear hB17 hg17 hb18
      go_wp2_with fail
      refine (patternR_c p s (by omega) (by omega) _).mono ?_
      rintro e w19 ⟨rfl, hb19⟩
      have hB19 := chain hB18 hb19
      have hg19 := hg18.on hb19
      clear hB18 hg18 hb19
      go_wp2_with fail
      refine (magic_c p (by omega) _).mono ?_
      rintro e w20 ⟨rfl, hb20⟩
      have hB20 := chain hB19 hb20
      have hg20 := hg19.on hb20
      clear hB19 hg19 hb20
      go_wp2_with fail
      refine (magicR_c p (by omega) _).mono ?_
      rintro e w21 ⟨rfl, hb21⟩
      have hB21 := chain hB20 hb21
      have hg21 := hg20.on hb21
      clear hB20 hg20 hb21
      go_wp2_with fail
      refine (plain_c p (by omega) _).mono ?_
      rintro e w22 ⟨rfl, hb22⟩
      have hB22 := chain hB21 hb22
      have hg22 := hg21.on hb22
      clear hB21 hg21 hb22
      go_wp2_with fail
      refine (plainR_c p (by omega) _).mono ?_
      rintro e w23 ⟨rfl, hb23⟩
      have hB23 := chain hB22 hb23
      have hg23 := hg22.on hb23
      clear hB22 hg22 hb23
      go_wp2_with fail
      refine (escape_c s (by omega) _).mono ?_
      rintro e w24 ⟨rfl, hb24⟩
      have hB24 := chain hB23 hb24
      have hg24 := hg23.on hb24
      clear hB23 hg23 hb24
      go_wp2_with fail
      refine (escapeR_c s (by omega) _).mono ?_
      rintro e w25 ⟨rfl, hb25⟩
      have hB25 := chain hB24 hb25
      have hg25 := hg24.on hb25
      clear hB24 hg24 hb25
      go_wp2_with fail
      go_ret
      exact ⟨ret_bool (by simp), hB25⟩
end Go.Proofs.YtanjmljlpdhlnaaGreatDoor
