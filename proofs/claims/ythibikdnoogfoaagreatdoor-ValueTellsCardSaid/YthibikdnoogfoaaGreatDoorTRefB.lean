/-
  The reference's Int: it returns what chapter 2 says; of what was there nothing has turned.
-/
import Derived.Test.YthibikdnoogfoaaGreatDoorTRefA
namespace Go.Proofs.YthibikdnoogfoaaGreatDoor
open Go Go.RowKit Go.Sort Wire Txt

def stepR (acc : Int) (c : UInt8) : Int := wrap64 (wrap64 (acc * 10) - ((c.toNat : Int) - 48))
theorem wrap64_inR (n : Int) : InR (wrap64 n) := by
  unfold wrap64 InR
  omega
theorem wrap64_id (n : Int) (h : InR n) : wrap64 n = n := IntWalk.wrap64_in n h
theorem fold_digits : ∀ (u : Nat), u ≤ 9223372036854775808 → (Lib.decDigits u).foldl stepR 0 = -(u : Int) := by
  intro u
  induction u using Nat.strongRecOn with
  | _ u ih =>
    intro hu
    by_cases h : u < 10
    · rw [Lib.decDigits_one h]
      simp only [List.foldl_cons, List.foldl_nil, stepR]
      rw [(digit_of u h).2.2, wrap64_id (0 * 10) ⟨by omega, by omega⟩, wrap64_id _ ⟨by omega, by omega⟩]
      omega
    · rw [Wire.decDigits_step u h, List.foldl_append, ih (u / 10) (by omega) (by omega)]
      simp only [List.foldl_cons, List.foldl_nil, stepR]
      rw [(digit_of (u % 10) (by omega)).2.2, wrap64_id (-((u / 10 : Nat) : Int) * 10) ⟨by omega, by omega⟩, wrap64_id _ ⟨by omega, by omega⟩]
      omega
/-- Where the digits begin. -/
def sgn (s : List UInt8) : Nat := if s.head? = some 45 then 1 else 0
def accR (s : List UInt8) (k : Nat) : Int := ((s.take k).drop (sgn s)).foldl stepR 0
def valR (s : List UInt8) : Int := if sgn s = 1 then accR s s.length else wrap64 (-accR s s.length)
theorem accR_inR (s : List UInt8) (k : Nat) : InR (accR s k) := by
  unfold accR
  rcases List.eq_nil_or_concat ((s.take k).drop (sgn s)) with h | ⟨l, c, h⟩
  · rw [h]; exact ⟨by simp, by simp⟩
  · rw [h, List.concat_eq_append, List.foldl_append]
    exact wrap64_inR _
theorem accR_next (s : List UInt8) (k : Nat) (c : UInt8) (h : s[k]? = some c) (hk : sgn s ≤ k) : accR s (k + 1) = stepR (accR s k) c := by
  have hl := (List.getElem?_eq_some_iff.1 h).1
  unfold accR
  rw [List.take_add_one, h, List.drop_append_of_le_length (by rw [List.length_take]; omega), List.foldl_append]
  rfl
theorem accR_first (s : List UInt8) (h : sgn s = 1) : accR s 1 = 0 := by
  unfold accR
  rw [h, List.drop_eq_nil_of_le (by rw [List.length_take]; omega)]
  rfl
theorem accR_zero (s : List UInt8) : accR s 0 = 0 := by unfold accR; simp
theorem valR_inR (s : List UInt8) : InR (valR s) := by
  unfold valR
  split
  · exact accR_inR s _
  · exact wrap64_inR _
theorem itoa_head (n : Int) (h : InR n) : valR (Lib.itoa n) = n := by
  obtain ⟨h0, h1⟩ := h
  by_cases hn : n < 0
  · have e := itoa_neg n hn
    have hs : sgn (Lib.itoa n) = 1 := by unfold sgn; rw [e]; simp
    unfold valR accR
    rw [if_pos hs, hs, List.take_length, e]
    simp only [List.drop_succ_cons, List.drop_zero]
    rw [fold_digits _ (by omega)]
    omega
  · have e := itoa_nonneg n hn
    have hs : sgn (Lib.itoa n) = 0 := by
      unfold sgn
      rw [e, if_neg]
      intro hh
      have := List.mem_of_mem_head? (by rw [hh]; rfl : (45 : UInt8) ∈ (Lib.decDigits n.toNat).head?)
      have := decDigits_digit _ _ this
      simp at this
    unfold valR accR
    rw [if_neg (by omega), hs, List.take_length, e, List.drop_zero, fold_digits _ (by omega), wrap64_id _ ⟨by omega, by omega⟩]
    omega
theorem itoa_digit (n : Int) (k : Nat) (c : UInt8) (h : (Lib.itoa n)[k]? = some c) (hk : k = 0 → c ≠ 45) : 48 ≤ c.toNat ∧ c.toNat ≤ 57 := by
  by_cases hn : n < 0
  · rw [itoa_neg n hn] at h
    cases k with
    | zero => simp at h; exact absurd h.symm (hk rfl)
    | succ k => exact decDigits_digit _ c (List.mem_of_getElem? (by simpa using h))
  · rw [itoa_nonneg n hn] at h
    exact decDigits_digit _ c (List.mem_of_getElem? h)
theorem readDig_nondigit (s : List UInt8) (k : Nat) (c : UInt8) (h : s[k]? = some c) (hk : k = 0 → c ≠ 45) (hc : ¬ (48 ≤ c.toNat ∧ c.toNat ≤ 57)) : readDig s = none := by
  cases hr : readDig s with
  | none => rfl
  | some n =>
    exfalso
    obtain ⟨_, hs⟩ := (readDig_iff s n).1 hr
    rw [hs] at h
    exact hc (itoa_digit n k c h hk)
theorem readDig_len (s : List UInt8) (h : s.length = 0 ∨ 20 < s.length) : readDig s = none := by
  cases hr : readDig s with
  | none => rfl
  | some n =>
    exfalso
    obtain ⟨hn, hs⟩ := (readDig_iff s n).1 hr
    have h1 := itoa_len n hn
    have h2 := itoa_ne n
    rw [← hs] at h1 h2
    rcases h with h | h
    · exact h2 (List.eq_nil_of_length_eq_zero h)
    · omega
theorem readDig_val (s : List UInt8) : readDig s = if Lib.itoa (valR s) = s then some (valR s) else none := by
  by_cases h : Lib.itoa (valR s) = s
  · rw [if_pos h]
    exact (readDig_iff s _).2 ⟨valR_inR s, h.symm⟩
  · rw [if_neg h]
    cases hr : readDig s with
    | none => rfl
    | some n =>
      exfalso
      obtain ⟨hn, hs⟩ := (readDig_iff s n).1 hr
      apply h
      rw [hs, itoa_head n hn]

theorem intV_no {s : List UInt8} (h : readDig s = none) : intV s = .tuple #[.int .i64 0, .bool false] := by unfold intV; rw [h]
theorem intV_yes {s : List UInt8} {n : Int} (h : readDig s = some n) : intV s = .tuple #[.int .i64 n, .bool true] := by unfold intV; rw [h]

set_option maxHeartbeats 2000000 in
set_option maxRecDepth 100000 in
theorem intR_c (s : List UInt8) (hs : s.length ≤ 1000000) (w : World) :
    Calls Tryz.prog 64 #[.string ⟨s.toArray⟩] w fun e w' => e = .returned (intV s) ∧ Below w.heap.size w w' := by
  by_cases hl0 : s.length = 0
  · have HV := Lib.hid (intV_no (readDig_len s (Or.inl hl0)))
    have hnil : s = [] := List.eq_nil_of_length_eq_zero hl0
    subst hnil
    clear hl0
    go_enter Tryz.func64, Tryz.ntmps64
    go_wp2_with fail
    go_ret2
    exact ⟨congrArg Ending.returned HV.out.symm, Below.refl _ _⟩
  · have b0 : ((s.length : Int) == 0) = false := beq_no (by omega)
    by_cases hl20 : 20 < s.length
    · have HV := Lib.hid (intV_no (readDig_len s (Or.inr hl20)))
      clear hl0
      go_enter Tryz.func64, Tryz.ntmps64
      go_wp2_with fail
      go_ret2
      exact ⟨congrArg Ending.returned HV.out.symm, Below.refl _ _⟩
    · have hpos : 1 ≤ s.length := by omega
      clear hl0
      obtain ⟨d, hd⟩ : ∃ d, s[0]? = some d := ⟨s[0], List.getElem?_eq_getElem hpos⟩
      have e0 := at_k s 0 d hd (by rw [ba_size]; exact hpos)
      have HD := Lib.hid hd
      have HSG := Lib.hid (show sgn s = if d.toNat = 45 then 1 else 0 by
        unfold sgn
        rw [List.head?_eq_getElem?, hd]
        by_cases h : d.toNat = 45
        · rw [if_pos h, byte_of d 45 h]; rfl
        · rw [if_neg h, if_neg (by intro e; injection e with e; rw [e] at h; exact h rfl)])
      clear hd
      go_enter Tryz.func64, Tryz.ntmps64
      go_wp2_with fail
      go_loopg [4, 5] s.length (fun g n i wr => ∃ k : Nat, k ≤ s.length ∧ g = s.length - k ∧ i = .int .i64 k ∧ n = .int .i64 (accR s k) ∧ w = wr)
      case atStart => exact ⟨0, Nat.zero_le _, rfl, rfl, by rw [accR_zero], rfl⟩
      case round =>
        obtain ⟨k, hk, rfl, rfl, rfl, rfl⟩ := hrel
        by_cases hlt : k < s.length
        · obtain ⟨c, hc⟩ : ∃ c, s[k]? = some c := ⟨s[k], List.getElem?_eq_getElem hlt⟩
          have ei := at_k s k c hc (by rw [ba_size]; exact hlt)
          have HC := Lib.hid hc
          have hin := accR_inR s k
          obtain ⟨x, hx⟩ : ∃ x, x = accR s k := ⟨_, rfl⟩
          rw [← hx] at hin ⊢
          have HX := Lib.hid hx
          obtain ⟨hx0, hx1⟩ := hin
          clear hc hx
          by_cases hfirst : k = 0 ∧ d.toNat = 45
          · obtain ⟨rfl, h45⟩ := hfirst
            have b45 : ((d.toNat : Int) == 45) = true := by rw [h45]; rfl
            have HN := Lib.hid (accR_first s (by rw [HSG.out, if_pos h45]))
            have HZ := Lib.hid (accR_zero s)
            clear h45
            go_wp2_with fail
            go_roundg (s.length - 1)
            case measure => omega
            case rel => exact ⟨1, hpos, rfl, rfl, by rw [HN.out, HX.out, HZ.out], rfl⟩
          · have HK := Lib.hid (show k = 0 → c ≠ 45 by
              rintro rfl e
              have := HC.out
              rw [HD.out] at this
              injection this with this
              rw [this, e] at hfirst
              exact hfirst ⟨rfl, rfl⟩)
            have HSK := Lib.hid (show sgn s ≤ k by
              rw [HSG.out]
              split
              · rename_i h
                rcases Nat.eq_zero_or_pos k with h0 | h0
                · exact absurd ⟨h0, h⟩ hfirst
                · exact h0
              · omega)
            by_cases hdig : 48 ≤ c.toNat ∧ c.toNat ≤ 57
            · obtain ⟨h48, h57⟩ := hdig
              have HN := Lib.hid (accR_next s k c HC.out HSK.out)
              by_cases hk0 : k = 0
              · subst hk0
                obtain rfl : d = c := by
                  have := HC.out
                  rw [HD.out] at this
                  injection this
                clear ei
                have b45 : ((d.toNat : Int) == 45) = false := beq_no (by intro e; exact hfirst ⟨rfl, by omega⟩)
                clear hfirst
                go_wp2_with fail
                go_roundg (s.length - 1)
                case measure => omega
                case rel => exact ⟨1, hpos, rfl, rfl, by rw [HN.out, ← HX.out]; rfl, rfl⟩
              · have bk : ((k : Int) == 0) = false := beq_no (by omega)
                clear hfirst hk0
                go_wp2_with fail
                go_roundg (s.length - (k + 1))
                case measure => omega
                case rel => exact ⟨k + 1, by omega, rfl, by go_num, by rw [HN.out, ← HX.out]; rfl, rfl⟩
            · have HV := Lib.hid (intV_no (readDig_nondigit s k c HC.out HK.out hdig))
              have hor : c.toNat < 48 ∨ 57 < c.toNat := by omega
              clear hdig
              by_cases hk0 : k = 0
              · subst hk0
                obtain rfl : d = c := by
                  have := HC.out
                  rw [HD.out] at this
                  injection this
                clear ei
                have b45 : ((d.toNat : Int) == 45) = false := beq_no (by intro e; exact hfirst ⟨rfl, by omega⟩)
                clear hfirst
                by_cases hlo : d.toNat < 48
                · clear hor
                  go_wp2_with fail
                  go_ret2
                  exact ⟨congrArg Ending.returned HV.out.symm, Below.refl _ _⟩
                · have hhi : 57 < d.toNat := by omega
                  clear hor
                  go_wp2_with fail
                  go_ret2
                  exact ⟨congrArg Ending.returned HV.out.symm, Below.refl _ _⟩
              · have bk : ((k : Int) == 0) = false := beq_no (by omega)
                clear hfirst hk0
                by_cases hlo : c.toNat < 48
                · clear hor
                  go_wp2_with fail
                  go_ret2
                  exact ⟨congrArg Ending.returned HV.out.symm, Below.refl _ _⟩
                · have hhi : 57 < c.toNat := by omega
                  clear hor
                  go_wp2_with fail
                  go_ret2
                  exact ⟨congrArg Ending.returned HV.out.symm, Below.refl _ _⟩
        · obtain rfl : k = s.length := by omega
          have HVR := Lib.hid (readDig_val s)
          have hin := accR_inR s s.length
          have hvin := valR_inR s
          by_cases h45 : d.toNat = 45
          · have HVL := Lib.hid (show valR s = accR s s.length by unfold valR; rw [if_pos (by rw [HSG.out, if_pos h45])])
            have b45 : ((d.toNat : Int) != 45) = false := by rw [h45]; rfl
            obtain ⟨x, hx⟩ : ∃ x, x = accR s s.length := ⟨_, rfl⟩
            rw [← hx] at hin ⊢
            have HX := Lib.hid (HVL.out.trans hx.symm)
            clear hx h45
            have hxx : InR x := hin
            obtain ⟨hx0, hx1⟩ := hin
            by_cases hq : Lib.itoa x = s
            · have HV := Lib.hid (intV_yes (show readDig s = some x by rw [HVR.out, HX.out, if_pos hq]))
              have bq : (!Lib.itoa x == s) = false := by rw [hq]; simp
              clear hq
              go_wp2_with fail
              refine (decimalR_c x hxx _).mono ?_
              rintro e w2 ⟨rfl, hb2⟩
              go_wp2_with fail
              go_ret2
              exact ⟨congrArg Ending.returned HV.out.symm, hb2⟩
            · have HV := Lib.hid (intV_no (show readDig s = none by rw [HVR.out, HX.out, if_neg hq]))
              have bq : (!Lib.itoa x == s) = true := by simp [hq]
              clear hq
              go_wp2_with fail
              refine (decimalR_c x hxx _).mono ?_
              rintro e w2 ⟨rfl, hb2⟩
              go_wp2_with fail
              go_ret2
              exact ⟨congrArg Ending.returned HV.out.symm, hb2⟩
          · have HVL := Lib.hid (show valR s = wrap64 (-accR s s.length) by unfold valR; rw [if_neg (by rw [HSG.out, if_neg h45]; omega)])
            have b45 : ((d.toNat : Int) != 45) = true := by rw [bne_iff_ne]; omega
            obtain ⟨x, hx⟩ : ∃ x, x = accR s s.length := ⟨_, rfl⟩
            rw [← hx] at hin ⊢
            have HX := Lib.hid (show valR s = wrap64 (-x) by rw [HVL.out, hx])
            clear hx h45
            have hxx := wrap64_inR (-x)
            obtain ⟨hx0, hx1⟩ := hin
            by_cases hq : Lib.itoa (wrap64 (-x)) = s
            · have HV := Lib.hid (intV_yes (show readDig s = some (wrap64 (-x)) by rw [HVR.out, HX.out, if_pos hq]))
              have bq : (!Lib.itoa (wrap64 (-x)) == s) = false := by rw [hq]; simp
              clear hq
              go_wp2_with fail
              refine (decimalR_c (wrap64 (-x)) hxx _).mono ?_
              rintro e w2 ⟨rfl, hb2⟩
              go_wp2_with fail
              go_ret2
              exact ⟨congrArg Ending.returned HV.out.symm, hb2⟩
            · have HV := Lib.hid (intV_no (show readDig s = none by rw [HVR.out, HX.out, if_neg hq]))
              have bq : (!Lib.itoa (wrap64 (-x)) == s) = true := by simp [hq]
              clear hq
              go_wp2_with fail
              refine (decimalR_c (wrap64 (-x)) hxx _).mono ?_
              rintro e w2 ⟨rfl, hb2⟩
              go_wp2_with fail
              go_ret2
              exact ⟨congrArg Ending.returned HV.out.symm, hb2⟩
end Go.Proofs.YthibikdnoogfoaaGreatDoor
