/-
  TextStars returns true, for every three strings that can be; of what was there nothing has turned.
-/
import Derived.Test.YtanjmljlpdhlnaaDoorTSmall
import Derived.Test.YtanjmljlpdhlnaaDoorTQuote
namespace Go.Proofs.YtanjmljlpdhlnaaDoor
open Go Go.RowKit Go.Sort Wire Txt

theorem chainK {w wr w2 : World} (h : Below w.heap.size w wr) (k : Below wr.heap.size wr w2) : Below w.heap.size w w2 := chain h k
/-- Whether f holds at some number below k. -/
def anyTo (f : Nat → Bool) : Nat → Bool
  | 0 => false
  | k + 1 => anyTo f k || f k
theorem anyTo_iff (f : Nat → Bool) (k : Nat) : anyTo f k = true ↔ ∃ i, i < k ∧ f i = true := by
  induction k with
  | zero => simp [anyTo]
  | succ k ih =>
    simp only [anyTo, Bool.or_eq_true, ih]
    constructor
    · rintro (⟨i, hi, h⟩ | h)
      · exact ⟨i, by omega, h⟩
      · exact ⟨k, by omega, h⟩
    · rintro ⟨i, hi, h⟩
      by_cases he : i = k
      · subst he; exact Or.inr h
      · exact Or.inl ⟨i, by omega, h⟩
def ends (p s : List UInt8) (k : Nat) : Bool := anyTo (fun i => pat p (s.drop i)) k
def begins (p s : List UInt8) (k : Nat) : Bool := anyTo (fun i => pat p (s.take i)) k
theorem ends_all (p s : List UInt8) : pat (42 :: p) s = ends p s (s.length + 1) := by
  rw [Bool.eq_iff_iff, pat_star]
  unfold ends
  rw [anyTo_iff]
  exact ⟨fun ⟨k, hk, h⟩ => ⟨k, by omega, h⟩, fun ⟨k, hk, h⟩ => ⟨k, by omega, h⟩⟩
theorem begins_all (p s : List UInt8) (h : p.getLast? ≠ some 92) : pat (p ++ [42]) s = begins p s (s.length + 1) := by
  rw [Bool.eq_iff_iff, pat_snoc p s h]
  unfold begins
  rw [anyTo_iff]
  exact ⟨fun ⟨k, hk, h⟩ => ⟨k, by omega, h⟩, fun ⟨k, hk, h⟩ => ⟨k, by omega, h⟩⟩

set_option maxHeartbeats 2000000 in
set_option maxRecDepth 100000 in
theorem starsLaw_big (p s t : List UInt8) (hp : p.length ≤ 9223372036854775807) (hs : s.length ≤ 9223372036854775807) (ht : t.length ≤ 9223372036854775807) (h : 60 < p.length ∨ 100 < s.length ∨ 100 < t.length) (w : World) (hg : Good w) :
    Calls Tryd.prog 5 #[.string ⟨p.toArray⟩, .string ⟨s.toArray⟩, .string ⟨t.toArray⟩] w fun e w' => e = .returned (.bool true) ∧ Below w.heap.size w w' := by
  by_cases h1 : 60 < p.length
  · clear h
    go_enter Tryd.func5, Tryd.ntmps5
    go_wp2_with fail
    refine (small_c _ hg).mono ?_
    rintro e w1 ⟨rfl, hb1⟩
    go_wp2_with fail
    go_ret
    exact ⟨rfl, hb1⟩
  · by_cases h2 : 100 < s.length
    · clear h
      go_enter Tryd.func5, Tryd.ntmps5
      go_wp2_with fail
      refine (small_c _ hg).mono ?_
      rintro e w1 ⟨rfl, hb1⟩
      go_wp2_with fail
      go_ret
      exact ⟨rfl, hb1⟩
    · have h3 : 100 < t.length := by omega
      clear h
      go_enter Tryd.func5, Tryd.ntmps5
      go_wp2_with fail
      refine (small_c _ hg).mono ?_
      rintro e w1 ⟨rfl, hb1⟩
      go_wp2_with fail
      go_ret
      exact ⟨rfl, hb1⟩

set_option maxHeartbeats 2000000 in
set_option maxRecDepth 100000 in
theorem starsLaw_c (p s t : List UInt8) (hp : p.length ≤ 9223372036854775807) (hs : s.length ≤ 9223372036854775807) (ht : t.length ≤ 9223372036854775807) (w : World) (hg : Good w) :
    Calls Tryd.prog 5 #[.string ⟨p.toArray⟩, .string ⟨s.toArray⟩, .string ⟨t.toArray⟩] w fun e w' => e = .returned (.bool true) ∧ Below w.heap.size w w' := by
  by_cases hbig : 60 < p.length ∨ 100 < s.length ∨ 100 < t.length
  · exact starsLaw_big p s t hp hs ht hbig w hg
  have hp1 : ¬ 60 < p.length := by omega
  have hs1 : ¬ 100 < s.length := by omega
  have ht1 : ¬ 100 < t.length := by omega
  have hel := escape_len t
  clear hbig hp hs ht
  go_enter Tryd.func5, Tryd.ntmps5
  go_wp2_with fail
  refine (small_c _ hg).mono ?_
  rintro e w1 ⟨rfl, hb1⟩
  go_wp2_with fail
  go_loopw [8, 9, 10] (fun E B i wr => ∃ k : Nat, k ≤ s.length + 1 ∧ i = .int .i64 k ∧ E = .bool (ends p s k) ∧ B = .bool (begins p s k) ∧ Below w.heap.size w wr) (fun _ _ i _ => s.length + 1 - (intOf i).toNat)
  case atStart => exact ⟨0, Nat.zero_le _, rfl, rfl, rfl, hb1⟩
  case round =>
    obtain ⟨k, hk, rfl, rfl, rfl, hbk⟩ := hrel
    clear hb1
    by_cases hlt : k ≤ s.length
    · have hd := ba_drop s k
      have ht := ba_take s k
      have hdl : (s.drop k).length ≤ 1000000 := by rw [List.length_drop]; omega
      have htl : (s.take k).length ≤ 1000000 := by rw [List.length_take]; omega
      have HE1 := Lib.hid (show ends p s (k + 1) = (ends p s k || pat p (s.drop k)) from rfl)
      have HB1 := Lib.hid (show begins p s (k + 1) = (begins p s k || pat p (s.take k)) from rfl)
      obtain ⟨E, hE⟩ : ∃ E, E = ends p s k := ⟨_, rfl⟩
      obtain ⟨B, hB⟩ : ∃ B, B = begins p s k := ⟨_, rfl⟩
      rw [← hE, ← hB]
      have HE := Lib.hid hE
      have HB := Lib.hid hB
      clear hE hB
      cases E with
      | true =>
        cases B with
        | true =>
          go_wp2_with fail
          go_roundw
          case rel => exact ⟨k + 1, by omega, by go_num, by rw [HE1.out, ← HE.out]; rfl, by rw [HB1.out, ← HB.out]; rfl, hbk⟩
          case measure => simp [intOf]; omega
        | false =>
          go_wp2_with fail
          refine (pattern_c p (s.take k) (by omega) (by omega) _).mono ?_
          rintro e w3 ⟨rfl, hb3⟩
          go_wp2_with fail
          go_roundw
          case rel => exact ⟨k + 1, by omega, by go_num, by rw [HE1.out, ← HE.out]; rfl, by rw [HB1.out, ← HB.out]; rfl, hbk.trans (hb3.mono hbk.size)⟩
          case measure => simp [intOf]; omega
      | false =>
        cases B with
        | true =>
          go_wp2_with fail
          refine (pattern_c p (s.drop k) (by omega) (by omega) _).mono ?_
          rintro e w3 ⟨rfl, hb3⟩
          go_wp2_with fail
          go_roundw
          case rel => exact ⟨k + 1, by omega, by go_num, by rw [HE1.out, ← HE.out]; rfl, by rw [HB1.out, ← HB.out]; rfl, hbk.trans (hb3.mono hbk.size)⟩
          case measure => simp [intOf]; omega
        | false =>
          go_wp2_with fail
          refine (pattern_c p (s.drop k) (by omega) (by omega) _).mono ?_
          rintro e w3 ⟨rfl, hb3⟩
          go_wp2_with fail
          refine (pattern_c p (s.take k) (by omega) (by omega) _).mono ?_
          rintro e w4 ⟨rfl, hb4⟩
          go_wp2_with fail
          go_roundw
          case rel => exact ⟨k + 1, by omega, by go_num, by rw [HE1.out, ← HE.out]; rfl, by rw [HB1.out, ← HB.out]; rfl, (hbk.trans (hb3.mono hbk.size)).trans (hb4.mono (Nat.le_trans hbk.size hb3.size))⟩
          case measure => simp [intOf]; omega
    · obtain rfl : k = s.length + 1 := by omega
      have HS := Lib.hid (ends_all p s)
      have HBG := Lib.hid (begins_all p s)
      obtain ⟨E, hE⟩ : ∃ E, E = ends p s (s.length + 1) := ⟨_, rfl⟩
      obtain ⟨B, hB⟩ : ∃ B, B = begins p s (s.length + 1) := ⟨_, rfl⟩
      rw [← hE] at HS ⊢
      rw [← hB] at HBG ⊢
      clear hE hB
      have a1 := str_add [42] p
      have a2 := str_add [63] p
      have a3 := str_add (escape t) p
      have a4 := str_add t s
      have a5 := str_add p [42]
      have HQ := Lib.hid (pat_any p s)
      have HR := Lib.hid (pat_escape t p s)
      obtain ⟨R, hR⟩ : ∃ R, R = pat p s := ⟨_, rfl⟩
      rw [← hR] at HR
      have HRR := Lib.hid hR
      clear hR
      go_wp2_with fail
      refine (pattern_c (42 :: p) s (by rw [List.length_cons]; omega) (by omega) _).mono ?_
      rw [HS.out]
      rintro e w2 ⟨rfl, hb2⟩
      by_cases hse : s = []
      · have HQ2 := Lib.hid (show pat (63 :: p) s = false by rw [HQ.out, hse]; rfl)
        have hsq : (s == []) = true := by rw [hse]; rfl
        clear hse
        go_wp2_with fail
        refine (pattern_c (63 :: p) s (by rw [List.length_cons]; omega) (by omega) _).mono ?_
        rw [HQ2.out]
        rintro e w3 ⟨rfl, hb3⟩
        go_wp2_with fail
        refine (escape_c t (by omega) _).mono ?_
        rintro e w5 ⟨rfl, hb5⟩
        go_wp2_with fail
        refine (pattern_c (escape t ++ p) (t ++ s) (by rw [List.length_append]; omega) (by rw [List.length_append]; omega) _).mono ?_
        rw [HR.out]
        rintro e w6 ⟨rfl, hb6⟩
        go_wp2_with fail
        refine (pattern_c p s (by omega) (by omega) _).mono ?_
        rw [← HRR.out]
        rintro e w7 ⟨rfl, hb7⟩
        by_cases hpe : p = []
        · have HL := Lib.hid (HBG.out (by rw [hpe]; simp))
          have hpq : (p == []) = true := by rw [hpe]; rfl
          clear hpe
          go_wp2_with fail
          refine (pattern_c (p ++ [42]) s (by rw [List.length_append, List.length_singleton]; omega) (by omega) _).mono ?_
          rw [HL.out]
          rintro e w8 ⟨rfl, hb8⟩
          go_wp2_with fail
          go_ret
          exact ⟨ret_bool (by simp), (chainK (chainK (chainK (chainK (chainK (chainK hbk hb2) hb3) hb5) hb6) hb7) hb8)⟩
        · have hpq : (p == []) = false := by simpa using hpe
          have hpl : 1 ≤ p.length := List.length_pos_iff.2 hpe
          obtain ⟨d, hd⟩ : ∃ d, p.getLast? = some d := ⟨p.getLast hpe, List.getLast?_eq_some_getLast hpe⟩
          have el := last_at p d hd (by rw [ba_size]; omega)
          by_cases h92 : d.toNat = 92
          · have b92 : ((d.toNat : Int) == 92) = true := by rw [h92]; rfl
            clear h92 hd hpe
            go_wp2_with fail
            go_ret
            exact ⟨rfl, (chainK (chainK (chainK (chainK (chainK hbk hb2) hb3) hb5) hb6) hb7)⟩
          · have HL := Lib.hid (HBG.out (by rw [hd]; intro e; injection e with e; rw [e] at h92; exact h92 rfl))
            have b92 : ((d.toNat : Int) == 92) = false := beq_no (by omega)
            clear h92 hd hpe
            go_wp2_with fail
            refine (pattern_c (p ++ [42]) s (by rw [List.length_append, List.length_singleton]; omega) (by omega) _).mono ?_
            rw [HL.out]
            rintro e w8 ⟨rfl, hb8⟩
            go_wp2_with fail
            go_ret
            exact ⟨ret_bool (by simp), (chainK (chainK (chainK (chainK (chainK (chainK hbk hb2) hb3) hb5) hb6) hb7) hb8)⟩
      · have HQ2 := Lib.hid (show pat (63 :: p) s = pat p (s.drop 1) by rw [HQ.out]; cases s with
          | nil => exact absurd rfl hse
          | cons c r => simp)
        have hsq : (s == []) = false := by simpa using hse
        have hsl : 1 ≤ s.length := List.length_pos_iff.2 hse
        have hd1 := ba_drop s 1
        have hmin : min (1 : Int) (s.length : Int) = 1 := by omega
        obtain ⟨Z, hZ⟩ : ∃ Z, Z = pat p (s.drop 1) := ⟨_, rfl⟩
        rw [← hZ] at HQ2
        have HZ := Lib.hid (show pat p s.tail = Z by rw [← List.drop_one]; exact hZ.symm)
        clear hse hZ
        go_wp2_with fail
        refine (pattern_c (63 :: p) s (by rw [List.length_cons]; omega) (by omega) _).mono ?_
        rw [HQ2.out]
        rintro e w3 ⟨rfl, hb3⟩
        go_wp2_with fail
        refine (pattern_c p s.tail (by omega) (by rw [List.length_tail]; omega) _).mono ?_
        rw [HZ.out]
        rintro e w4 ⟨rfl, hb4⟩
        go_wp2_with fail
        refine (escape_c t (by omega) _).mono ?_
        rintro e w5 ⟨rfl, hb5⟩
        go_wp2_with fail
        refine (pattern_c (escape t ++ p) (t ++ s) (by rw [List.length_append]; omega) (by rw [List.length_append]; omega) _).mono ?_
        rw [HR.out]
        rintro e w6 ⟨rfl, hb6⟩
        go_wp2_with fail
        refine (pattern_c p s (by omega) (by omega) _).mono ?_
        rw [← HRR.out]
        rintro e w7 ⟨rfl, hb7⟩
        by_cases hpe : p = []
        · have HL := Lib.hid (HBG.out (by rw [hpe]; simp))
          have hpq : (p == []) = true := by rw [hpe]; rfl
          clear hpe
          go_wp2_with fail
          refine (pattern_c (p ++ [42]) s (by rw [List.length_append, List.length_singleton]; omega) (by omega) _).mono ?_
          rw [HL.out]
          rintro e w8 ⟨rfl, hb8⟩
          go_wp2_with fail
          go_ret
          exact ⟨ret_bool (by simp), (chainK (chainK (chainK (chainK (chainK (chainK (chainK hbk hb2) hb3) hb4) hb5) hb6) hb7) hb8)⟩
        · have hpq : (p == []) = false := by simpa using hpe
          have hpl : 1 ≤ p.length := List.length_pos_iff.2 hpe
          obtain ⟨d, hd⟩ : ∃ d, p.getLast? = some d := ⟨p.getLast hpe, List.getLast?_eq_some_getLast hpe⟩
          have el := last_at p d hd (by rw [ba_size]; omega)
          by_cases h92 : d.toNat = 92
          · have b92 : ((d.toNat : Int) == 92) = true := by rw [h92]; rfl
            clear h92 hd hpe
            go_wp2_with fail
            go_ret
            exact ⟨rfl, (chainK (chainK (chainK (chainK (chainK (chainK hbk hb2) hb3) hb4) hb5) hb6) hb7)⟩
          · have HL := Lib.hid (HBG.out (by rw [hd]; intro e; injection e with e; rw [e] at h92; exact h92 rfl))
            have b92 : ((d.toNat : Int) == 92) = false := beq_no (by omega)
            clear h92 hd hpe
            go_wp2_with fail
            refine (pattern_c (p ++ [42]) s (by rw [List.length_append, List.length_singleton]; omega) (by omega) _).mono ?_
            rw [HL.out]
            rintro e w8 ⟨rfl, hb8⟩
            go_wp2_with fail
            go_ret
            exact ⟨ret_bool (by simp), (chainK (chainK (chainK (chainK (chainK (chainK (chainK hbk hb2) hb3) hb4) hb5) hb6) hb7) hb8)⟩
end Go.Proofs.YtanjmljlpdhlnaaDoor
