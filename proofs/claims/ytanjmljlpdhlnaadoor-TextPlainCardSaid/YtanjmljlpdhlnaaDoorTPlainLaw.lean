/-
  TextPlain returns true, for every two strings that can be; of what was there nothing has turned.
-/
import Derived.Test.YtanjmljlpdhlnaaDoorTSmall
import Derived.Test.YtanjmljlpdhlnaaDoorTMagic
namespace Go.Proofs.YtanjmljlpdhlnaaDoor
open Go Go.RowKit Go.Sort Wire Txt

set_option maxHeartbeats 2000000 in
set_option maxRecDepth 100000 in
theorem plainLaw_big (p s : List UInt8) (hp : p.length ≤ 9223372036854775807) (hs : s.length ≤ 9223372036854775807) (h : 100 < p.length ∨ 300 < s.length) (w : World) (hg : Good w) :
    Calls Tryd.prog 6 #[.string ⟨p.toArray⟩, .string ⟨s.toArray⟩] w fun e w' => e = .returned (.bool true) ∧ Below w.heap.size w w' := by
  by_cases h1 : 100 < p.length
  · clear h
    go_enter Tryd.func6, Tryd.ntmps6
    go_wp2_with fail
    refine (small_c _ hg).mono ?_
    rintro e w1 ⟨rfl, hb1⟩
    go_wp2_with fail
    go_ret
    exact ⟨rfl, hb1⟩
  · have h2 : 300 < s.length := by omega
    clear h
    go_enter Tryd.func6, Tryd.ntmps6
    go_wp2_with fail
    refine (small_c _ hg).mono ?_
    rintro e w1 ⟨rfl, hb1⟩
    go_wp2_with fail
    go_ret
    exact ⟨rfl, hb1⟩

set_option maxHeartbeats 2000000 in
set_option maxRecDepth 100000 in
theorem plainLaw_c (p s : List UInt8) (hp : p.length ≤ 9223372036854775807) (hs : s.length ≤ 9223372036854775807) (w : World) (hg : Good w) :
    Calls Tryd.prog 6 #[.string ⟨p.toArray⟩, .string ⟨s.toArray⟩] w fun e w' => e = .returned (.bool true) ∧ Below w.heap.size w w' := by
  by_cases hbig : 100 < p.length ∨ 300 < s.length
  · exact plainLaw_big p s hp hs hbig w hg
  have hp1 : ¬ 100 < p.length := by omega
  have hs1 : ¬ 300 < s.length := by omega
  have hel := escape_len s
  clear hbig hp hs
  cases hm : magic p with
  | true =>
    have HM := Lib.hid hm
    have HE := Lib.hid (magic_escape s)
    have HP := Lib.hid (plain_escape s)
    have HS := Lib.hid (pat_escape_self s)
    clear hm
    go_enter Tryd.func6, Tryd.ntmps6
    go_wp2_with fail
    refine (small_c _ hg).mono ?_
    rintro e w1 ⟨rfl, hb1⟩
    go_wp2_with fail
    refine (escape_c s (by omega) _).mono ?_
    rintro e w2 ⟨rfl, hb2⟩
    go_wp2_with fail
    refine (magic_c p (by omega) _).mono ?_
    rw [HM.out]
    rintro e w3 ⟨rfl, hb3⟩
    go_wp2_with fail
    refine (magic_c (escape s) (by omega) _).mono ?_
    rw [HE.out]
    rintro e w4 ⟨rfl, hb4⟩
    go_wp2_with fail
    refine (plain_c (escape s) (by omega) _).mono ?_
    rw [HP.out]
    rintro e w5 ⟨rfl, hb5⟩
    go_wp2_with fail
    refine (pattern_c (escape s) s (by omega) (by omega) _).mono ?_
    rw [HS.out]
    rintro e w6 ⟨rfl, hb6⟩
    go_wp2_with fail
    go_ret
    exact ⟨rfl, chain (chain (chain (chain (chain hb1 hb2) hb3) hb4) hb5) hb6⟩
  | false =>
    have hpl := plain_len p
    have HM := Lib.hid hm
    have HPP := Lib.hid (show pat p (plain p) = true by rw [pat_plain p _ hm]; simp)
    have HPS := Lib.hid (pat_plain p s hm)
    have HE := Lib.hid (magic_escape s)
    have HP := Lib.hid (plain_escape s)
    have HS := Lib.hid (pat_escape_self s)
    clear hm
    by_cases hsp : s = plain p
    · have hq : (s == plain p) = true := by simpa using hsp
      have HT := Lib.hid (show pat p s = true by rw [HPS.out]; simpa using hsp)
      clear hsp
      go_enter Tryd.func6, Tryd.ntmps6
      go_wp2_with fail
      refine (small_c _ hg).mono ?_
      rintro e w1 ⟨rfl, hb1⟩
      go_wp2_with fail
      refine (escape_c s (by omega) _).mono ?_
      rintro e w2 ⟨rfl, hb2⟩
      go_wp2_with fail
      refine (magic_c p (by omega) _).mono ?_
      rw [HM.out]
      rintro e w3 ⟨rfl, hb3⟩
      go_wp2_with fail
      refine (plain_c p (by omega) _).mono ?_
      rintro e w4 ⟨rfl, hb4⟩
      go_wp2_with fail
      refine (pattern_c p (plain p) (by omega) (by omega) _).mono ?_
      rw [HPP.out]
      rintro e w5 ⟨rfl, hb5⟩
      go_wp2_with fail
      refine (pattern_c p s (by omega) (by omega) _).mono ?_
      rw [HT.out]
      rintro e w6 ⟨rfl, hb6⟩
      go_wp2_with fail
      refine (plain_c p (by omega) _).mono ?_
      rintro e w7 ⟨rfl, hb7⟩
      go_wp2_with fail
      refine (magic_c (escape s) (by omega) _).mono ?_
      rw [HE.out]
      rintro e w8 ⟨rfl, hb8⟩
      go_wp2_with fail
      refine (plain_c (escape s) (by omega) _).mono ?_
      rw [HP.out]
      rintro e w9 ⟨rfl, hb9⟩
      go_wp2_with fail
      refine (pattern_c (escape s) s (by omega) (by omega) _).mono ?_
      rw [HS.out]
      rintro e w10 ⟨rfl, hb10⟩
      go_wp2_with fail
      go_ret
      exact ⟨rfl, chain (chain (chain (chain (chain (chain (chain (chain (chain hb1 hb2) hb3) hb4) hb5) hb6) hb7) hb8) hb9) hb10⟩
    · have hq : (s == plain p) = false := by simpa using hsp
      have HT := Lib.hid (show pat p s = false by rw [HPS.out]; simpa using hsp)
      clear hsp
      go_enter Tryd.func6, Tryd.ntmps6
      go_wp2_with fail
      refine (small_c _ hg).mono ?_
      rintro e w1 ⟨rfl, hb1⟩
      go_wp2_with fail
      refine (escape_c s (by omega) _).mono ?_
      rintro e w2 ⟨rfl, hb2⟩
      go_wp2_with fail
      refine (magic_c p (by omega) _).mono ?_
      rw [HM.out]
      rintro e w3 ⟨rfl, hb3⟩
      go_wp2_with fail
      refine (plain_c p (by omega) _).mono ?_
      rintro e w4 ⟨rfl, hb4⟩
      go_wp2_with fail
      refine (pattern_c p (plain p) (by omega) (by omega) _).mono ?_
      rw [HPP.out]
      rintro e w5 ⟨rfl, hb5⟩
      go_wp2_with fail
      refine (pattern_c p s (by omega) (by omega) _).mono ?_
      rw [HT.out]
      rintro e w6 ⟨rfl, hb6⟩
      go_wp2_with fail
      refine (plain_c p (by omega) _).mono ?_
      rintro e w7 ⟨rfl, hb7⟩
      go_wp2_with fail
      refine (magic_c (escape s) (by omega) _).mono ?_
      rw [HE.out]
      rintro e w8 ⟨rfl, hb8⟩
      go_wp2_with fail
      refine (plain_c (escape s) (by omega) _).mono ?_
      rw [HP.out]
      rintro e w9 ⟨rfl, hb9⟩
      go_wp2_with fail
      refine (pattern_c (escape s) s (by omega) (by omega) _).mono ?_
      rw [HS.out]
      rintro e w10 ⟨rfl, hb10⟩
      go_wp2_with fail
      go_ret
      exact ⟨rfl, chain (chain (chain (chain (chain (chain (chain (chain (chain hb1 hb2) hb3) hb4) hb5) hb6) hb7) hb8) hb9) hb10⟩
end Go.Proofs.YtanjmljlpdhlnaaDoor
