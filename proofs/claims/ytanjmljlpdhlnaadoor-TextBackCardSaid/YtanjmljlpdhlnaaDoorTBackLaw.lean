/-
  TextBack returns true, for every int and every string that can be; of what was there nothing has turned.
-/
import Derived.Test.YtanjmljlpdhlnaaDoorTSmall
import Derived.Test.YtanjmljlpdhlnaaDoorTUnq
namespace Go.Proofs.YtanjmljlpdhlnaaDoor
open Go Go.RowKit Go.Sort Wire Txt

theorem intV_some {d : List UInt8} {n : Int} (h : readDig d = some n) : intV d = .tuple #[.int .i64 n, .bool true] := by unfold intV; rw [h]
theorem intV_none {d : List UInt8} (h : readDig d = none) : intV d = .tuple #[.int .i64 0, .bool false] := by unfold intV; rw [h]
theorem unqV_some {s d : List UInt8} (h : unquote s = some d) : unqV s = .tuple #[.string ⟨d.toArray⟩, .bool true] := by unfold unqV; rw [h]
theorem unqV_none {s : List UInt8} (h : unquote s = none) : unqV s = .tuple #[.string ⟨#[]⟩, .bool false] := by unfold unqV; rw [h]
theorem quote_ge (d : List UInt8) : d.length ≤ (quote d).length := by
  have : ∀ l : List UInt8, l.length ≤ (l.flatMap qb).length := by
    intro l
    induction l with
    | nil => simp
    | cons c l ih =>
      rw [List.flatMap_cons, List.length_append, List.length_cons]
      have := (qb_len c).1
      omega
  have := this d
  simp only [quote, List.length_cons, List.length_append, List.length_nil]
  omega

set_option maxHeartbeats 4000000 in
set_option maxRecDepth 100000 in
theorem backLaw_c (n : Int) (hn : InR n) (s : List UInt8) (hs : s.length ≤ 9223372036854775807) (w : World) (hg0 : Good w) :
    Calls Tryd.prog 3 #[.int .i64 n, .string ⟨s.toArray⟩] w fun e w' => e = .returned (.bool true) ∧ Below w.heap.size w w' := by
  by_cases h300 : 300 < s.length
  · go_enter Tryd.func3, Tryd.ntmps3
    go_wp2_with fail
    refine (small_c _ hg0).mono ?_
    rintro e w1 ⟨rfl, hb1⟩
    go_wp2_with fail
    go_ret
    exact ⟨rfl, hb1⟩
  have hil := itoa_len n hn
  have HN := Lib.hid (intV_some ((readDig_iff (Lib.itoa n) n).2 ⟨hn, rfl⟩))
  have hql := quote_len s
  have HQ := Lib.hid (unqV_some (unquote_quote s))
  clear hs
  cases hi : readDig s with
  | none =>
    have HI := Lib.hid (intV_none hi)
    clear hi
    cases hu : unquote s with
    | none =>
      have HU := Lib.hid (unqV_none hu)
      clear hu
      go_enter Tryd.func3, Tryd.ntmps3
      go_wp2_with fail
      refine (small_c _ hg0).mono ?_
      rintro e w1 ⟨rfl, hb1⟩
      have hg1 := hg0.on hb1
      go_wp2_with fail
      refine (decimal_c n hn _ hg1).mono ?_
      rintro e w2 ⟨rfl, hb2⟩
      have hg2 := hg1.on hb2
      go_wp2_with fail
      refine (int_c (Lib.itoa n) (by omega) _ hg2).mono ?_
      rw [HN.out]
      rintro e w3 ⟨rfl, hb3⟩
      have hg3 := hg2.on hb3
      go_wp2_with fail
      refine (quote_c s (by omega) _).mono ?_
      rintro e w4 ⟨rfl, hb4⟩
      have hg4 := hg3.on hb4
      go_wp2_with fail
      refine (unquote_c (quote s) (by omega) _ hg4).mono ?_
      rw [HQ.out]
      rintro e w5 ⟨rfl, hb5⟩
      have hg5 := hg4.on hb5
      go_wp2_with fail
      refine (int_c s (by omega) _ hg5).mono ?_
      rw [HI.out]
      rintro e w6 ⟨rfl, hb6⟩
      have hg6 := hg5.on hb6
      go_wp2_with fail
      refine (unquote_c s (by omega) _ hg6).mono ?_
      rw [HU.out]
      rintro e w7 ⟨rfl, hb7⟩
      have hg7 := hg6.on hb7
      go_wp2_with fail
      go_ret
      exact ⟨ret_bool (by simp), (chain (chain (chain (chain (chain (chain hb1 hb2) hb3) hb4) hb5) hb6) hb7)⟩
    | some d =>
      have HU := Lib.hid (unqV_some hu)
      have hqd := (unquote_iff s d).1 hu
      have hdl := quote_ge d
      rw [hqd] at hdl
      have HE := Lib.hid hqd
      clear hu hqd
      go_enter Tryd.func3, Tryd.ntmps3
      go_wp2_with fail
      refine (small_c _ hg0).mono ?_
      rintro e w1 ⟨rfl, hb1⟩
      have hg1 := hg0.on hb1
      go_wp2_with fail
      refine (decimal_c n hn _ hg1).mono ?_
      rintro e w2 ⟨rfl, hb2⟩
      have hg2 := hg1.on hb2
      go_wp2_with fail
      refine (int_c (Lib.itoa n) (by omega) _ hg2).mono ?_
      rw [HN.out]
      rintro e w3 ⟨rfl, hb3⟩
      have hg3 := hg2.on hb3
      go_wp2_with fail
      refine (quote_c s (by omega) _).mono ?_
      rintro e w4 ⟨rfl, hb4⟩
      have hg4 := hg3.on hb4
      go_wp2_with fail
      refine (unquote_c (quote s) (by omega) _ hg4).mono ?_
      rw [HQ.out]
      rintro e w5 ⟨rfl, hb5⟩
      have hg5 := hg4.on hb5
      go_wp2_with fail
      refine (int_c s (by omega) _ hg5).mono ?_
      rw [HI.out]
      rintro e w6 ⟨rfl, hb6⟩
      have hg6 := hg5.on hb6
      go_wp2_with fail
      refine (unquote_c s (by omega) _ hg6).mono ?_
      rw [HU.out]
      rintro e w7 ⟨rfl, hb7⟩
      have hg7 := hg6.on hb7
      go_wp2_with fail
      refine (quote_c d (by omega) _).mono ?_
      rw [HE.out]
      rintro e w8 ⟨rfl, hb8⟩
      have hg8 := hg7.on hb8
      go_wp2_with fail
      go_ret
      exact ⟨ret_bool (by simp), (chain (chain (chain (chain (chain (chain (chain hb1 hb2) hb3) hb4) hb5) hb6) hb7) hb8)⟩
  | some m =>
    have HI := Lib.hid (intV_some hi)
    obtain ⟨hm, hms⟩ := (readDig_iff s m).1 hi
    have HD := Lib.hid hms.symm
    clear hi hms
    cases hu : unquote s with
    | none =>
      have HU := Lib.hid (unqV_none hu)
      clear hu
      go_enter Tryd.func3, Tryd.ntmps3
      go_wp2_with fail
      refine (small_c _ hg0).mono ?_
      rintro e w1 ⟨rfl, hb1⟩
      have hg1 := hg0.on hb1
      go_wp2_with fail
      refine (decimal_c n hn _ hg1).mono ?_
      rintro e w2 ⟨rfl, hb2⟩
      have hg2 := hg1.on hb2
      go_wp2_with fail
      refine (int_c (Lib.itoa n) (by omega) _ hg2).mono ?_
      rw [HN.out]
      rintro e w3 ⟨rfl, hb3⟩
      have hg3 := hg2.on hb3
      go_wp2_with fail
      refine (quote_c s (by omega) _).mono ?_
      rintro e w4 ⟨rfl, hb4⟩
      have hg4 := hg3.on hb4
      go_wp2_with fail
      refine (unquote_c (quote s) (by omega) _ hg4).mono ?_
      rw [HQ.out]
      rintro e w5 ⟨rfl, hb5⟩
      have hg5 := hg4.on hb5
      go_wp2_with fail
      refine (int_c s (by omega) _ hg5).mono ?_
      rw [HI.out]
      rintro e w6 ⟨rfl, hb6⟩
      have hg6 := hg5.on hb6
      go_wp2_with fail
      refine (unquote_c s (by omega) _ hg6).mono ?_
      rw [HU.out]
      rintro e w7 ⟨rfl, hb7⟩
      have hg7 := hg6.on hb7
      go_wp2_with fail
      refine (decimal_c m hm _ hg7).mono ?_
      rw [HD.out]
      rintro e w8 ⟨rfl, hb8⟩
      have hg8 := hg7.on hb8
      go_wp2_with fail
      go_ret
      exact ⟨ret_bool (by simp), (chain (chain (chain (chain (chain (chain (chain hb1 hb2) hb3) hb4) hb5) hb6) hb7) hb8)⟩
    | some d =>
      have HU := Lib.hid (unqV_some hu)
      have hqd := (unquote_iff s d).1 hu
      have hdl := quote_ge d
      rw [hqd] at hdl
      have HE := Lib.hid hqd
      clear hu hqd
      go_enter Tryd.func3, Tryd.ntmps3
      go_wp2_with fail
      refine (small_c _ hg0).mono ?_
      rintro e w1 ⟨rfl, hb1⟩
      have hg1 := hg0.on hb1
      go_wp2_with fail
      refine (decimal_c n hn _ hg1).mono ?_
      rintro e w2 ⟨rfl, hb2⟩
      have hg2 := hg1.on hb2
      go_wp2_with fail
      refine (int_c (Lib.itoa n) (by omega) _ hg2).mono ?_
      rw [HN.out]
      rintro e w3 ⟨rfl, hb3⟩
      have hg3 := hg2.on hb3
      go_wp2_with fail
      refine (quote_c s (by omega) _).mono ?_
      rintro e w4 ⟨rfl, hb4⟩
      have hg4 := hg3.on hb4
      go_wp2_with fail
      refine (unquote_c (quote s) (by omega) _ hg4).mono ?_
      rw [HQ.out]
      rintro e w5 ⟨rfl, hb5⟩
      have hg5 := hg4.on hb5
      go_wp2_with fail
      refine (int_c s (by omega) _ hg5).mono ?_
      rw [HI.out]
      rintro e w6 ⟨rfl, hb6⟩
      have hg6 := hg5.on hb6
      go_wp2_with fail
      refine (unquote_c s (by omega) _ hg6).mono ?_
      rw [HU.out]
      rintro e w7 ⟨rfl, hb7⟩
      have hg7 := hg6.on hb7
      go_wp2_with fail
      refine (decimal_c m hm _ hg7).mono ?_
      rw [HD.out]
      rintro e w8 ⟨rfl, hb8⟩
      have hg8 := hg7.on hb8
      go_wp2_with fail
      refine (quote_c d (by omega) _).mono ?_
      rw [HE.out]
      rintro e w9 ⟨rfl, hb9⟩
      have hg9 := hg8.on hb9
      go_wp2_with fail
      go_ret
      exact ⟨ret_bool (by simp), (chain (chain (chain (chain (chain (chain (chain (chain hb1 hb2) hb3) hb4) hb5) hb6) hb7) hb8) hb9)⟩
end Go.Proofs.YtanjmljlpdhlnaaDoor
