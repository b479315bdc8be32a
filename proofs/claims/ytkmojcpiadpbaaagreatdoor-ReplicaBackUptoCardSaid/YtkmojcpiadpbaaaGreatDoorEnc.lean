/-
  What package wire writes: Int, Num, Text, Nums and Texts return the encodings of chapter 1, for strings and lists of moderate size; of what was there nothing has turned.
-/
import Derived.Test.YtkmojcpiadpbaaaGreatDoorWords
namespace Go.Proofs.YtkmojcpiadpbaaaGreatDoor
open Go Go.RowKit Go.Sort Wire

theorem wInt_c (n : Int) (h : InR n) (w : World) (hg : Good w) : Calls Tryz.prog 22 #[.int .i64 n] w fun e w' => e = .returned (.string ⟨(eInt n).toArray⟩) ∧ Below w.heap.size w w' := by
  have hl := itoa_len n h
  go_enter Tryz.func22, Tryz.ntmps22
  go_wp2_with fail
  refine (itoa_c n h _ hg).mono ?_
  rintro e w1 ⟨rfl, hb⟩
  go_wp2_with fail
  go_ret
  exact ⟨ret_str (str_add _ _), hb⟩

theorem wNum_c (n : Int) (h : InR n) (w : World) (hg : Good w) : Calls Tryz.prog 29 #[.int .i64 n] w fun e w' => e = .returned (.string ⟨(eNum n).toArray⟩) ∧ Below w.heap.size w w' := by
  by_cases hn : n < 0
  · go_enter Tryz.func29, Tryz.ntmps29
    go_wp2_with fail
    go_ret
    exact ⟨ret_str (by unfold eNum; rw [if_pos hn]), Below.refl _ _⟩
  · go_enter Tryz.func29, Tryz.ntmps29
    go_wp2_with fail
    refine (wInt_c n h _ hg).mono ?_
    rintro e w1 ⟨rfl, hb⟩
    go_wp2_with fail
    go_ret
    exact ⟨ret_str (by unfold eNum; rw [if_neg (by omega)]), hb⟩

theorem wText_c (s : List UInt8) (hs : s.length ≤ 1000000000000) (w : World) (hg : Good w) : Calls Tryz.prog 23 #[.string ⟨s.toArray⟩] w fun e w' => e = .returned (.string ⟨(eText s).toArray⟩) ∧ Below w.heap.size w w' := by
  have hin : InR (s.length : Int) := by unfold InR; omega
  have hl := itoa_len s.length hin
  go_enter Tryz.func23, Tryz.ntmps23
  go_wp2_with fail
  refine (itoa_c s.length hin _ hg).mono ?_
  rintro e w1 ⟨rfl, hb⟩
  go_wp2_with fail
  go_ret
  refine ⟨ret_str ?_, hb⟩
  rw [str_add, str_add, str_add]
  rfl

end Go.Proofs.YtkmojcpiadpbaaaGreatDoor
