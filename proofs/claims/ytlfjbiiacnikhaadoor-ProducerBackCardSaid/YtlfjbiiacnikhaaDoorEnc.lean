/-
  What package wire writes: Int, Num, Text, Nums and Texts return the encodings of chapter 1, for strings and lists of moderate size; of what was there nothing has turned.
-/
import Derived.Test.YtlfjbiiacnikhaaDoorWords
namespace Go.Proofs.YtlfjbiiacnikhaaDoor
open Go Go.RowKit Go.Sort Wire

theorem wInt_c (n : Int) (h : InR n) (w : World) (hg : Good w) : Calls Tryd.prog 23 #[.int .i64 n] w fun e w' => e = .returned (.string ⟨(eInt n).toArray⟩) ∧ Below w.heap.size w w' := by
  have hl := itoa_len n h
  go_enter Tryd.func23, Tryd.ntmps23
  go_wp2_with fail
  refine (itoa_c n h _ hg).mono ?_
  rintro e w1 ⟨rfl, hb⟩
  go_wp2_with fail
  go_ret
  exact ⟨ret_str (str_add _ _), hb⟩

theorem wNum_c (n : Int) (h : InR n) (w : World) (hg : Good w) : Calls Tryd.prog 22 #[.int .i64 n] w fun e w' => e = .returned (.string ⟨(eNum n).toArray⟩) ∧ Below w.heap.size w w' := by
  by_cases hn : n < 0
  · go_enter Tryd.func22, Tryd.ntmps22
    go_wp2_with fail
    go_ret
    exact ⟨ret_str (by unfold eNum; rw [if_pos hn]), Below.refl _ _⟩
  · go_enter Tryd.func22, Tryd.ntmps22
    go_wp2_with fail
    refine (wInt_c n h _ hg).mono ?_
    rintro e w1 ⟨rfl, hb⟩
    go_wp2_with fail
    go_ret
    exact ⟨ret_str (by unfold eNum; rw [if_neg (by omega)]), hb⟩

set_option maxHeartbeats 1000000 in
set_option maxRecDepth 100000 in
theorem wListInt_c (l : List Int) (v : Value) (hin : ∀ n ∈ l, InR n) (hbig : (l.flatMap eInt).length ≤ 1000000000000) (w : World) (hg : Good w) (hv : RowAt w v (ints l)) :
    Calls Tryd.prog 43 #[v, .func (.func 23) #[] #[]] w fun e w' => e = .returned (.string ⟨(eList eInt l).toArray⟩) ∧ Below w.heap.size w w' := by
  obtain ⟨h0, a, cap, rfl, hcells⟩ := hv
  have hlen : (ints l).length = l.length := by simp [ints]
  rw [hlen] at h0 ⊢
  have hlin : InR (l.length : Int) := by unfold InR; omega
  have hil := itoa_len l.length hlin
  have hst := Lib.fresh_isBuilder 50 5 w
  have hgA : Good (w.alloc (.cells #[.pointer none, .slice none 0 0] 50)) := hg.on ((Below.refl _ _).alloc (Nat.le_refl _) _)
  have hbA : Built w.heap.size w.heap.size [] w (w.alloc (.cells #[.pointer none, .slice none 0 0] 50)) := ⟨hst, (Below.refl _ _).alloc (Nat.le_refl _) _⟩
  clear hst hlen
  go_enter Tryd.func43, Tryd.ntmps43
  go_wp2_with fail
  refine (itoa_c l.length hlin _ hgA).mono ?_
  rintro e w1 ⟨rfl, hb1⟩
  have hB1 : Built w.heap.size w.heap.size [] w w1 := hbA.on hb1 (by simp)
  have hz1 : w.heap.size ≤ w1.heap.size := hB1.2.size
  clear hgA hbA hb1
  go_wp2_with fail
  refine (writeString_c _ _ _ _ _ _ hB1 (by simp; omega) hz1).mono ?_
  rintro e w2 ⟨⟨n2, rfl⟩, hB2, hz2⟩
  clear hB1 hz1
  go_wp2_with fail
  refine (writeByte_c _ _ _ 91 91 rfl _ _ hB2 (by simp; omega) hz2).mono ?_
  rintro e w3 ⟨rfl, hB3, hz3⟩
  clear hB2 hz2
  go_wp2_with fail
  rw [List.nil_append] at hB3
  have HC := Lib.hid hcells
  clear hcells
  go_loopw [15] (fun i wr => ∃ k : Nat, k ≤ l.length ∧ i = .int .i64 k ∧ Built w.heap.size w.heap.size ((Lib.itoa l.length ++ [91]) ++ (l.take k).flatMap eInt) w wr ∧ w.heap.size ≤ wr.heap.size) (fun i _ => l.length - (intOf i).toNat)
  case atStart => exact ⟨0, Nat.zero_le _, rfl, by simpa using hB3, hz3⟩
  case round =>
    obtain ⟨k, hk, rfl, hBk, hzk⟩ := hrel
    clear hB3
    by_cases hlt : k < l.length
    · obtain ⟨x, hx⟩ : ∃ x, l[k]? = some x := ⟨l[k], List.getElem?_eq_getElem hlt⟩
      obtain ⟨b, off, rfl, hc⟩ := HC.out (by intro h; have := congrArg List.length h; simp [ints] at this; subst this; simp at hlt)
      have hck := hc k _ (ints_get hx)
      have hcr : wr.cell? ⟨b, off + k, none⟩ = some (.int .i64 x) := by rw [hBk.2.cell (lt_of_cell hck)]; exact hck
      have hxin : InR x := hin x (List.mem_of_getElem? hx)
      have hle := flatMap_take_le eInt l (k + 1)
      have hsu := flatMap_take_succ eInt l k x hx
      rw [hsu, List.length_append] at hle
      have hgr : Good wr := hg.on hBk.2
      have HS := Lib.hid hsu
      have HX := Lib.hid hx
      clear hsu hx hck HC hc
      go_wp2_with fail
      refine (wInt_c x hxin _ hgr).mono ?_
      rintro e w4 ⟨rfl, hb4⟩
      have hB4 := hBk.on hb4 hzk
      have hz4 := Nat.le_trans hzk hb4.size
      clear hb4
      go_wp2_with fail
      refine (writeString_c _ _ _ _ _ _ hB4 (by simp only [List.length_append, List.length_singleton]; omega) hz4).mono ?_
      rintro e w5 ⟨⟨n5, rfl⟩, hB5, hz5⟩
      go_wp2_with fail
      go_roundw
      case rel => exact ⟨k + 1, by omega, by go_num, by rw [HS.out, ← List.append_assoc]; exact hB5, hz5⟩
      case measure => simp [intOf]; omega
    · obtain rfl : k = l.length := by omega
      have hlb := flatMap_take_le eInt l l.length
      go_wp2_with fail
      refine (writeByte_c _ _ _ 93 93 rfl _ _ hBk (by simp only [List.length_append, List.length_singleton]; omega) hzk).mono ?_
      rintro e w6 ⟨rfl, hB6, hz6⟩
      go_wp2_with fail
      refine (builderString_c _ _ _ _ _ hB6 hz6).mono ?_
      rintro e w7 ⟨rfl, hb7⟩
      go_wp2_with fail
      go_ret
      exact ⟨ret_str (by unfold eList; simp), hb7⟩
theorem wNums_c (l : List Int) (v : Value) (hin : ∀ n ∈ l, InR n) (hbig : (l.flatMap eInt).length ≤ 1000000000000) (w : World) (hg : Good w) (hv : RowAt w v (ints l)) :
    Calls Tryd.prog 24 #[v] w fun e w' => e = .returned (.string ⟨(eList eInt l).toArray⟩) ∧ Below w.heap.size w w' := by
  have hc := wListInt_c l v hin hbig w hg hv
  obtain ⟨h0, a, cap, rfl, _⟩ := hv
  clear h0
  have HC := Lib.hid hc
  clear hc
  go_enter Tryd.func24, Tryd.ntmps24
  go_wp2_with fail
  refine HC.out.mono ?_
  rintro e w1 ⟨rfl, hb⟩
  go_wp2_with fail
  go_ret
  exact ⟨rfl, hb⟩
end Go.Proofs.YtlfjbiiacnikhaaDoor
