/-
  What package wire writes: Int, Num, Text, Nums and Texts return the encodings of chapter 1, for strings and lists of moderate size; of what was there nothing has turned.
-/
import Derived.Test.YtlfpelmblpdbjaaDoorBase
namespace Go.Proofs.YtlfpelmblpdbjaaDoor
open Go Go.RowKit Go.Sort Wire

theorem str_add (a b : List UInt8) : (⟨a.toArray⟩ : ByteArray) ++ ⟨b.toArray⟩ = ⟨(a ++ b).toArray⟩ := by
  apply ByteArray.ext
  rw [ByteArray.data_append]
  simp
theorem ret_str {a b : ByteArray} (h : a = b) : Ending.returned (.string a) = .returned (.string b) := by rw [h]

theorem wInt_c (n : Int) (h : InR n) (w : World) (hg : Good w) : Calls Tryd.prog 13 #[.int .i64 n] w fun e w' => e = .returned (.string ⟨(eInt n).toArray⟩) ∧ Below w.heap.size w w' := by
  have hl := itoa_len n h
  go_enter Tryd.func13, Tryd.ntmps13
  go_wp2_with fail
  refine (itoa_c n h _ hg).mono ?_
  rintro e w1 ⟨rfl, hb⟩
  go_wp2_with fail
  go_ret
  exact ⟨ret_str (str_add _ _), hb⟩

theorem wNum_c (n : Int) (h : InR n) (w : World) (hg : Good w) : Calls Tryd.prog 11 #[.int .i64 n] w fun e w' => e = .returned (.string ⟨(eNum n).toArray⟩) ∧ Below w.heap.size w w' := by
  by_cases hn : n < 0
  · go_enter Tryd.func11, Tryd.ntmps11
    go_wp2_with fail
    go_ret
    exact ⟨ret_str (by unfold eNum; rw [if_pos hn]), Below.refl _ _⟩
  · go_enter Tryd.func11, Tryd.ntmps11
    go_wp2_with fail
    refine (wInt_c n h _ hg).mono ?_
    rintro e w1 ⟨rfl, hb⟩
    go_wp2_with fail
    go_ret
    exact ⟨ret_str (by unfold eNum; rw [if_neg (by omega)]), hb⟩

theorem wText_c (s : List UInt8) (hs : s.length ≤ 1000000000000) (w : World) (hg : Good w) : Calls Tryd.prog 15 #[.string ⟨s.toArray⟩] w fun e w' => e = .returned (.string ⟨(eText s).toArray⟩) ∧ Below w.heap.size w w' := by
  have hin : InR (s.length : Int) := by unfold InR; omega
  have hl := itoa_len s.length hin
  go_enter Tryd.func15, Tryd.ntmps15
  go_wp2_with fail
  refine (itoa_c s.length hin _ hg).mono ?_
  rintro e w1 ⟨rfl, hb⟩
  go_wp2_with fail
  go_ret
  refine ⟨ret_str ?_, hb⟩
  rw [str_add, str_add, str_add]
  rfl

/-! ### Slices that are read -/
/-- v is a slice whose elements, of one cell each, are xs. -/
def RowAt (w : World) (v : Value) (xs : List Value) : Prop :=
  xs.length ≤ 9223372036854775807 ∧ ∃ a cap, v = .slice a xs.length cap ∧ (xs ≠ [] → ∃ b off, a = some ⟨b, off, none⟩ ∧ ∀ i x, xs[i]? = some x → w.cell? ⟨b, off + i, none⟩ = some x)
theorem lt_of_cell {w : World} {p : Addr} {v : Value} (h : w.cell? p = some v) : p.block < w.heap.size := by
  rcases Nat.lt_or_ge p.block w.heap.size with h' | h'
  · exact h'
  · simp [World.cell?, Array.getElem?_eq_none h'] at h
theorem RowAt.on {B : Nat} {w w' : World} {v : Value} {xs : List Value} (h : RowAt w v xs) (hb : Below B w w') (hB : w.heap.size ≤ B) : RowAt w' v xs := by
  obtain ⟨h0, a, cap, h1, h2⟩ := h
  refine ⟨h0, a, cap, h1, fun hne => ?_⟩
  obtain ⟨b, off, h3, h4⟩ := h2 hne
  refine ⟨b, off, h3, fun i x hx => ?_⟩
  have := h4 i x hx
  rw [hb.cell (Nat.lt_of_lt_of_le (lt_of_cell this) hB)]
  exact this
def ints (l : List Int) : List Value := l.map (Value.int .i64)
def strs (l : List (List UInt8)) : List Value := l.map fun s => Value.string ⟨s.toArray⟩

theorem flatMap_take_succ {α : Type} (enc : α → List UInt8) (l : List α) (k : Nat) (x : α) (h : l[k]? = some x) : (l.take (k + 1)).flatMap enc = (l.take k).flatMap enc ++ enc x := by
  rw [List.take_add_one, h]
  simp
theorem flatMap_take_le {α : Type} (enc : α → List UInt8) (l : List α) (k : Nat) : ((l.take k).flatMap enc).length ≤ (l.flatMap enc).length := by
  have : l.flatMap enc = (l.take k).flatMap enc ++ (l.drop k).flatMap enc := by rw [← List.flatMap_append, List.take_append_drop]
  rw [this]
  simp

theorem ints_get {l : List Int} {k : Nat} {x : Int} (h : l[k]? = some x) : (ints l)[k]? = some (.int .i64 x) := by simp [ints, h]
theorem strs_get {l : List (List UInt8)} {k : Nat} {x : List UInt8} (h : l[k]? = some x) : (strs l)[k]? = some (.string ⟨x.toArray⟩) := by simp [strs, h]

set_option maxHeartbeats 1000000 in
set_option maxRecDepth 100000 in
theorem wListInt_c (l : List Int) (v : Value) (hin : ∀ n ∈ l, InR n) (hbig : (l.flatMap eInt).length ≤ 1000000000000) (w : World) (hg : Good w) (hv : RowAt w v (ints l)) :
    Calls Tryd.prog 46 #[v, .func (.func 13) #[] #[]] w fun e w' => e = .returned (.string ⟨(eList eInt l).toArray⟩) ∧ Below w.heap.size w w' := by
  obtain ⟨h0, a, cap, rfl, hcells⟩ := hv
  have hlen : (ints l).length = l.length := by simp [ints]
  rw [hlen] at h0 ⊢
  have hlin : InR (l.length : Int) := by unfold InR; omega
  have hil := itoa_len l.length hlin
  have hst := Lib.fresh_isBuilder 66 5 w
  have hgA : Good (w.alloc (.cells #[.pointer none, .slice none 0 0] 66)) := hg.on ((Below.refl _ _).alloc (Nat.le_refl _) _)
  have hbA : Built w.heap.size w.heap.size [] w (w.alloc (.cells #[.pointer none, .slice none 0 0] 66)) := ⟨hst, (Below.refl _ _).alloc (Nat.le_refl _) _⟩
  clear hst hlen
  go_enter Tryd.func46, Tryd.ntmps46
  go_wp2_with fail
  refine (itoa_c l.length hlin _ hgA).mono ?_
  rintro e w1 ⟨rfl, hb1⟩
  have hB1 : Built w.heap.size w.heap.size [] w w1 := hbA.on hb1 (by simp)
  have hz1 : w.heap.size ≤ w1.heap.size := hB1.2.size
  clear hgA hbA hb1
  go_wp2_with fail
  refine (writeString_c _ _ _ _ _ _ hB1 (by simp; omega) hz1).mono ?_
  rintro e w2 ⟨⟨n2, rfl⟩, hB2, hz2⟩
  clear hB1 hz1
  go_wp2_with fail
  refine (writeByte_c _ _ _ 91 91 rfl _ _ hB2 (by simp; omega) hz2).mono ?_
  rintro e w3 ⟨rfl, hB3, hz3⟩
  clear hB2 hz2
  go_wp2_with fail
  rw [List.nil_append] at hB3
  have HC := Lib.hid hcells
  clear hcells
  go_loopw [15] (fun i wr => ∃ k : Nat, k ≤ l.length ∧ i = .int .i64 k ∧ Built w.heap.size w.heap.size ((Lib.itoa l.length ++ [91]) ++ (l.take k).flatMap eInt) w wr ∧ w.heap.size ≤ wr.heap.size) (fun i _ => l.length - (intOf i).toNat)
  case atStart => exact ⟨0, Nat.zero_le _, rfl, by simpa using hB3, hz3⟩
  case round =>
    obtain ⟨k, hk, rfl, hBk, hzk⟩ := hrel
    clear hB3
    by_cases hlt : k < l.length
    · obtain ⟨x, hx⟩ : ∃ x, l[k]? = some x := ⟨l[k], List.getElem?_eq_getElem hlt⟩
      obtain ⟨b, off, rfl, hc⟩ := HC.out (by intro h; have := congrArg List.length h; simp [ints] at this; subst this; simp at hlt)
      have hck := hc k _ (ints_get hx)
      have hcr : wr.cell? ⟨b, off + k, none⟩ = some (.int .i64 x) := by rw [hBk.2.cell (lt_of_cell hck)]; exact hck
      have hxin : InR x := hin x (List.mem_of_getElem? hx)
      have hle := flatMap_take_le eInt l (k + 1)
      have hsu := flatMap_take_succ eInt l k x hx
      rw [hsu, List.length_append] at hle
      have hgr : Good wr := hg.on hBk.2
      have HS := Lib.hid hsu
      have HX := Lib.hid hx
      clear hsu hx hck HC hc
      go_wp2_with fail
      refine (wInt_c x hxin _ hgr).mono ?_
      rintro e w4 ⟨rfl, hb4⟩
      have hB4 := hBk.on hb4 hzk
      have hz4 := Nat.le_trans hzk hb4.size
      clear hb4
      go_wp2_with fail
      refine (writeString_c _ _ _ _ _ _ hB4 (by simp only [List.length_append, List.length_singleton]; omega) hz4).mono ?_
      rintro e w5 ⟨⟨n5, rfl⟩, hB5, hz5⟩
      go_wp2_with fail
      go_roundw
      case rel => exact ⟨k + 1, by omega, by go_num, by rw [HS.out, ← List.append_assoc]; exact hB5, hz5⟩
      case measure => simp [intOf]; omega
    · obtain rfl : k = l.length := by omega
      have hlb := flatMap_take_le eInt l l.length
      go_wp2_with fail
      refine (writeByte_c _ _ _ 93 93 rfl _ _ hBk (by simp only [List.length_append, List.length_singleton]; omega) hzk).mono ?_
      rintro e w6 ⟨rfl, hB6, hz6⟩
      go_wp2_with fail
      refine (builderString_c _ _ _ _ _ hB6 hz6).mono ?_
      rintro e w7 ⟨rfl, hb7⟩
      go_wp2_with fail
      go_ret
      exact ⟨ret_str (by unfold eList; simp), hb7⟩
set_option maxHeartbeats 1000000 in
set_option maxRecDepth 100000 in
theorem wListText_c (l : List (List UInt8)) (v : Value) (hbig : (l.flatMap eText).length ≤ 1000000000000) (w : World) (hg : Good w) (hv : RowAt w v (strs l)) :
    Calls Tryd.prog 47 #[v, .func (.func 15) #[] #[]] w fun e w' => e = .returned (.string ⟨(eList eText l).toArray⟩) ∧ Below w.heap.size w w' := by
  obtain ⟨h0, a, cap, rfl, hcells⟩ := hv
  have hlen : (strs l).length = l.length := by simp [strs]
  rw [hlen] at h0 ⊢
  have hlin : InR (l.length : Int) := by unfold InR; omega
  have hil := itoa_len l.length hlin
  have hst := Lib.fresh_isBuilder 66 5 w
  have hgA : Good (w.alloc (.cells #[.pointer none, .slice none 0 0] 66)) := hg.on ((Below.refl _ _).alloc (Nat.le_refl _) _)
  have hbA : Built w.heap.size w.heap.size [] w (w.alloc (.cells #[.pointer none, .slice none 0 0] 66)) := ⟨hst, (Below.refl _ _).alloc (Nat.le_refl _) _⟩
  clear hst hlen
  go_enter Tryd.func47, Tryd.ntmps47
  go_wp2_with fail
  refine (itoa_c l.length hlin _ hgA).mono ?_
  rintro e w1 ⟨rfl, hb1⟩
  have hB1 : Built w.heap.size w.heap.size [] w w1 := hbA.on hb1 (by simp)
  have hz1 : w.heap.size ≤ w1.heap.size := hB1.2.size
  clear hgA hbA hb1
  go_wp2_with fail
  refine (writeString_c _ _ _ _ _ _ hB1 (by simp; omega) hz1).mono ?_
  rintro e w2 ⟨⟨n2, rfl⟩, hB2, hz2⟩
  clear hB1 hz1
  go_wp2_with fail
  refine (writeByte_c _ _ _ 91 91 rfl _ _ hB2 (by simp; omega) hz2).mono ?_
  rintro e w3 ⟨rfl, hB3, hz3⟩
  clear hB2 hz2
  go_wp2_with fail
  rw [List.nil_append] at hB3
  have HC := Lib.hid hcells
  clear hcells
  go_loopw [15] (fun i wr => ∃ k : Nat, k ≤ l.length ∧ i = .int .i64 k ∧ Built w.heap.size w.heap.size ((Lib.itoa l.length ++ [91]) ++ (l.take k).flatMap eText) w wr ∧ w.heap.size ≤ wr.heap.size) (fun i _ => l.length - (intOf i).toNat)
  case atStart => exact ⟨0, Nat.zero_le _, rfl, by simpa using hB3, hz3⟩
  case round =>
    obtain ⟨k, hk, rfl, hBk, hzk⟩ := hrel
    clear hB3
    by_cases hlt : k < l.length
    · obtain ⟨x, hx⟩ : ∃ x, l[k]? = some x := ⟨l[k], List.getElem?_eq_getElem hlt⟩
      obtain ⟨b, off, rfl, hc⟩ := HC.out (by intro h; have := congrArg List.length h; simp [strs] at this; subst this; simp at hlt)
      have hck := hc k _ (strs_get hx)
      have hcr : wr.cell? ⟨b, off + k, none⟩ = some (.string ⟨x.toArray⟩) := by rw [hBk.2.cell (lt_of_cell hck)]; exact hck
      have hle := flatMap_take_le eText l (k + 1)
      have hsu := flatMap_take_succ eText l k x hx
      rw [hsu, List.length_append] at hle
      have hgr : Good wr := hg.on hBk.2
      have hxe : (eText x).length = (Lib.itoa x.length ++ [58]).length + x.length + 1 := by simp [eText]; omega
      have hxl : x.length ≤ 1000000000000 := by omega
      clear hxe
      have HS := Lib.hid hsu
      have HX := Lib.hid hx
      clear hsu hx hck HC hc
      go_wp2_with fail
      refine (wText_c x hxl _ hgr).mono ?_
      rintro e w4 ⟨rfl, hb4⟩
      have hB4 := hBk.on hb4 hzk
      have hz4 := Nat.le_trans hzk hb4.size
      clear hb4
      go_wp2_with fail
      refine (writeString_c _ _ _ _ _ _ hB4 (by simp only [List.length_append, List.length_singleton]; omega) hz4).mono ?_
      rintro e w5 ⟨⟨n5, rfl⟩, hB5, hz5⟩
      go_wp2_with fail
      go_roundw
      case rel => exact ⟨k + 1, by omega, by go_num, by rw [HS.out, ← List.append_assoc]; exact hB5, hz5⟩
      case measure => simp [intOf]; omega
    · obtain rfl : k = l.length := by omega
      have hlb := flatMap_take_le eText l l.length
      go_wp2_with fail
      refine (writeByte_c _ _ _ 93 93 rfl _ _ hBk (by simp only [List.length_append, List.length_singleton]; omega) hzk).mono ?_
      rintro e w6 ⟨rfl, hB6, hz6⟩
      go_wp2_with fail
      refine (builderString_c _ _ _ _ _ hB6 hz6).mono ?_
      rintro e w7 ⟨rfl, hb7⟩
      go_wp2_with fail
      go_ret
      exact ⟨ret_str (by unfold eList; simp), hb7⟩

theorem wNums_c (l : List Int) (v : Value) (hin : ∀ n ∈ l, InR n) (hbig : (l.flatMap eInt).length ≤ 1000000000000) (w : World) (hg : Good w) (hv : RowAt w v (ints l)) :
    Calls Tryd.prog 17 #[v] w fun e w' => e = .returned (.string ⟨(eList eInt l).toArray⟩) ∧ Below w.heap.size w w' := by
  have hc := wListInt_c l v hin hbig w hg hv
  obtain ⟨h0, a, cap, rfl, _⟩ := hv
  clear h0
  have HC := Lib.hid hc
  clear hc
  go_enter Tryd.func17, Tryd.ntmps17
  go_wp2_with fail
  refine HC.out.mono ?_
  rintro e w1 ⟨rfl, hb⟩
  go_wp2_with fail
  go_ret
  exact ⟨rfl, hb⟩
theorem wTexts_c (l : List (List UInt8)) (v : Value) (hbig : (l.flatMap eText).length ≤ 1000000000000) (w : World) (hg : Good w) (hv : RowAt w v (strs l)) :
    Calls Tryd.prog 19 #[v] w fun e w' => e = .returned (.string ⟨(eList eText l).toArray⟩) ∧ Below w.heap.size w w' := by
  have hc := wListText_c l v hbig w hg hv
  obtain ⟨h0, a, cap, rfl, _⟩ := hv
  clear h0
  have HC := Lib.hid hc
  clear hc
  go_enter Tryd.func19, Tryd.ntmps19
  go_wp2_with fail
  refine HC.out.mono ?_
  rintro e w1 ⟨rfl, hb⟩
  go_wp2_with fail
  go_ret
  exact ⟨rfl, hb⟩
end Go.Proofs.YtlfpelmblpdbjaaDoor
