/-
  Lines, Unlines and Fields of package text: each returns what chapter 2 says; of what was there nothing has turned.
-/
import Derived.Test.YtanjmljlpdhlnaaGreatDoorTQuote
import Derived.Test.YtanjmljlpdhlnaaGreatDoorTParts
import Derived.Lib.Split
namespace Go.Proofs.YtanjmljlpdhlnaaGreatDoor
open Go Go.RowKit Go.Sort Wire Txt

/-! ### Pieces -/
theorem index_none (a : List UInt8) (h : (10 : UInt8) ∉ a) : Lib.index a [10] = -1 := by
  rw [lib_index]
  cases hc : cutAt 10 a with
  | none => rfl
  | some p => exact absurd (by rw [(cutAt_some hc).1]; simp) h
theorem index_hit (a b : List UInt8) (h : (10 : UInt8) ∉ a) : Lib.index (a ++ 10 :: b) [10] = (a.length : Int) := by
  rw [lib_index, cutAt_hit 10 a b h]
theorem split_none (a : List UInt8) (h : (10 : UInt8) ∉ a) : Lib.split a [10] = [a] := by
  unfold Lib.split
  rw [Lib.count_miss (index_none a h)]
  rfl
theorem split_hit (a b : List UInt8) (h : (10 : UInt8) ∉ a) : Lib.split (a ++ 10 :: b) [10] = a :: Lib.split b [10] := by
  unfold Lib.split
  have hi := index_hit a b h
  rw [Lib.count_hit (by simp) hi, Nat.add_comm]
  have hm : ¬ (Lib.index (a ++ 10 :: b) [10] == -1) = true := by rw [hi]; simp
  rw [Lib.splitK, if_neg hm, hi]
  simp
theorem split_ne (s : List UInt8) : Lib.split s [10] ≠ [] := by
  rcases cut_cases 10 s with h | ⟨a, b, rfl, h⟩
  · rw [split_none s h]; simp
  · rw [split_hit a b h]; simp
/-- The lines are the pieces, but for a last one that is empty. -/
theorem lines_split (s : List UInt8) : lines s = if (Lib.split s [10]).getLast? = some [] then (Lib.split s [10]).dropLast else Lib.split s [10] := by
  refine lines_ind (P := fun s => lines s = if (Lib.split s [10]).getLast? = some [] then (Lib.split s [10]).dropLast else Lib.split s [10]) ?_ ?_ s.length s (Nat.le_refl _)
  · intro a ha
    rw [split_none a ha, lines_none a ha]
    by_cases h : a = []
    · subst h; rfl
    · rw [if_neg h, if_neg (by simpa using h)]
  · intro a b ha hb
    rw [split_hit a b ha, lines_lf a b ha, hb]
    have hn := split_ne b
    have e1 : (a :: Lib.split b [10]).getLast? = (Lib.split b [10]).getLast? := by
      rw [List.getLast?_cons]
      cases hl : (Lib.split b [10]).getLast? with
      | none => exact absurd (List.getLast?_eq_none_iff.1 hl) hn
      | some x => rfl
    rw [e1]
    by_cases h : (Lib.split b [10]).getLast? = some []
    · rw [if_pos h, if_pos h, List.dropLast_cons_of_ne_nil hn]
    · rw [if_neg h, if_neg h]
theorem splitK_length (sep : List UInt8) (save : Nat) : ∀ (k : Nat) (s : List UInt8), (Lib.splitK sep save k s).length ≤ k + 1
  | 0, _ => Nat.le_refl _
  | k + 1, s => by
    unfold Lib.splitK
    split
    · simp
    · have := splitK_length sep save k (s.drop ((Lib.index s sep).toNat + sep.length))
      simp only [List.length_cons]; omega
theorem split_length (s : List UInt8) : (Lib.split s [10]).length = Lib.count s [10] + 1 := by
  refine lines_ind (P := fun s => (Lib.split s [10]).length = Lib.count s [10] + 1) ?_ ?_ s.length s (Nat.le_refl _)
  · intro a ha
    rw [split_none a ha, Lib.count_miss (index_none a ha)]
    rfl
  · intro a b ha hb
    have hc : Lib.count (a ++ 10 :: b) [10] = 1 + Lib.count b [10] := by
      rw [Lib.count_hit (by simp) (index_hit a b ha)]
      simp
    rw [split_hit a b ha, List.length_cons, hb, hc]
    omega
/-- strings.Split at an LF: the pieces lie in one new block. -/
theorem split_c (s : List UInt8) (hs : s.length < 4294967281) (w : World) (hg : Good w) :
    Calls Tryz.prog 37 #[.string ⟨s.toArray⟩, .string ⟨#[10]⟩] w fun e w' => e = .returned (.slice (some ⟨w.heap.size, 0, none⟩) (Lib.split s [10]).length (Lib.split s [10]).length) ∧ w.alloc (.cells (strs (Lib.split s [10])).toArray 9) = w' := by
  obtain ⟨m, hm⟩ := hg.len
  have hc : Lib.countB ⟨s.toArray⟩ ⟨#[10]⟩ = Lib.count s [10] := rfl
  have hsp : (Lib.splitB ⟨#[10]⟩ 0 (Lib.countB ⟨s.toArray⟩ ⟨#[10]⟩) ⟨s.toArray⟩).map Value.string = strs (Lib.split s [10]) := by
    have h := Lib.splitB_data ⟨#[10]⟩ 0 (Lib.countB ⟨s.toArray⟩ ⟨#[10]⟩) ⟨s.toArray⟩
    have h' : (Lib.splitB ⟨#[10]⟩ 0 (Lib.countB ⟨s.toArray⟩ ⟨#[10]⟩) ⟨s.toArray⟩).map (·.data.toList) = Lib.split s [10] := h
    rw [← h']
    simp [strs]
  refine (Tryz.strings_Split ⟨s.toArray⟩ ⟨#[10]⟩ m w (by rw [ba_size]; exact hs) hm (by decide)).mono fun e w' ⟨he, hw⟩ => ⟨?_, ?_⟩
  · rw [he, hc, split_length]
  · rw [hw, hsp]

theorem row_prefix {w : World} {g : Nat} {l : List (List UInt8)} {k cap : Nat} (hk : k ≤ l.length) (hl : l.length ≤ 9223372036854775807) (hh : w.heap[g]? = some (.cells (strs l).toArray 9 (0, 0))) : RowAt w (.slice (some ⟨g, 0, none⟩) k cap) (strs (l.take k)) := by
  have e : (strs (l.take k)).length = k := by simp [strs]; omega
  refine ⟨by omega, some ⟨g, 0, none⟩, cap, by rw [e], fun _ => ⟨g, 0, rfl, fun i x hx => ?_⟩⟩
  have hi : i < k := by
    have := (List.getElem?_eq_some_iff.1 hx).1
    omega
  rw [Nat.zero_add, Lib.cell_of_heap hh, ← hx]
  simp [strs, List.getElem?_take_of_lt hi]
/-- v reads as these strings. -/
def Gives (B : Nat) (w : World) (l : List (List UInt8)) (e : Ending) (w' : World) : Prop := ∃ v, e = .returned v ∧ RowAt w' v (strs l) ∧ Below B w w'

set_option maxRecDepth 100000 in
theorem lines_c (s : List UInt8) (hs : s.length ≤ 1000000) (w : World) (hg : Good w) :
    Calls Tryz.prog 14 #[.string ⟨s.toArray⟩] w (Gives w.heap.size w (lines s)) := by
  have hL := lines_split s
  have hne := split_ne s
  have hlen : (Lib.split s [10]).length ≤ 1000002 := by rw [split_length]; have := Lib.count_le s [10]; omega
  obtain ⟨P, hP⟩ : ∃ P, P = Lib.split s [10] := ⟨_, rfl⟩
  rw [← hP] at hL hne hlen
  have HP := Lib.hid hP
  have HL := Lib.hid hL
  have hn1 : 1 ≤ P.length := by cases P with
    | nil => exact absurd rfl hne
    | cons a P => simp
  obtain ⟨x, hx⟩ : ∃ x, P[P.length - 1]? = some x := ⟨P[P.length - 1], List.getElem?_eq_getElem (by omega)⟩
  have hlast : P.getLast? = some x := by rw [List.getLast?_eq_getElem?]; exact hx
  have HX := Lib.hid hx
  have HS := Lib.hid hlast
  clear hL hP hx hlast
  by_cases h0 : x = []
  · subst h0
    have HR := Lib.hid (show lines s = P.take (P.length - 1) by rw [HL.out, if_pos HS.out, List.dropLast_eq_take])
    go_enter Tryz.func14, Tryz.ntmps14
    go_wp2_with fail
    refine (split_c s (by omega) _ hg).mono ?_
    rw [← HP.out]
    rintro e w1 ⟨rfl, rfl⟩
    have hh := heap_alloc_new w (.cells (strs P).toArray 9 (0, 0))
    have hc : (w.alloc (.cells (strs P).toArray 9 (0, 0))).cell? ⟨w.heap.size, P.length - 1, none⟩ = some (.string ⟨#[]⟩) := by
      rw [Lib.cell_of_heap hh]
      simp [strs, HX.out]
    have HH := Lib.hid hh
    clear hh
    go_wp2_with fail
    go_ret
    exact ⟨_, rfl, by rw [HR.out]; exact row_prefix (by omega) (by omega) HH.out, (Below.refl _ _).alloc (Nat.le_refl _) _⟩
  · have HR := Lib.hid (show lines s = P.take P.length by rw [HL.out, HS.out, if_neg (by simpa using h0), List.take_length])
    have hq : (x == []) = false := by simpa using h0
    go_enter Tryz.func14, Tryz.ntmps14
    go_wp2_with fail
    refine (split_c s (by omega) _ hg).mono ?_
    rw [← HP.out]
    rintro e w1 ⟨rfl, rfl⟩
    have hh := heap_alloc_new w (.cells (strs P).toArray 9 (0, 0))
    have hc : (w.alloc (.cells (strs P).toArray 9 (0, 0))).cell? ⟨w.heap.size, P.length - 1, none⟩ = some (.string ⟨x.toArray⟩) := by
      rw [Lib.cell_of_heap hh]
      simp [strs, HX.out]
    have HH := Lib.hid hh
    clear hh h0
    go_wp2_with fail
    go_ret
    exact ⟨_, rfl, by rw [HR.out]; exact row_prefix (by omega) (by omega) HH.out, (Below.refl _ _).alloc (Nat.le_refl _) _⟩

set_option maxHeartbeats 1000000 in
set_option maxRecDepth 100000 in
theorem unlines_c (l : List (List UInt8)) (v : Value) (hbig : (unlines l).length ≤ 1000000000000) (w : World) (hv : RowAt w v (strs l)) :
    Calls Tryz.prog 16 #[v] w fun e w' => e = .returned (.string ⟨(unlines l).toArray⟩) ∧ Below w.heap.size w w' := by
  obtain ⟨h0, a, cap, rfl, hcells⟩ := hv
  have hlen : (strs l).length = l.length := by simp [strs]
  rw [hlen] at h0 ⊢
  have hst := Lib.fresh_isBuilder 45 5 w
  have hbA : Built w.heap.size w.heap.size [] w (w.alloc (.cells #[.pointer none, .slice none 0 0] 45)) := ⟨hst, (Below.refl _ _).alloc (Nat.le_refl _) _⟩
  clear hst hlen
  have HC := Lib.hid hcells
  clear hcells
  go_enter Tryz.func16, Tryz.ntmps16
  go_wp2_with fail
  go_loopw [8] (fun i wr => ∃ k : Nat, k ≤ l.length ∧ i = .int .i64 k ∧ Built w.heap.size w.heap.size (unlines (l.take k)) w wr ∧ w.heap.size ≤ wr.heap.size) (fun i _ => l.length - (intOf i).toNat)
  case atStart => exact ⟨0, Nat.zero_le _, rfl, by simpa [unlines] using hbA, by simp⟩
  case round =>
    obtain ⟨k, hk, rfl, hBk, hzk⟩ := hrel
    clear hbA
    by_cases hlt : k < l.length
    · obtain ⟨x, hx⟩ : ∃ x, l[k]? = some x := ⟨l[k], List.getElem?_eq_getElem hlt⟩
      obtain ⟨b, off, rfl, hc⟩ := HC.out (by intro h; have := congrArg List.length h; simp [strs] at this; subst this; simp at hlt)
      have hck := hc k _ (strs_get hx)
      have hcr : wr.cell? ⟨b, off + k, none⟩ = some (.string ⟨x.toArray⟩) := by rw [hBk.2.cell (lt_of_cell hck)]; exact hck
      have hle := flatMap_take_le (fun y => y ++ [10]) l (k + 1)
      have hsu := flatMap_take_succ (fun y => y ++ [10]) l k x hx
      rw [hsu, List.length_append, List.length_append, List.length_singleton] at hle
      have hle' : (unlines (l.take k)).length + (x.length + 1) ≤ 1000000000000 := Nat.le_trans hle hbig
      have HS := Lib.hid (show unlines (l.take (k + 1)) = unlines (l.take k) ++ (x ++ [10]) from hsu)
      clear hsu hx hck HC hc hle
      go_wp2_with fail
      refine (writeString_c _ _ _ _ _ _ hBk (by omega) hzk).mono ?_
      rintro e w5 ⟨⟨n5, rfl⟩, hB5, hz5⟩
      go_wp2_with fail
      refine (writeByte_c _ _ _ 10 10 rfl _ _ hB5 (by simp only [List.length_append]; omega) hz5).mono ?_
      rintro e w6 ⟨rfl, hB6, hz6⟩
      go_wp2_with fail
      go_roundw
      case rel => exact ⟨k + 1, by omega, by go_num, by rw [HS.out, ← List.append_assoc]; exact hB6, hz6⟩
      case measure => simp [intOf]; omega
    · obtain rfl : k = l.length := by omega
      go_wp2_with fail
      refine (builderString_c _ _ _ _ _ hBk hzk).mono ?_
      rintro e w7 ⟨rfl, hb7⟩
      go_wp2_with fail
      go_ret
      exact ⟨ret_str (by simp), hb7⟩
end Go.Proofs.YtanjmljlpdhlnaaGreatDoor
