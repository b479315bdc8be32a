/-
  The reference's Parts: it returns the parts of a pattern, each with its kind, its byte, its set and its text; of what was there nothing has turned.
-/
import Derived.Test.YtanjmljlpdhlnaaGreatDoorTRefF
import Derived.Test.YtanjmljlpdhlnaaGreatDoorTMagic
import Derived.RegionTactic
import Derived.ChangeAlike
import Derived.BigRegion
import Derived.Deep.DeepCutAuto
namespace Go.Proofs.YtanjmljlpdhlnaaGreatDoor
open Go Go.RowKit Go.Sort Wire Txt

/-! ### What the reference keeps of a part -/
def kindOf (x : List UInt8) : Nat := if x = [42] then 1 else if x = [63] then 2 else if x.length ≤ 2 then 0 else 3
def byteP (x : List UInt8) : UInt8 := if 2 < x.length then 0 else x.getLast?.getD 0
def notOf (x : List UInt8) : Bool := decide (x[1]? = some 33 ∧ 3 < x.length)
def setOf (x : List UInt8) : List UInt8 := if x.length ≤ 2 then [] else if notOf x then (x.drop 2).take (x.length - 3) else (x.drop 1).take (x.length - 2)
def cellsP (x : List UInt8) : List Value := [.int .i64 (kindOf x), .int .u8 (byteP x).toNat, .string ⟨(setOf x).toArray⟩, .bool (notOf x), .string ⟨x.toArray⟩]
theorem infoPart : (Tryz.prog.info? 56).map (fun i => (i.zero, i.size, i.bytes)) = some (some (.agg #[.int .i64 0, .int .u8 0, .string ⟨#[]⟩, .bool false, .string ⟨#[]⟩]), 5, 56) := by kernel_rfl

theorem cells_one (c : UInt8) (h1 : c.toNat ≠ 42) (h2 : c.toNat ≠ 63) : cellsP [c] = [.int .i64 0, .int .u8 c.toNat, .string ⟨#[]⟩, .bool false, .string ⟨#[c]⟩] := by
  have n1 : c ≠ 42 := by rintro rfl; exact h1 rfl
  have n2 : c ≠ 63 := by rintro rfl; exact h2 rfl
  simp [cellsP, kindOf, byteP, setOf, notOf, n1, n2]
theorem cells_star : cellsP [42] = [.int .i64 1, .int .u8 42, .string ⟨#[]⟩, .bool false, .string ⟨#[42]⟩] := by
  simp [cellsP, kindOf, byteP, setOf, notOf]
theorem cells_any : cellsP [63] = [.int .i64 2, .int .u8 63, .string ⟨#[]⟩, .bool false, .string ⟨#[63]⟩] := by
  simp [cellsP, kindOf, byteP, setOf, notOf]
theorem cells_two (c d : UInt8) : cellsP [c, d] = [.int .i64 0, .int .u8 d.toNat, .string ⟨#[]⟩, .bool false, .string ⟨#[c, d]⟩] := by
  simp [cellsP, kindOf, byteP, setOf, notOf]
theorem cells_class (x : List UInt8) (h : 3 ≤ x.length) (b : Bool) (hb : notOf x = b) : cellsP x = [.int .i64 3, .int .u8 0, .string ⟨(if b then (x.drop 2).take (x.length - 3) else (x.drop 1).take (x.length - 2)).toArray⟩, .bool b, .string ⟨x.toArray⟩] := by
  have n1 : x ≠ [42] := by rintro rfl; simp at h
  have n2 : x ≠ [63] := by rintro rfl; simp at h
  have n3 : ¬ x.length ≤ 2 := by omega
  unfold cellsP kindOf byteP setOf
  rw [if_neg n1, if_neg n2, if_neg n3, if_pos (by omega), if_neg n3, hb]
  rfl
theorem mid_drop (p : List UInt8) (k a b : Nat) : (p.take (k + a)).drop (k + b) = ((p.drop k).take a).drop b := by
  rw [← List.drop_drop, List.drop_take, Nat.add_sub_cancel_left]
/-- closing, said of what is left of the pattern. -/
theorem close_val (p q : List UInt8) (k n : Nat) (h : p.drop k = q) (hn : 1 ≤ n) : (if Lib.indexByte (p.drop (k + (n - 1) + 1)) 93 < 0 then (-1 : Int) else ((k + (n - 1) + 1 + (Lib.indexByte (p.drop (k + (n - 1) + 1)) 93).toNat : Nat) : Int)) = if endAfter q n = 0 then -1 else ((k + endAfter q n - 1 : Nat) : Int) := by
  have e : k + (n - 1) + 1 = k + n := by omega
  rw [e, drop_on h n]
  have hb := indexByte_bd (q.drop n) 93
  unfold endAfter
  by_cases hl : q.length < n
  · rw [if_pos hl, List.drop_eq_nil_of_le (by omega), if_pos (by decide), if_pos rfl]
  · rw [if_neg hl]
    by_cases hi : Lib.indexByte (q.drop n) 93 < 0
    · rw [if_pos hi, if_pos hi, if_pos rfl]
    · rw [if_neg hi, if_neg hi, if_neg (by omega)]
      omega
theorem psize_bs (c d : UInt8) (r : List UInt8) (h : c.toNat = 92) : psize (c :: d :: r) = 2 := by simp [psize, h]
theorem psize_one (c : UInt8) (r : List UInt8) (h : c.toNat = 92 → r = []) (h2 : c.toNat ≠ 91) : psize (c :: r) = 1 := by
  by_cases h1 : c.toNat = 92
  · rw [h h1]; simp [psize, h2]
  · simp [psize, h1, h2]
theorem psize_cl (c : UInt8) (r : List UInt8) (h : c.toNat = 91) : psize (c :: r) = classSize (c :: r) := by simp [psize, h]
theorem cl_not (q : List UInt8) (h : Lib.hasPrefix q [91, 33] = true) (h3 : 0 < endAfter q 3) : classSize q = endAfter q 3 := by
  unfold classSize
  rw [if_pos ⟨h, h3⟩]
theorem cl_two (q : List UInt8) (h : ¬ (Lib.hasPrefix q [91, 33] = true ∧ 0 < endAfter q 3)) : classSize q = max (endAfter q 2) 1 := by
  unfold classSize
  rw [if_neg h]
theorem pre_yes (r : List UInt8) : Lib.hasPrefix (91 :: 33 :: r) [91, 33] = true := by simp [Lib.hasPrefix, List.isPrefixOf]
theorem pre_no (d : UInt8) (r : List UInt8) (h : d.toNat ≠ 33) : ¬ (Lib.hasPrefix (91 :: d :: r) [91, 33] = true ∧ 0 < endAfter (91 :: d :: r) 3) := by
  have hd : d ≠ 33 := by rintro rfl; exact h rfl
  rintro ⟨h1, _⟩
  simp [Lib.hasPrefix, List.isPrefixOf] at h1
  exact hd h1.symm
theorem pre_nil : ¬ (Lib.hasPrefix [91] [91, 33] = true ∧ 0 < endAfter [91] 3) := by
  rintro ⟨h1, _⟩
  exact absurd h1 (by decide)
/-- A class that does not begin with an exclamation mark, or none of whose ends lies behind it. -/
theorem class_two (q : List UInt8) (h : ¬ (Lib.hasPrefix q [91, 33] = true ∧ 0 < endAfter q 3)) (h0 : q.head? = some 91) (h2 : endAfter q 2 ≠ 0) : notOf (q.take (endAfter q 2)) = false := by
  unfold notOf
  rw [decide_eq_false_iff_not]
  rintro ⟨h33, hl⟩
  have hle := endAfter_le q 2
  rw [List.length_take] at hl
  rw [List.getElem?_take] at h33
  split at h33
  · match q, h0, h33 with
    | a :: b :: t, h0, h33 =>
      simp only [List.head?_cons, Option.some.injEq] at h0
      simp only [List.getElem?_cons_succ, List.getElem?_cons_zero, Option.some.injEq] at h33
      subst h0 h33
      apply h
      refine ⟨pre_yes t, ?_⟩
      unfold endAfter at hl ⊢
      simp only [List.length_cons, List.drop_succ_cons, List.drop_zero] at hl ⊢
      rw [if_neg (by omega)] at hl
      split at hl
      · omega
      · rename_i hi
        match t, hi, hl with
        | [], hi, hl => exact absurd (by decide) hi
        | e :: t, hi, hl =>
          simp only [List.length_cons, List.drop_succ_cons, List.drop_zero] at hl ⊢
          rw [if_neg (by omega)]
          have hge := indexByte_ge t 93
          unfold Lib.indexByte at hi hl
          by_cases he : (e == 93) = true
          · rw [if_pos he] at hl
            simp at hl
          · rw [if_neg he] at hi hl
            by_cases hm : (Lib.indexByte t 93 == -1) = true
            · rw [if_pos hm] at hi
              exact absurd (by decide) hi
            · have hm' : Lib.indexByte t 93 ≠ -1 := by simpa using hm
              rw [if_neg (by omega)]
              omega
    | [a], h0, h33 => simp at h33
    | [], h0, h33 => simp at h0
  · cases h33

theorem mid_two (s : List UInt8) (k : Nat) (c d : UInt8) (h : s[k]? = some c) (h2 : s[k + 1]? = some d) : (s.take (k + 2)).drop k = [c, d] := by
  rw [mid_step s k (k + 1) d h2 (by omega), mid_one s k c h]
  rfl
theorem text_n {p q : List UInt8} {k : Nat} (h : p.drop k = q) (n m : Nat) (hm : m + 1 = k + n) : (p.take (m + 1)).drop k = q.take n := by
  rw [hm, List.drop_take, Nat.add_sub_cancel_left, h]
theorem set_n {p q : List UInt8} {k : Nat} (h : p.drop k = q) (j n m : Nat) (hm : m + 1 = k + n) (hn : j + 2 ≤ n) (hl : n ≤ q.length) : (p.take m).drop (k + j) = ((q.take n).drop j).take ((q.take n).length - (j + 1)) := by
  subst h
  have hq : n ≤ (p.drop k).length := hl
  rw [List.drop_take, List.drop_take, List.take_take, List.drop_drop, List.length_take, Nat.min_eq_left hl, Nat.min_eq_left (by omega)]
  congr 1
  omega
theorem not_n (r : List UInt8) (n : Nat) (h : 4 ≤ n) (hl : n ≤ r.length + 1 + 1) : notOf ((91 :: 33 :: r).take n) = true := by
  unfold notOf
  rw [decide_eq_true_eq, List.getElem?_take_of_lt (by omega), List.length_take]
  exact ⟨rfl, by simp only [List.length_cons]; omega⟩
theorem grownBy_drewN (w : World) (n : Nat) (row : Option Nat) : w.grownBy (w.drewN n) row := ⟨rfl, rfl, rfl, Nat.le_refl _, fun _ _ _ => rfl⟩
/-- closing, called from Parts. -/
theorem closeR_c (p q : List UInt8) (k n : Nat) (z : Int) (h : p.drop k = q) (hn : 1 ≤ n) (hz : z = ((k + (n - 1) : Nat) : Int)) (hp : p.length ≤ 1000000) (hk : k + (n - 1) ≤ 1000010) (w : World) :
    Calls Tryz.prog 55 #[.string ⟨p.toArray⟩, .int .i64 z] w fun e w' => e = .returned (.int .i64 (if endAfter q n = 0 then -1 else ((k + endAfter q n - 1 : Nat) : Int))) ∧ w = w' := by
  subst hz
  rw [← close_val p q k n h hn]
  exact closingR_c p (k + (n - 1)) hp hk w

attribute [local go_sem ↓] Go.wp_at_zero Go.wp_at_succ
set_option maxHeartbeats 4000000 in
set_option maxRecDepth 100000 in
theorem partsR_c (p : List UInt8) (hp : p.length ≤ 1000000) (w : World) :
    Calls Tryz.prog 41 #[.string ⟨p.toArray⟩] w fun e w' => ∃ v, e = .returned v ∧ w'.ownsRow w.heap.size 56 5 v (parts p).length ((parts p).flatMap cellsP) ∧ Below w.heap.size w w' := by
  obtain ⟨i0, hi, hz0, hz1, hz2⟩ := info_parts infoPart
  go_enter Tryz.func41, Tryz.ntmps41
  go_wp2_with fail
  go_loopg [3, 4] p.length (fun g v i wr => ∃ (k : Nat) (q : List UInt8) (l : List (List UInt8)), g = q.length ∧ k + q.length = p.length ∧ i = .int .i64 k ∧ Hid (p.drop k = q) ∧ Hid (parts p = l ++ parts q) ∧ l.length ≤ k ∧ wr.ownsRow w.heap.size 56 5 v l.length (l.flatMap cellsP) ∧ Below w.heap.size w wr)
  case atStart => exact ⟨0, p, [], rfl, by omega, rfl, Lib.hid rfl, Lib.hid rfl, Nat.le_refl _, World.ownsRow_nil _ _ _ _, Below.refl _ _⟩
  case round =>
    obtain ⟨k, q, l, rfl, hkq, rfl, HD, HP, hlk, hown, hb⟩ := hrel
    have hz := hb.size
    cases q with
    | nil =>
      simp only [List.length_nil] at hkq
      have HE := Lib.hid (show parts p = l by rw [HP.out, parts_nil, List.append_nil])
      have hge : ¬ ((k : Int) < (p.length : Int)) := by omega
      go_wp2_with fail
      go_ret
      exact ⟨_, rfl, by rw [HE.out]; exact hown, hb⟩
    | cons c r =>
      have hkq' : k + r.length + 1 = p.length := by simp only [List.length_cons] at hkq; omega
      have hat := drop_at HD.out
      have e0 := at_k p k c (hat 0 c rfl) (by rw [ba_size]; omega)
      have k0 : (0 : Int) ≤ (k : Int) := by omega
      have k1 : (k : Int) < (p.length : Int) := by omega
      have hw1 : IntKind.i64.wrap ((k : Int) + 1) = (k : Int) + 1 := IntWalk.i64_in _ (by omega)
      have e0' : ∀ h, (⟨p.toArray⟩ : ByteArray)[((k : Int)).toNat]'h = c := fun h => e0
      have hsl := slice_mid p k ((k : Int) + 1) (by omega) (by omega) (by omega)
      rw [show ((p.take ((k : Int) + 1).toNat).drop (k : Int).toNat) = [c] from mid_one p k c (hat 0 c rfl)] at hsl
      have HAT := Lib.hid hat
      clear hat
      obtain ⟨B, hB⟩ : ∃ B, B = wr.heap.size := ⟨_, rfl⟩
      go_upto_region 4 with (fail)
      go_cut [5] (fun s5 wx => s5 = .pointer (some ⟨wr.heap.size, 0, none⟩) ∧ wx = (wr.alloc (.cells #[.int .i64 0, .int .u8 c.toNat, .string ⟨#[]⟩, .bool false, .string ⟨#[c]⟩] 56)).drew)
      case first =>
        go_region
        all_goals
          go_wp2_with fail
          go_meet
          exact ⟨rfl, rfl⟩
      case rest =>
        obtain ⟨rfl, rfl⟩ := hcut
        obtain ⟨b30, hb30⟩ : ∃ b30, b30 = decide (c.toNat = 92 ∧ r ≠ []) := ⟨_, rfl⟩
        have HB30 := Lib.hid hb30
        clear hb30
        go_upto_region 5 with (fail)
        go_cut [30] (fun t30 wx => t30 = .bool b30 ∧ wx = (wr.alloc (.cells #[.int .i64 0, .int .u8 c.toNat, .string ⟨#[]⟩, .bool false, .string ⟨#[c]⟩] 56)).drew)
        case first =>
          by_cases h92 : c.toNat = 92
          · have b92 : ((c.toNat : Int) == 92) = true := by rw [h92]; rfl
            cases r with
            | nil =>
              have HX := Lib.hid (show false = b30 by rw [HB30.out]; simp)
              have hlt : ¬ ((k : Int) + 1 < (p.length : Int)) := by simp only [List.length_nil] at hkq'; omega
              clear h92
              go_wp2_with fail
              go_meet
              exact ⟨congrArg Value.bool HX.out, rfl⟩
            | cons d r =>
              have HX := Lib.hid (show true = b30 by rw [HB30.out]; simp [h92])
              have hlt : (k : Int) + 1 < (p.length : Int) := by simp only [List.length_cons] at hkq'; omega
              clear h92
              go_wp2_with fail
              go_meet
              exact ⟨congrArg Value.bool HX.out, rfl⟩
          · have HX := Lib.hid (show false = b30 by rw [HB30.out]; simp [h92])
            have b92 : ((c.toNat : Int) == 92) = false := beq_no (by omega)
            clear h92
            go_wp2_with fail
            go_meet
            exact ⟨congrArg Value.bool HX.out, rfl⟩
        case rest =>
          obtain ⟨rfl, rfl⟩ := hcut
          go_upto_if 30 with (fail)
          go_cut [6] (fun s6 wx => ∃ n, wx = (wr.alloc (.cells (cellsP ((c :: r).take (psize (c :: r)))).toArray 56)).drewN n)
          case first =>
            cases b30 with
            | true =>
              have hA : c.toNat = 92 ∧ r ≠ [] := of_decide_eq_true HB30.out.symm
              obtain ⟨h92, hr⟩ := hA
              cases r with
              | nil => exact absurd rfl hr
              | cons d r =>
                simp only [List.length_cons] at hkq'
                have HC := Lib.hid (show cellsP ((c :: d :: r).take (psize (c :: d :: r))) = [.int .i64 0, .int .u8 d.toNat, .string ⟨#[]⟩, .bool false, .string ⟨#[c, d]⟩] by rw [psize_bs c d r h92]; exact cells_two c d)
                have e1 := at_k p (k + 1) d (HAT.out 1 d rfl) (by rw [ba_size]; omega)
                have e1' : ∀ h, (⟨p.toArray⟩ : ByteArray)[((k : Int) + 1).toNat]'h = d := fun h => e1
                have k10 : (0 : Int) ≤ (k : Int) + 1 := by omega
                have k11 : (k : Int) + 1 < (p.length : Int) := by omega
                have hw2 : IntKind.i64.wrap ((k : Int) + 2) = (k : Int) + 2 := IntWalk.i64_in _ (by omega)
                have hs2 := slice_mid p k ((k : Int) + 2) (by omega) (by omega) (by omega)
                rw [show ((p.take ((k : Int) + 2).toNat).drop (k : Int).toNat) = [c, d] by rw [← mid_two p k c d (HAT.out 0 c rfl) (HAT.out 1 d rfl)]; rfl] at hs2
                clear h92 hr
                go_wp2_with fail
                go_region
                all_goals
                  go_wp2_with fail
                  go_meet
                  exact ⟨2, by rw [HC.out]; rfl⟩
            | false =>
              have hA : ¬ (c.toNat = 92 ∧ r ≠ []) := of_decide_eq_false HB30.out.symm
              by_cases h42 : c.toNat = 42
              · obtain rfl : c = 42 := byte_of c 42 h42
                have HC := Lib.hid (show cellsP ((42 :: r).take (psize (42 :: r))) = [.int .i64 1, .int .u8 42, .string ⟨#[]⟩, .bool false, .string ⟨#[42]⟩] by rw [psize_one 42 r (fun h => absurd h (by decide)) (by decide)]; exact cells_star)
                clear h42 hA
                go_wp2_with fail
                go_meet
                exact ⟨1, by rw [HC.out]; rfl⟩
              · have b42 : ((c.toNat : Int) == 42) = false := beq_no (by omega)
                by_cases h63 : c.toNat = 63
                · obtain rfl : c = 63 := byte_of c 63 h63
                  have HC := Lib.hid (show cellsP ((63 :: r).take (psize (63 :: r))) = [.int .i64 2, .int .u8 63, .string ⟨#[]⟩, .bool false, .string ⟨#[63]⟩] by rw [psize_one 63 r (fun h => absurd h (by decide)) (by decide)]; exact cells_any)
                  clear h42 h63 hA
                  go_wp2_with fail
                  go_meet
                  exact ⟨1, by rw [HC.out]; rfl⟩
                · have b63 : ((c.toNat : Int) == 63) = false := beq_no (by omega)
                  by_cases h91 : c.toNat = 91
                  · obtain rfl : c = 91 := byte_of c 91 h91
                    clear h42 h63 h91 hA
                    have hw2 : IntKind.i64.wrap ((k : Int) + 2) = (k : Int) + 2 := IntWalk.i64_in _ (by omega)
                    cases r with
                    | nil =>
                      simp only [List.length_nil] at hkq'
                      have hlt : ¬ ((k : Int) + 1 < (p.length : Int)) := by omega
                      have HC := Lib.hid (show cellsP (([91] : List UInt8).take (psize [91])) = [.int .i64 0, .int .u8 91, .string ⟨#[]⟩, .bool false, .string ⟨#[91]⟩] by
                        rw [psize_cl 91 _ rfl, cl_two _ pre_nil]
                        exact cells_one 91 (by decide) (by decide))
                      have H2 := Lib.hid (show (if endAfter [91] 2 = 0 then (-1 : Int) else ((k + endAfter [91] 2 - 1 : Nat) : Int)) = -1 from if_pos rfl)
                      go_wp2_with fail
                      refine (closeR_c p [91] k 2 _ HD.out (by decide) (by omega) hp (by omega) _).mono ?_
                      rw [H2.out]
                      rintro e w2 ⟨rfl, rfl⟩
                      go_wp2_with fail
                      go_meet
                      exact ⟨1, by rw [HC.out]; rfl⟩
                    | cons d r =>
                      simp only [List.length_cons] at hkq'
                      have e1 := at_k p (k + 1) d (HAT.out 1 d rfl) (by rw [ba_size]; omega)
                      have k11 : (k : Int) + 1 < (p.length : Int) := by omega
                      by_cases h33 : d.toNat = 33
                      · obtain rfl : d = 33 := byte_of d 33 h33
                        clear h33
                        by_cases h3 : endAfter (91 :: 33 :: r) 3 = 0
                        · have HNO := Lib.hid (show ¬ (Lib.hasPrefix (91 :: 33 :: r) [91, 33] = true ∧ 0 < endAfter (91 :: 33 :: r) 3) by rw [h3]; rintro ⟨_, h⟩; exact absurd h (by decide))
                          have H3 := Lib.hid (show (if endAfter (91 :: 33 :: r) 3 = 0 then (-1 : Int) else ((k + endAfter (91 :: 33 :: r) 3 - 1 : Nat) : Int)) = -1 by rw [if_pos h3])
                          clear h3
                          by_cases h2 : endAfter (91 :: 33 :: r) 2 = 0
                          · have HC := Lib.hid (show cellsP ((91 :: 33 :: r).take (psize (91 :: 33 :: r))) = [.int .i64 0, .int .u8 91, .string ⟨#[]⟩, .bool false, .string ⟨#[91]⟩] by
                              rw [psize_cl 91 _ rfl, cl_two _ HNO.out, h2]
                              exact cells_one 91 (by decide) (by decide))
                            have H2 := Lib.hid (show (if endAfter (91 :: 33 :: r) 2 = 0 then (-1 : Int) else ((k + endAfter (91 :: 33 :: r) 2 - 1 : Nat) : Int)) = -1 by rw [if_pos h2])
                            clear h2
                            go_wp2_with fail
                            refine (closeR_c p (91 :: 33 :: r) k 3 _ HD.out (by decide) (by omega) hp (by omega) _).mono ?_
                            rw [H3.out]
                            rintro e w2 ⟨rfl, rfl⟩
                            go_wp2_with fail
                            refine (closeR_c p (91 :: 33 :: r) k 2 _ HD.out (by decide) (by omega) hp (by omega) _).mono ?_
                            rw [H2.out]
                            rintro e w2 ⟨rfl, rfl⟩
                            go_wp2_with fail
                            go_meet
                            exact ⟨1, by rw [HC.out]; rfl⟩
                          · obtain ⟨n, hn⟩ : ∃ n, n = endAfter (91 :: 33 :: r) 2 := ⟨_, rfl⟩
                            have hle := endAfter_le (91 :: 33 :: r) 2
                            have hnot := class_two (91 :: 33 :: r) HNO.out rfl h2
                            rw [← hn] at hle h2 hnot
                            simp only [List.length_cons] at hle
                            obtain ⟨m, hm⟩ : ∃ m : Nat, m = k + n - 1 := ⟨_, rfl⟩
                            have H2 := Lib.hid (show (if endAfter (91 :: 33 :: r) 2 = 0 then (-1 : Int) else ((k + endAfter (91 :: 33 :: r) 2 - 1 : Nat) : Int)) = (m : Int) by rw [← hn, if_neg h2, hm])
                            obtain ⟨S, hS⟩ : ∃ S, S = (((91 :: 33 :: r).take n).drop 1).take (((91 :: 33 :: r).take n).length - 2) := ⟨_, rfl⟩
                            obtain ⟨X, hX⟩ : ∃ X, X = (91 :: 33 :: r).take n := ⟨_, rfl⟩
                            have HC := Lib.hid (show cellsP ((91 :: 33 :: r).take (psize (91 :: 33 :: r))) = [.int .i64 3, .int .u8 0, .string ⟨S.toArray⟩, .bool false, .string ⟨X.toArray⟩] by
                              rw [psize_cl 91 _ rfl, cl_two _ HNO.out, ← hn, Nat.max_eq_left (by omega), cells_class _ (by rw [List.length_take, List.length_cons, List.length_cons]; omega) false hnot, hS, hX]
                              rfl)
                            have hs1 := slice_mid p ((k : Int) + 1) (m : Int) (by omega) (by omega) (by omega)
                            rw [show ((p.take (m : Int).toNat).drop ((k : Int) + 1).toNat) = S by rw [hS]; exact set_n HD.out 1 n m (by omega) (by omega) (by simp only [List.length_cons]; omega)] at hs1
                            have hs2 := slice_mid p (k : Int) ((m : Int) + 1) (by omega) (by omega) (by omega)
                            rw [show ((p.take ((m : Int) + 1).toNat).drop (k : Int).toNat) = X by rw [hX]; exact text_n HD.out n m (by omega)] at hs2
                            have hwm : IntKind.i64.wrap ((m : Int) + 1) = (m : Int) + 1 := IntWalk.i64_in _ (by omega)
                            have m0 : (0 : Int) ≤ (m : Int) := by omega
                            clear hn h2 hnot hm hS hX
                            go_wp2_with fail
                            refine (closeR_c p (91 :: 33 :: r) k 3 _ HD.out (by decide) (by omega) hp (by omega) _).mono ?_
                            rw [H3.out]
                            rintro e w2 ⟨rfl, rfl⟩
                            go_wp2_with fail
                            refine (closeR_c p (91 :: 33 :: r) k 2 _ HD.out (by decide) (by omega) hp (by omega) _).mono ?_
                            rw [H2.out]
                            rintro e w2 ⟨rfl, rfl⟩
                            go_wp2_with fail
                            go_region
                            all_goals
                              go_wp2_with fail
                              go_meet
                              exact ⟨2, by rw [HC.out]; rfl⟩
                        · obtain ⟨n, hn⟩ : ∃ n, n = endAfter (91 :: 33 :: r) 3 := ⟨_, rfl⟩
                          have hle := endAfter_le (91 :: 33 :: r) 3
                          have hcl := cl_not (91 :: 33 :: r) (pre_yes r) (by omega)
                          rw [← hn] at hle h3 hcl
                          simp only [List.length_cons] at hle
                          have hnot := not_n r n (by omega) (by omega)
                          obtain ⟨m, hm⟩ : ∃ m : Nat, m = k + n - 1 := ⟨_, rfl⟩
                          have H3 := Lib.hid (show (if endAfter (91 :: 33 :: r) 3 = 0 then (-1 : Int) else ((k + endAfter (91 :: 33 :: r) 3 - 1 : Nat) : Int)) = (m : Int) by rw [← hn, if_neg h3, hm])
                          obtain ⟨S, hS⟩ : ∃ S, S = (((91 :: 33 :: r).take n).drop 2).take (((91 :: 33 :: r).take n).length - 3) := ⟨_, rfl⟩
                          obtain ⟨X, hX⟩ : ∃ X, X = (91 :: 33 :: r).take n := ⟨_, rfl⟩
                          have HC := Lib.hid (show cellsP ((91 :: 33 :: r).take (psize (91 :: 33 :: r))) = [.int .i64 3, .int .u8 0, .string ⟨S.toArray⟩, .bool true, .string ⟨X.toArray⟩] by
                            rw [psize_cl 91 _ rfl, hcl, cells_class _ (by rw [List.length_take, List.length_cons, List.length_cons]; omega) true hnot, hS, hX]
                            rfl)
                          have hs1 := slice_mid p ((k : Int) + 2) (m : Int) (by omega) (by omega) (by omega)
                          rw [show ((p.take (m : Int).toNat).drop ((k : Int) + 2).toNat) = S by rw [hS]; exact set_n HD.out 2 n m (by omega) (by omega) (by simp only [List.length_cons]; omega)] at hs1
                          have hs2 := slice_mid p (k : Int) ((m : Int) + 1) (by omega) (by omega) (by omega)
                          rw [show ((p.take ((m : Int) + 1).toNat).drop (k : Int).toNat) = X by rw [hX]; exact text_n HD.out n m (by omega)] at hs2
                          have hwm : IntKind.i64.wrap ((m : Int) + 1) = (m : Int) + 1 := IntWalk.i64_in _ (by omega)
                          have m0 : (0 : Int) ≤ (m : Int) := by omega
                          clear hn h3 hnot hm hS hX hcl
                          go_wp2_with fail
                          refine (closeR_c p (91 :: 33 :: r) k 3 _ HD.out (by decide) (by omega) hp (by omega) _).mono ?_
                          rw [H3.out]
                          rintro e w2 ⟨rfl, rfl⟩
                          go_wp2_with fail
                          go_region
                          all_goals
                            go_wp2_with fail
                            go_meet
                            exact ⟨2, by rw [HC.out]; rfl⟩
                      · have HNO := Lib.hid (pre_no d r h33)
                        have b33 : ((d.toNat : Int) == 33) = false := beq_no (by omega)
                        clear h33
                        by_cases h2 : endAfter (91 :: d :: r) 2 = 0
                        · have HC := Lib.hid (show cellsP ((91 :: d :: r).take (psize (91 :: d :: r))) = [.int .i64 0, .int .u8 91, .string ⟨#[]⟩, .bool false, .string ⟨#[91]⟩] by
                            rw [psize_cl 91 _ rfl, cl_two _ HNO.out, h2]
                            exact cells_one 91 (by decide) (by decide))
                          have H2 := Lib.hid (show (if endAfter (91 :: d :: r) 2 = 0 then (-1 : Int) else ((k + endAfter (91 :: d :: r) 2 - 1 : Nat) : Int)) = -1 by rw [if_pos h2])
                          clear h2
                          go_wp2_with fail
                          refine (closeR_c p (91 :: d :: r) k 2 _ HD.out (by decide) (by omega) hp (by omega) _).mono ?_
                          rw [H2.out]
                          rintro e w2 ⟨rfl, rfl⟩
                          go_wp2_with fail
                          go_meet
                          exact ⟨1, by rw [HC.out]; rfl⟩
                        · obtain ⟨n, hn⟩ : ∃ n, n = endAfter (91 :: d :: r) 2 := ⟨_, rfl⟩
                          have hle := endAfter_le (91 :: d :: r) 2
                          have hnot := class_two (91 :: d :: r) HNO.out rfl h2
                          rw [← hn] at hle h2 hnot
                          simp only [List.length_cons] at hle
                          obtain ⟨m, hm⟩ : ∃ m : Nat, m = k + n - 1 := ⟨_, rfl⟩
                          have H2 := Lib.hid (show (if endAfter (91 :: d :: r) 2 = 0 then (-1 : Int) else ((k + endAfter (91 :: d :: r) 2 - 1 : Nat) : Int)) = (m : Int) by rw [← hn, if_neg h2, hm])
                          obtain ⟨S, hS⟩ : ∃ S, S = (((91 :: d :: r).take n).drop 1).take (((91 :: d :: r).take n).length - 2) := ⟨_, rfl⟩
                          obtain ⟨X, hX⟩ : ∃ X, X = (91 :: d :: r).take n := ⟨_, rfl⟩
                          have HC := Lib.hid (show cellsP ((91 :: d :: r).take (psize (91 :: d :: r))) = [.int .i64 3, .int .u8 0, .string ⟨S.toArray⟩, .bool false, .string ⟨X.toArray⟩] by
                            rw [psize_cl 91 _ rfl, cl_two _ HNO.out, ← hn, Nat.max_eq_left (by omega), cells_class _ (by rw [List.length_take, List.length_cons, List.length_cons]; omega) false hnot, hS, hX]
                            rfl)
                          have hs1 := slice_mid p ((k : Int) + 1) (m : Int) (by omega) (by omega) (by omega)
                          rw [show ((p.take (m : Int).toNat).drop ((k : Int) + 1).toNat) = S by rw [hS]; exact set_n HD.out 1 n m (by omega) (by omega) (by simp only [List.length_cons]; omega)] at hs1
                          have hs2 := slice_mid p (k : Int) ((m : Int) + 1) (by omega) (by omega) (by omega)
                          rw [show ((p.take ((m : Int) + 1).toNat).drop (k : Int).toNat) = X by rw [hX]; exact text_n HD.out n m (by omega)] at hs2
                          have hwm : IntKind.i64.wrap ((m : Int) + 1) = (m : Int) + 1 := IntWalk.i64_in _ (by omega)
                          have m0 : (0 : Int) ≤ (m : Int) := by omega
                          clear hn h2 hnot hm hS hX
                          go_wp2_with fail
                          refine (closeR_c p (91 :: d :: r) k 2 _ HD.out (by decide) (by omega) hp (by omega) _).mono ?_
                          rw [H2.out]
                          rintro e w2 ⟨rfl, rfl⟩
                          go_wp2_with fail
                          go_region
                          all_goals
                            go_wp2_with fail
                            go_meet
                            exact ⟨2, by rw [HC.out]; rfl⟩
                  · have b91 : ((c.toNat : Int) == 91) = false := beq_no (by omega)
                    have HC := Lib.hid (show cellsP ((c :: r).take (psize (c :: r))) = [.int .i64 0, .int .u8 c.toNat, .string ⟨#[]⟩, .bool false, .string ⟨#[c]⟩] by
                      rw [psize_one c r (fun h => Classical.not_not.1 (fun hr => hA ⟨h, hr⟩)) h91]
                      exact cells_one c h42 h63)
                    clear h42 h63 h91 hA
                    go_wp2_with fail
                    go_meet
                    exact ⟨1, by rw [HC.out]; rfl⟩
          case rest =>
            obtain ⟨n, hwn⟩ := hcut
            obtain ⟨x, hx⟩ : ∃ x, x = (c :: r).take (psize (c :: r)) := ⟨_, rfl⟩
            have hps := psize_le (c :: r) (by simp)
            have hxl : x.length = psize (c :: r) := by rw [hx, List.length_take]; omega
            have HPN := Lib.hid (show parts p = (l ++ [x]) ++ parts ((c :: r).drop x.length) by rw [HP.out, parts_cons (c :: r) (by simp), ← hx, hxl]; simp)
            have HDN := Lib.hid (drop_on HD.out x.length)
            have hx1 : 1 ≤ x.length := by omega
            have hx2 : x.length ≤ r.length + 1 := by have := hps.2; rw [← hxl] at this; simpa using this
            rw [← hx] at hwn
            clear hx hxl hps HAT HB30
            have hown1 : (wr.alloc (.cells (cellsP x).toArray 56)).ownsRow w.heap.size 56 5 u3 l.length (l.flatMap cellsP) := hown.alloc _
            have hb1 : Below w.heap.size w (wr.alloc (.cells (cellsP x).toArray 56)) := hb.alloc hz _
            have hh := heap_alloc_new wr (.cells (cellsP x).toArray 56 (0, 0))
            have hown2 := hown1.kept (w' := wc) (row := none) (by rw [hwn]; exact grownBy_drewN _ _ _) (by cases hv : Value.ownBlock u3 <;> simp)
            have hb2 : Below w.heap.size w wc := by rw [hwn]; exact below_drew hb1 _
            have hh2 : wc.heap[wr.heap.size]? = some (.cells (cellsP x).toArray 56 (0, 0)) := by rw [hwn]; exact hh
            have hBw : wr.heap.size < wc.heap.size := (Array.getElem?_eq_some_iff.1 hh2).1
            have hne : ∀ g, u3.ownBlock = some g → g < wr.heap.size := fun g hg => (hown.lt g hg).2
            have HNE := Lib.hid hne
            clear hne hwn hown1 hb1 hh hown hb
            have c0 : wc.cell? ⟨wr.heap.size, 0, none⟩ = some (.int .i64 (kindOf x)) := by rw [Lib.cell_of_heap hh2]; rfl
            have c1 : wc.cell? ⟨wr.heap.size, 1, none⟩ = some (.int .u8 (byteP x).toNat) := by rw [Lib.cell_of_heap hh2]; rfl
            have c2 : wc.cell? ⟨wr.heap.size, 2, none⟩ = some (.string ⟨(setOf x).toArray⟩) := by rw [Lib.cell_of_heap hh2]; rfl
            have c3 : wc.cell? ⟨wr.heap.size, 3, none⟩ = some (.bool (notOf x)) := by rw [Lib.cell_of_heap hh2]; rfl
            have c4 : wc.cell? ⟨wr.heap.size, 4, none⟩ = some (.string ⟨x.toArray⟩) := by rw [Lib.cell_of_heap hh2]; rfl
            have c5 : ∀ o, (wc.alloc o).cell? ⟨wr.heap.size, 4, none⟩ = some (.string ⟨x.toArray⟩) := fun o => by rw [World.cell?_of_block (Below.heap_alloc wc o _ hBw)]; exact c4
            have C5 := Lib.hid c5
            have hz2' := hb2.size
            clear c5 hh2
            go_wp2_with (at_builtin; refine wpList_append_own _ rfl _ _ 52 rfl w.heap.size 56 i0 (.agg #[.int .i64 0, .int .u8 0, .string ⟨#[]⟩, .bool false, .string ⟨#[]⟩]) 5 56 Tryz.underlying52 hi hz0 hz1 hz2 rfl (by decide) _ _ _ rfl (hown2.alloc _) ⟨wc.heap.size, 0, none⟩ 1 1 (cellsP x) rfl rfl ?d1 ?d2 ?d3 ?d4 ?d5 ?_)
            case d1 => intro j u hj; refine cells_at wc (cellsP x).toArray _ j u ?_; exact hj
            case d2 => intro u hu; simp [cellsP] at hu; rcases hu with rfl | rfl | rfl | rfl | rfl <;> rfl
            case d3 => unfold maxLen; omega
            case d4 => omega
            case d5 => first | omega | (simp; omega)
            intro v' w3 hown3 hgrow _
            have hb3 : Below w.heap.size w w3 := (hb2.alloc hz2' _).grown hgrow (by simp; omega) (fun k hk => (hown2.lt k hk).1)
            have c6 : w3.cell? ⟨wr.heap.size, 4, none⟩ = some (.string ⟨x.toArray⟩) := hgrow.cell (C5.out _) (fun hg => by have := HNE.out _ hg.symm; simp at this)
            clear hgrow C5 c0 c1 c2 c3 c4
            go_wp2_with fail
            go_roundg ((c :: r).drop x.length).length
            case measure => rw [List.length_drop, List.length_cons]; omega
            case rel => exact ⟨k + x.length, (c :: r).drop x.length, l ++ [x], rfl, by rw [List.length_drop, List.length_cons]; omega, by go_num, HDN, HPN, by rw [List.length_append, List.length_singleton]; omega, by rw [List.length_append, List.length_singleton, List.flatMap_append, show [x].flatMap cellsP = cellsP x by simp]; exact hown3, hb3⟩
end Go.Proofs.YtanjmljlpdhlnaaGreatDoor
