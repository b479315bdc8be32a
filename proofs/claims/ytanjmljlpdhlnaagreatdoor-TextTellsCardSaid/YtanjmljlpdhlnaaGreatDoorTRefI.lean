/-
  The reference's Pattern: it reports what chapter 2 says a pattern matches; of what was there nothing has turned.
-/
import Derived.Test.YtanjmljlpdhlnaaGreatDoorTRefH
import Derived.Deep.OwnRows
import Derived.Deep.RegionHeld3
import Derived.Deep.DrawnRows
namespace Go.Proofs.YtanjmljlpdhlnaaGreatDoor
open Go Go.RowKit Go.Sort Wire Txt

/-! ### The table of the reference: which beginnings of a string the first parts match -/
theorem mt_snoc_nil {x : List UInt8} (hx : x ≠ [42]) : ∀ r : List (List UInt8), mt (r ++ [x]) [] = false := by
  intro r
  induction r with
  | nil => exact mt_end x [] hx
  | cons y r ih =>
    rw [List.cons_append]
    by_cases hy : y = [42]
    · subst hy; rw [mt_star]; exact ih
    · exact mt_end y _ hy
theorem mt_snoc_byte {x : List UInt8} (hx : x ≠ [42]) (c : UInt8) : ∀ (r : List (List UInt8)) (t : List UInt8), mt (r ++ [x]) (t ++ [c]) = (mt r t && Txt.fits x c) := by
  intro r
  induction r with
  | nil =>
    intro t
    cases t with
    | nil => rw [List.nil_append, List.nil_append, mt_byte _ _ _ _ hx, mt_nil]; simp
    | cons d t => rw [List.nil_append, List.cons_append, mt_byte _ _ _ _ hx, mt_nil, mt_nil]; simp
  | cons y r ih =>
    intro t
    rw [List.cons_append]
    by_cases hy : y = [42]
    · subst hy
      rw [mt_star, mt_star, Bool.eq_iff_iff, Bool.and_eq_true, someTail_iff, someTail_iff]
      constructor
      · rintro ⟨j, hj, hm⟩
        rw [List.length_append, List.length_singleton] at hj
        by_cases hjt : j ≤ t.length
        · rw [List.drop_append_of_le_length hjt, ih, Bool.and_eq_true] at hm
          exact ⟨⟨j, hjt, hm.1⟩, hm.2⟩
        · rw [List.drop_eq_nil_of_le (by rw [List.length_append, List.length_singleton]; omega), mt_snoc_nil hx] at hm
          cases hm
      · rintro ⟨⟨j, hj, hm⟩, hf⟩
        exact ⟨j, by rw [List.length_append]; omega, by rw [List.drop_append_of_le_length hj, ih, hm, hf]; rfl⟩
    · cases t with
      | nil => rw [List.nil_append, mt_byte _ _ _ _ hy, mt_snoc_nil hx, mt_end _ _ hy]; simp
      | cons d t => rw [List.cons_append, mt_byte _ _ _ _ hy, mt_byte _ _ _ _ hy, ih, Bool.and_assoc]
theorem table_star (r : List (List UInt8)) (s : List UInt8) (k : Nat) (hk : k ≤ s.length) : mt (r ++ [[42]]) (s.take k) = (mt r (s.take k) || (decide (0 < k) && mt (r ++ [[42]]) (s.take (k - 1)))) := by
  rw [Bool.eq_iff_iff, Bool.or_eq_true, Bool.and_eq_true, mt_snoc, mt_snoc, decide_eq_true_eq]
  have e : ∀ j a, j ≤ a → (s.take a).take j = s.take j := fun j a h => by rw [List.take_take, Nat.min_eq_left h]
  constructor
  · rintro ⟨j, hj, hm⟩
    rw [List.length_take] at hj
    by_cases h : j = k
    · subst h
      left
      rw [e j j (Nat.le_refl _)] at hm
      exact hm
    · right
      refine ⟨by omega, j, by rw [List.length_take]; omega, ?_⟩
      rw [e j k (by omega)] at hm
      rw [e j (k - 1) (by omega)]
      exact hm
  · rintro (hm | ⟨h0, j, hj, hm⟩)
    · exact ⟨k, by rw [List.length_take]; omega, by rw [e k k (Nat.le_refl _)]; exact hm⟩
    · rw [List.length_take] at hj
      rw [e j (k - 1) (by omega)] at hm
      exact ⟨j, by rw [List.length_take]; omega, by rw [e j k (by omega)]; exact hm⟩
theorem table_byte (r : List (List UInt8)) (x : List UInt8) (hx : x ≠ [42]) (s : List UInt8) (k : Nat) (c : UInt8) (hc : s[k]? = some c) : mt (r ++ [x]) (s.take (k + 1)) = (mt r (s.take k) && Txt.fits x c) := by
  rw [List.take_add_one, hc]
  exact mt_snoc_byte hx c r (s.take k)
theorem table_zero (r : List (List UInt8)) (x : List UInt8) (hx : x ≠ [42]) (s : List UInt8) : mt (r ++ [x]) (s.take 0) = false := mt_snoc_nil hx r
theorem table_start (s : List UInt8) (k : Nat) (hk : k ≤ s.length) : mt [] (s.take k) = decide (k = 0) := by
  rw [mt_nil]
  cases k with
  | zero => rfl
  | succ k =>
    cases s with
    | nil => simp at hk
    | cons c s => rfl
theorem kind_star (x : List UInt8) : kindOf x = 1 ↔ x = [42] := by
  unfold kindOf
  by_cases h : x = [42]
  · rw [if_pos h]; simp [h]
  · rw [if_neg h]
    by_cases h2 : x = [63]
    · rw [if_pos h2]; simp [h]
    · rw [if_neg h2]; split <;> simp [h]

theorem fitsR_c (x : List UInt8) (c : UInt8) (hx : x ≠ []) (hs : x ≠ [42]) (hl : x.length ≤ 1000000000) (w : World) :
    Calls Tryz.prog 42 #[.agg #[.int .i64 (kindOf x), .int .u8 (byteP x).toNat, .string ⟨(setOf x).toArray⟩, .bool (notOf x), .string ⟨x.toArray⟩], .int .u8 c.toNat] w fun e w' => e = .returned (.bool (Txt.fits x c)) ∧ Below w.heap.size w w' := by
  rw [← fits_kd x c hx hs]
  exact fitsR_k (kindOf x) (byteP x) (setOf x) x (notOf x) c (Nat.le_trans (setOf_len x) hl) w
theorem infoBool : (Tryz.prog.info? 4).map (fun i => (i.zero, i.size, i.bytes)) = some (some (.bool false), 1, 1) := by kernel_rfl
/-- A row of the table: the first k places are known. -/
def rowT (r : List (List UInt8)) (s : List UInt8) (k : Nat) : Nat → Value := fun j => .bool (if j < k then mt r (s.take j) else false)
theorem rowT_all (r : List (List UInt8)) (s : List UInt8) (j : Nat) (hj : j < s.length + 1) : rowT r s (s.length + 1) j = .bool (mt r (s.take j)) := by unfold rowT; rw [if_pos hj]
theorem rowT_set {w : World} {b n : Nat} {r : List (List UInt8)} {s : List UInt8} {k : Nat} (h : w.rowIs b 4 n (rowT r s k)) (v : Bool) (hv : v = mt r (s.take k)) : (w.setCell ⟨b, k, none⟩ (.bool v)).rowIs b 4 n (rowT r s (k + 1)) := by
  refine (h.set k (.bool v)).congr (fun j _ => ?_)
  subst hv
  unfold rowT
  by_cases hj : j = k
  · subst hj; rw [if_pos rfl, if_pos (by omega)]
  · rw [if_neg hj]
    by_cases hl : j < k
    · rw [if_pos hl, if_pos (by omega)]
    · rw [if_neg hl, if_neg (by omega)]
theorem rowT_same {w : World} {b n : Nat} {r : List (List UInt8)} {s : List UInt8} {k : Nat} (h : w.rowIs b 4 n (rowT r s k)) (hv : mt r (s.take k) = false) : w.rowIs b 4 n (rowT r s (k + 1)) := by
  refine h.congr (fun j _ => ?_)
  unfold rowT
  by_cases hj : j = k
  · subst hj; rw [if_neg (by omega), if_pos (by omega), hv]
  · by_cases hl : j < k
    · rw [if_pos hl, if_pos (by omega)]
    · rw [if_neg hl, if_neg (by omega)]
theorem row_below {w w' : World} {b n : Nat} {T : TypeId} {f : Nat → Value} (h : w.rowIs b T n f) (hb : Below w.heap.size w w') : w'.rowIs b T n f := h.of_block (hb.block b h.lt)

attribute [local go_sem ↓] Go.wp_at_zero Go.wp_at_succ
set_option maxHeartbeats 4000000 in
set_option maxRecDepth 100000 in
theorem patternR_c (p s : List UInt8) (hp : p.length ≤ 1000000) (hs : s.length ≤ 1000000) (w : World) :
    Calls Tryz.prog 21 #[.string ⟨p.toArray⟩, .string ⟨s.toArray⟩] w fun e w' => e = .returned (.bool (pat p s)) ∧ Below w.heap.size w w' := by
  have hmk : ∀ W : World, (Instr.makeSlice 54 (.int .i64 ((s.length : Int) + 1)) (.int .i64 ((s.length : Int) + 1))).run Tryz.prog W = .ok (.slice (some ⟨W.heap.size, 0, none⟩) (s.length + 1) (s.length + 1)) (W.alloc (.cells (madeCells #[.bool false] (s.length + 1)) 4)) := fun W => run_make_row' (P := Tryz.prog) 54 4 (.bool false) 1 Tryz.underlying54 infoBool rfl .i64 .i64 (s.length + 1) (by omega) (by omega) W
  go_enter Tryz.func21, Tryz.ntmps21
  go_wp2_with fail
  refine (partsR_c p hp _).mono ?_
  rintro e w1 ⟨v, rfl, hown, hb1⟩
  obtain ⟨A, cap, rfl, hP⟩ := prow_of hown
  have hpl := parts_len p
  clear hown
  have hr1 := World.rowIs_made w1 (.bool false) (s.length + 1) 4
  have cz := hr1.cell (i := 0) (by omega)
  have fz := hr1.frozen 0
  go_wp2_with fail
  clear cz fz
  have h0 : (w1.alloc (.cells ((madeCells #[.bool false] (s.length + 1)).setIfInBounds 0 (.bool true)) 4)).rowIs w1.heap.size 4 (s.length + 1) (rowT ((parts p).take 0) s (s.length + 1)) := by
    have h := hr1.set 0 (.bool true)
    rw [World.setCell_alloc_new] at h
    refine h.congr (fun j hj => ?_)
    rw [rowT_all _ _ _ hj, List.take_zero, table_start s j (by omega)]
    by_cases h0 : j = 0
    · rw [if_pos h0, decide_eq_true h0]
    · rw [if_neg h0, decide_eq_false h0]
  have hbA : Below w1.heap.size w1 (w1.alloc (.cells ((madeCells #[.bool false] (s.length + 1)).setIfInBounds 0 (.bool true)) 4)) := (Below.refl _ _).alloc (Nat.le_refl _) _
  clear hr1
  go_loopg [6, 7] (parts p).length (fun g s6 s7 wr => ∃ (i b : Nat), i ≤ (parts p).length ∧ g = (parts p).length - i ∧ s7 = .int .i64 i ∧ s6 = .slice (some ⟨b, 0, none⟩) (s.length + 1) (s.length + 1) ∧ wr.rowIs b 4 (s.length + 1) (rowT ((parts p).take i) s (s.length + 1)) ∧ Below w1.heap.size w1 wr)
  case atStart => exact ⟨0, w1.heap.size, Nat.zero_le _, rfl, rfl, rfl, h0, hbA⟩
  case round =>
    obtain ⟨i, b, hi, rfl, rfl, rfl, hrow, hb⟩ := hrel
    obtain ⟨wo, hwo⟩ : ∃ wo, wo = wr := ⟨_, rfl⟩
    subst hwo
    clear h0 hbA
    have hPi := hP.on hb
    by_cases hlt : i < (parts p).length
    · obtain ⟨x, hx⟩ : ∃ x, (parts p)[i]? = some x := ⟨(parts p)[i], List.getElem?_eq_getElem hlt⟩
      have HT := Lib.hid (show (parts p).take (i + 1) = (parts p).take i ++ [x] by rw [List.take_add_one, hx]; rfl)
      have hxs := parts_sub p x (List.mem_of_getElem? hx)
      have HXN := Lib.hid (parts_ne p x (List.mem_of_getElem? hx))
      obtain ⟨gp, rfl, hc⟩ := hPi.cell i x hx
      have HC := Lib.hid hc
      have hrm := World.rowIs_made wo (.bool false) (s.length + 1) 4
      have hra := hrow.alloc (.cells (madeCells #[.bool false] (s.length + 1)) 4)
      have hbw : wo.heap.size ≠ b := by have := hrow.lt; omega
      have hw1 := hb.size
      have hbe : Below wo.heap.size wo (wo.alloc (.cells (madeCells #[.bool false] (s.length + 1)) 4)) := (Below.refl _ _).alloc (Nat.le_refl _) _
      obtain ⟨N, hN⟩ : ∃ N, N = wo.heap.size := ⟨_, rfl⟩
      clear hx hc
      go_wp2_with fail
      go_loopg [9] (s.length + 1) (fun g s9 wx => ∃ k : Nat, k ≤ s.length + 1 ∧ g = s.length + 1 - k ∧ s9 = .int .i64 k ∧ wx.rowIs wo.heap.size 4 (s.length + 1) (rowT ((parts p).take (i + 1)) s k) ∧ wx.rowIs b 4 (s.length + 1) (rowT ((parts p).take i) s (s.length + 1)) ∧ Below wo.heap.size wo wx)
      case atStart => exact ⟨0, by omega, rfl, rfl, hrm.congr (fun j _ => by unfold rowT; rw [if_neg (by omega)]), hra, hbe⟩
      case round =>
        obtain ⟨k, hk, rfl, rfl, hnext, hcan, hbx⟩ := hrel
        clear hrm hra hbe
        have hzx := hbx.size
        by_cases hkn : k ≤ s.length
        · have q0 : wr.cell? ⟨gp, i * 5, none⟩ = some (.int .i64 (kindOf x)) := by
            have h : wo.cell? ⟨gp, i * 5, none⟩ = some (.int .i64 (kindOf x)) := HC.out 0 _ rfl
            rw [hbx.cell (lt_of_cell h)]; exact h
          have q1 : wr.cell? ⟨gp, i * 5 + 1, none⟩ = some (.int .u8 (byteP x).toNat) := by have h := HC.out 1 _ rfl; rw [hbx.cell (lt_of_cell h)]; exact h
          have q2 : wr.cell? ⟨gp, i * 5 + 2, none⟩ = some (.string ⟨(setOf x).toArray⟩) := by have h := HC.out 2 _ rfl; rw [hbx.cell (lt_of_cell h)]; exact h
          have q3 : wr.cell? ⟨gp, i * 5 + 3, none⟩ = some (.bool (notOf x)) := by have h := HC.out 3 _ rfl; rw [hbx.cell (lt_of_cell h)]; exact h
          have q4 : wr.cell? ⟨gp, i * 5 + 4, none⟩ = some (.string ⟨x.toArray⟩) := by have h := HC.out 4 _ rfl; rw [hbx.cell (lt_of_cell h)]; exact h
          have n0 : wr.cell? ⟨wo.heap.size, k, none⟩ = some (.bool false) := by rw [hnext.cell (by omega)]; unfold rowT; rw [if_neg (by omega)]
          have n1 := hnext.frozen k
          by_cases hst : kindOf x = 1
          · have bst : ((kindOf x : Int) == 1) = true := by rw [hst]; rfl
            have hx42 := (kind_star x).1 hst
            have HTS := Lib.hid (show mt ((parts p).take (i + 1)) (s.take k) = (mt ((parts p).take i) (s.take k) || (decide (0 < k) && mt ((parts p).take (i + 1)) (s.take (k - 1)))) by rw [HT.out, hx42]; exact table_star _ s k hkn)
            clear hst hx42 q1 q2 q3 q4
            have ck := hcan.cell (i := k) (by omega)
            rw [rowT_all _ _ _ (by omega)] at ck
            obtain ⟨a, ha⟩ : ∃ a, a = mt ((parts p).take i) (s.take k) := ⟨_, rfl⟩
            rw [← ha] at ck HTS
            clear ha
            cases a with
            | true =>
              have HV := Lib.hid (show true = mt ((parts p).take (i + 1)) (s.take k) by rw [HTS.out]; rfl)
              go_wp2_with fail
              go_roundg (s.length + 1 - (k + 1))
              case measure => omega
              case rel => exact ⟨k + 1, by omega, rfl, by go_num, rowT_set hnext true HV.out, hcan.setOther (Ne.symm hbw) _, hbx.setCell (Nat.le_refl _) _⟩
            | false =>
              cases k with
              | zero =>
                have HV := Lib.hid (show false = mt ((parts p).take (i + 1)) (s.take 0) by rw [HTS.out]; rfl)
                go_wp2_with fail
                go_roundg (s.length + 1 - (0 + 1))
                case measure => omega
                case rel => exact ⟨0 + 1, by omega, rfl, by go_num, rowT_set hnext false HV.out, hcan.setOther (Ne.symm hbw) _, hbx.setCell (Nat.le_refl _) _⟩
              | succ j =>
                have cj := hnext.cell (i := j) (by omega)
                have HJ := Lib.hid (show rowT ((parts p).take (i + 1)) s (j + 1) j = .bool (mt ((parts p).take (i + 1)) (s.take j)) by unfold rowT; rw [if_pos (by omega)])
                rw [HJ.out] at cj
                obtain ⟨v, hv⟩ : ∃ v, v = mt ((parts p).take (i + 1)) (s.take j) := ⟨_, rfl⟩
                have HV := Lib.hid (show v = mt ((parts p).take (i + 1)) (s.take (j + 1)) by rw [HTS.out, hv]; simp)
                rw [← hv] at cj
                clear hv
                go_wp2_with fail
                go_roundg (s.length + 1 - (j + 1 + 1))
                case measure => omega
                case rel => exact ⟨j + 1 + 1, by omega, rfl, by go_num, rowT_set hnext v HV.out, hcan.setOther (Ne.symm hbw) _, hbx.setCell (Nat.le_refl _) _⟩
          · have bst : ((kindOf x : Int) == 1) = false := beq_no (by omega)
            have HX42 := Lib.hid (show x ≠ [42] from fun h => hst ((kind_star x).2 h))
            clear hst
            by_cases hk0 : k = 0
            · subst hk0
              have HV := Lib.hid (show mt ((parts p).take (i + 1)) (s.take 0) = false by rw [HT.out]; exact table_zero _ x HX42.out s)
              clear q1 q2 q3 q4 n0 n1
              go_wp2_with fail
              go_roundg (s.length + 1 - (0 + 1))
              case measure => omega
              case rel => exact ⟨0 + 1, by omega, rfl, by go_num, rowT_same hnext HV.out, hcan, hbx⟩
            · obtain ⟨j, hj⟩ : ∃ j, k = j + 1 := ⟨k - 1, by omega⟩
              have HK := Lib.hid hj
              have kpos : (0 : Int) < (k : Int) := by omega
              obtain ⟨c, hc⟩ : ∃ c, s[j]? = some c := ⟨s[j], List.getElem?_eq_getElem (by omega)⟩
              have hjl : j < (⟨s.toArray⟩ : ByteArray).size := by rw [ba_size]; omega
              have ej := at_k s j c hc hjl
              have HTB := Lib.hid (show mt ((parts p).take (i + 1)) (s.take k) = (mt ((parts p).take i) (s.take j) && Txt.fits x c) by rw [HT.out, HK.out]; exact table_byte _ x HX42.out s j c hc)
              have cj := hcan.cell (i := j) (by omega)
              rw [rowT_all _ _ _ (by omega)] at cj
              obtain ⟨a, ha⟩ : ∃ a, a = mt ((parts p).take i) (s.take j) := ⟨_, rfl⟩
              rw [← ha] at cj HTB
              clear ha hc
              have hwj : IntKind.i64.wrap ((k : Int) - 1) = (j : Int) := by rw [show (k : Int) - 1 = (j : Int) by omega]; exact IntWalk.i64_in _ (by omega)
              have y0 : (0 : Int) ≤ (j : Int) := by omega
              have y1 : (j : Int) < (s.length : Int) := by omega
              have y2 : (j : Int) < (s.length : Int) + 1 := by omega
              have y3 : (k : Int) < (s.length : Int) + 1 := by omega
              have y4 : (0 : Int) ≤ (k : Int) := by omega
              have z0 : (0 : Int) ≤ (i : Int) := by omega
              have z1 : (i : Int) < ((parts p).length : Int) := by omega
              clear hj hk0
              cases a with
              | false =>
                have HV := Lib.hid (show false = mt ((parts p).take (i + 1)) (s.take k) by rw [HTB.out]; rfl)
                go_wp2_with fail
                go_region
                all_goals
                  go_wp2_with fail
                  go_roundg (s.length + 1 - (k + 1))
                  case measure => omega
                  case rel => exact ⟨k + 1, by omega, rfl, by go_num, (rowT_set hnext false HV.out).drew, (hcan.setOther (Ne.symm hbw) _).drew, (hbx.setCell (Nat.le_refl _) _).drew⟩
              | true =>
                have HV := Lib.hid (show Txt.fits x c = mt ((parts p).take (i + 1)) (s.take k) by rw [HTB.out]; simp)
                have hob : wo.heap.size < wr.heap.size := hnext.lt
                have hgw : gp ≠ wo.heap.size := by have := lt_of_cell (HC.out 1 _ rfl); simp at this; omega
                have hgw2 : wo.heap.size ≠ gp := Ne.symm hgw
                have hbw2 : b ≠ wo.heap.size := Ne.symm hbw
                go_wp2_with fail
                go_region_held3 (fun w' => w'.cell? ⟨b, j, none⟩ = some (.bool true) ∧ w'.cell? ⟨gp, i * 5, none⟩ = some (.int .i64 (kindOf x)) ∧ w'.cell? ⟨gp, i * 5 + 1, none⟩ = some (.int .u8 (byteP x).toNat) ∧ w'.cell? ⟨gp, i * 5 + 2, none⟩ = some (.string ⟨(setOf x).toArray⟩) ∧ w'.cell? ⟨gp, i * 5 + 3, none⟩ = some (.bool (notOf x)) ∧ w'.cell? ⟨gp, i * 5 + 4, none⟩ = some (.string ⟨x.toArray⟩))
                  (first
                    | go_keep
                    | (refine ⟨?_, ?_, ?_, ?_, ?_, ?_⟩ <;> go_keep)
                    | (go_split_ands
                       refine ⟨?_, ?_, ?_, ?_, ?_, ?_⟩
                       all_goals (rw [hb2.cell (lt_of_cell (by assumption))]; assumption)))
                  ((go_at_call 42
                    refine (fitsR_c x c HXN.out HX42.out (by omega) _).mono ?_
                    rintro e w2 ⟨rfl, hb2⟩
                    have m0 : w2.cell? ⟨wo.heap.size, k, none⟩ = some (.bool false) := by rw [hb2.cell hob]; exact n0
                    have m1 : w2.frozen? ⟨wo.heap.size, k, none⟩ = false := by rw [hb2.frozen hob]; exact n1))
                have hnext2 := row_below hnext.drew hb2
                have hcan2 := row_below hcan.drew hb2
                have hbx2 : Below wo.heap.size wo w2 := hbx.drew.trans (hb2.mono hzx)
                go_wp2_with fail
                go_roundg (s.length + 1 - (k + 1))
                case measure => omega
                case rel => exact ⟨k + 1, by omega, rfl, by go_num, rowT_set hnext2 _ HV.out, hcan2.setOther (Ne.symm hbw) _, hbx2.setCell (Nat.le_refl _) _⟩
        · obtain rfl : k = s.length + 1 := by omega
          go_wp2_with fail
          go_roundg ((parts p).length - (i + 1))
          case measure => omega
          case rel => exact ⟨i + 1, wo.heap.size, by omega, rfl, by go_num, rfl, hnext, hb.trans (hbx.mono hw1)⟩
    · obtain rfl : i = (parts p).length := by omega
      have ce := hrow.cell (i := s.length) (by omega)
      rw [rowT_all _ _ _ (by omega), List.take_length, List.take_length] at ce
      go_wp2_with fail
      go_ret
      exact ⟨rfl, chain hb1 hb⟩
end Go.Proofs.YtanjmljlpdhlnaaGreatDoor
