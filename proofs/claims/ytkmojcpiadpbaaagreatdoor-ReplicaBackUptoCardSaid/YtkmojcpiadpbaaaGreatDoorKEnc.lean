/-
  The program's bytes of entries and messages.
-/
import Derived.Test.YtkmojcpiadpbaaaGreatDoorEnc
import Derived.Test.YtkmojcpiadpbaaaGreatDoorKPlain
import Derived.Test.YtkmojcpiadpbaaaGreatDoorRMem
import Derived.Lib.QuietBelow
namespace Go.Proofs.YtkmojcpiadpbaaaGreatDoor
set_option maxRecDepth 100000
open Go Go.RowKit Go.Sort Wire Rp

/-- Entries and messages that are not too long. -/
def LowR (x : Rec) : Prop := InR x.t ∧ x.d.length ≤ 1048576
def LowM (m : Msg) : Prop := (∀ x ∈ eHead m, InR x) ∧ m.rs.length ≤ 1000 ∧ ∀ x ∈ m.rs, LowR x
theorem LowR.okR {x : Rec} (h : LowR x) : OkR x := ⟨h.1, by have := h.2; unfold InR; omega⟩
theorem LowM.okM {m : Msg} (h : LowM m) : OkM m := ⟨h.1, by have := h.2.1; unfold InR; omega, fun x hx => (h.2.2 x hx).okR⟩
theorem eRec_len {x : Rec} (h : LowR x) : (eRec x).length ≤ 1048626 := by
  have h1 := itoa_len x.t h.1
  have h2 := itoa_len x.d.length (by have := h.2; unfold InR; omega)
  have h3 := h.2
  unfold eRec eInt eText
  simp only [List.length_append, List.length_singleton]
  omega
theorem flat_low : ∀ (l : List Rec), (∀ x ∈ l, LowR x) → (l.flatMap eRec).length ≤ l.length * 1048626
  | [], _ => Nat.le_refl _
  | x :: l, h => by
    have h1 := eRec_len (h x (List.mem_cons_self ..))
    have h2 := flat_low l (fun y hy => h y (List.mem_cons_of_mem _ hy))
    rw [List.flatMap_cons, List.length_append, List.length_cons]
    omega
theorem ints_low : ∀ (l : List Int), (∀ x ∈ l, InR x) → (l.flatMap eInt).length ≤ l.length * 21
  | [], _ => Nat.le_refl _
  | x :: l, h => by
    have h1 := itoa_len x (h x (List.mem_cons_self ..))
    have h2 := ints_low l (fun y hy => h y (List.mem_cons_of_mem _ hy))
    rw [List.flatMap_cons, List.length_append, List.length_cons]
    have e : (eInt x).length = (Lib.itoa x).length + 1 := by unfold eInt; rw [List.length_append, List.length_singleton]
    omega
def recVal (x : Rec) : Value := .agg #[.int .i64 x.t, .string ⟨x.d.toArray⟩]
set_option maxHeartbeats 1000000 in
theorem recBytes_c (x : Rec) (hx : LowR x) (w : World) (hg : Good w) : Calls Tryz.prog 6 #[.agg #[.int .i64 x.t, .string ⟨x.d.toArray⟩]] w fun e w' => e = .returned (.string ⟨(eRec x).toArray⟩) ∧ Below w.heap.size w w' := by
  obtain ⟨W1, hW1⟩ : ∃ W1, W1 = w.alloc (.cells #[.int .i64 x.t, .string ⟨x.d.toArray⟩] 27) := ⟨_, rfl⟩
  have hb1 : Below w.heap.size w W1 := by rw [hW1]; exact below_new w _
  have hx1 : W1.heap[w.heap.size]? = some (.cells #[.int .i64 x.t, .string ⟨x.d.toArray⟩] 27 (0, 0)) := by rw [hW1]; exact box_new w _
  have f0 := cell_regrown (show W1.cell? ⟨w.heap.size, 0, none⟩ = some (.int .i64 x.t) by rw [Lib.cell_of_heap hx1]; rfl)
  have f1 := cell_regrown (show W1.cell? ⟨w.heap.size, 1, none⟩ = some (.string ⟨x.d.toArray⟩) by rw [Lib.cell_of_heap hx1]; rfl)
  have hg1 := hg.on hb1
  have Q1 := Lib.hid (fun d os => Calls.regrown_of (w := W1) (d := d) (os := os) (wInt_c x.t hx.1 _ (hg1.on (below_regrown W1 d os))))
  have Q2 := Lib.hid (fun d os => Calls.regrown_of (w := W1) (d := d) (os := os) (wText_c x.d (by have := hx.2; omega) _ (hg1.on (below_regrown W1 d os))))
  have hcat : ¬ 9223372036854775807 < (eInt x.t).length + (eText x.d).length := by have := eRec_len hx; unfold eRec at this; rw [List.length_append] at this; omega
  have HB1 := Lib.hid hb1
  clear hb1 hx1 hg hg1 hx
  go_enter Tryz.func6, Tryz.ntmps6
  go_upto_region 1 with fail
  rw [← hW1]
  clear hW1
  refine wp_region_quiet_below (by kernel_rfl) (by kernel_rfl) ?_
  repeat (go_big_quiet_step (first | (with_reducible exact Q1.out _ _) | (with_reducible exact Q2.out _ _)))
  refine wpQuiet_nil ?_
  intro _ hw
  obtain ⟨⟨dq, osq⟩, hw⟩ := hw
  subst hw
  go_wp2_with fail
  go_ret
  exact ⟨ret_str (str_add _ _), HB1.out.trans ((below_regrown W1 dq osq).mono HB1.out.size)⟩
/-- A message of the program, in a block of its own. -/
theorem head_get (m : Msg) {k : Nat} (h : k < 8) : ∃ n, (eHead m)[k]? = some n ∧ ∀ wx : World, (Instr.index 60 (.agg #[.int .i64 m.k, .int .i64 m.fr, .int .i64 m.dst, .int .i64 m.tm, .int .i64 m.ix, .int .i64 m.pv, .int .i64 m.cm, .int .i64 (yesN m)]) (.int .i64 (k : Int))).run Tryz.prog wx = .ok (.int .i64 n) wx := by
  rcases k with _ | _ | _ | _ | _ | _ | _ | _ | k
  · exact ⟨m.k, rfl, fun wx => by kernel_rfl⟩
  · exact ⟨m.fr, rfl, fun wx => by kernel_rfl⟩
  · exact ⟨m.dst, rfl, fun wx => by kernel_rfl⟩
  · exact ⟨m.tm, rfl, fun wx => by kernel_rfl⟩
  · exact ⟨m.ix, rfl, fun wx => by kernel_rfl⟩
  · exact ⟨m.pv, rfl, fun wx => by kernel_rfl⟩
  · exact ⟨m.cm, rfl, fun wx => by kernel_rfl⟩
  · exact ⟨yesN m, rfl, fun wx => by kernel_rfl⟩
  · omega
theorem take_next {α β : Type} (enc : α → List β) {l : List α} {k : Nat} {x : α} (h : l[k]? = some x) : (l.take (k + 1)).flatMap enc = (l.take k).flatMap enc ++ enc x := by
  rw [List.take_add_one, h, List.flatMap_append]
  simp
theorem take_short {α : Type} (enc : α → List UInt8) (l : List α) (k : Nat) : ((l.take k).flatMap enc).length ≤ (l.flatMap enc).length := by
  have e : l.flatMap enc = (l.take k).flatMap enc ++ (l.drop k).flatMap enc := by rw [← List.flatMap_append, List.take_append_drop]
  rw [e, List.length_append]
  omega
set_option maxHeartbeats 4000000 in
theorem bytes_c {G : Nat → Prop} (p : PM) (hm : LowM p.m) (w : World) (hg : Good w) (hp : p.ok G w) : Calls Tryz.prog 8 #[p.val] w fun e w' => e = .returned (.string ⟨(eMsg p.m).toArray⟩) ∧ Below w.heap.size w w' := by
  obtain ⟨m, ma, mc⟩ := p
  have hm : LowM m := hm
  obtain ⟨W1, hW1⟩ : ∃ W1, W1 = w.alloc (.cells #[.int .i64 m.k, .int .i64 m.fr, .int .i64 m.dst, .int .i64 m.tm, .int .i64 m.ix, .int .i64 m.pv, .int .i64 m.cm, .bool m.yes, .slice ma m.rs.length mc] 24) := ⟨_, rfl⟩
  have hb1 : Below w.heap.size w W1 := by rw [hW1]; exact below_new w _
  have hx1 : PM.at ⟨m, ma, mc⟩ W1 w.heap.size := by rw [hW1]; exact box_new w _
  have HWL := Lib.hid (show w.heap.size < W1.heap.size by rw [hW1]; simp)
  have HB1 := Lib.hid hb1
  have HP := Lib.hid (show Src G w ma mc m.rs.length (recsV m.rs) from hp)
  have HG1 := Lib.hid (hg.on hb1)
  have HM := Lib.hid hm
  have hm1 := hx1.c
  have f0 := hm1.c0
  have f1 := hm1.c1
  have f2 := hm1.c2
  have f3 := hm1.c3
  have f4 := hm1.c4
  have f5 := hm1.c5
  have f6 := hm1.c6
  have f7 := hm1.c7
  have f8 := hm1.c8
  obtain ⟨yes, hyes⟩ : ∃ y, m.yes = y := ⟨_, rfl⟩
  obtain ⟨L, hL⟩ : ∃ L, m.rs.length = L := ⟨_, rfl⟩
  have hL3 : L ≤ 1000 := by rw [← hL]; exact hm.2.1
  dsimp only at f0 f1 f2 f3 f4 f5 f6 f7 f8
  rw [hyes] at f7
  rw [hL] at f8
  have HLL := Lib.hid hL
  have hlen : (eMsg m).length ≤ 10000000000 := by
    have h1 := ints_low _ hm.1
    have h2 := flat_low _ hm.2.2
    have h3 := itoa_len (m.rs.length : Int) (by unfold InR; omega)
    have h4 : (eNum (m.rs.length : Int)).length ≤ 21 := by
      unfold eNum eInt
      rw [if_neg (by omega), List.length_append, List.length_singleton]
      omega
    have h5 : (eHead m).length = 8 := rfl
    rw [eMsg_three, List.length_append, List.length_append]
    rw [h5] at h1
    have h6 : m.rs.length * 1048626 ≤ 1000 * 1048626 := Nat.mul_le_mul_right _ hm.2.1
    omega
  have HLEN := Lib.hid hlen
  show Calls _ _ #[.agg #[.int .i64 m.k, .int .i64 m.fr, .int .i64 m.dst, .int .i64 m.tm, .int .i64 m.ix, .int .i64 m.pv, .int .i64 m.cm, .bool m.yes, .slice ma m.rs.length mc]] _ _
  rw [hyes, hL] at hW1 ⊢
  have HY := Lib.hid hyes
  clear hb1 hx1 hg hp hm hm1 hyes hL hlen
  go_enter Tryz.func8, Tryz.ntmps8
  go_upto_region 2 with fail
  rw [← hW1]
  clear hW1
  cases yes with
  | true =>
    have hyn : yesN m = 1 := by unfold yesN; rw [HY.out]; rfl
    have HYN := Lib.hid hyn
    have hlen2 := HLEN.out
    rw [eMsg_three, List.length_append, List.length_append] at hlen2
    have HL2 := Lib.hid hlen2
    have hst := Lib.fresh_isBuilder 59 5 W1
    have hbA : Built W1.heap.size W1.heap.size [] W1 (W1.alloc (.cells #[.pointer none, .slice none 0 0] 59)) := ⟨hst, (Below.refl _ _).alloc (Nat.le_refl _) _⟩
    have HBA := Lib.hid hbA
    have hfA : ∀ {o v}, W1.cell? ⟨w.heap.size, o, none⟩ = some v → (W1.alloc (.cells #[.pointer none, .slice none 0 0] 59)).cell? ⟨w.heap.size, o, none⟩ = some v := fun hc => (Kept.alloc (fun _ => False) _ _).cell hc (fun e => e)
    have g0 := hfA f0
    have g1 := hfA f1
    have g2 := hfA f2
    have g3 := hfA f3
    have g4 := hfA f4
    have g5 := hfA f5
    have g6 := hfA f6
    clear hyn hlen2 hst hbA hfA
    go_wp2_with fail
    go_loopw [27] (fun v27 wr => ∃ k : Nat, k ≤ 8 ∧ v27 = .int .i64 (k : Int) ∧ Hid (Built W1.heap.size W1.heap.size (((eHead m).take k).flatMap eInt) W1 wr ∧ W1.heap.size ≤ wr.heap.size)) (fun v27 _ => 8 - (intOf v27).toNat)
    case atStart => exact ⟨0, Nat.zero_le _, rfl, Lib.hid ⟨HBA.out, by simp⟩⟩
    case round =>
      clear g0 g1 g2 g3 g4 g5 g6 f0 f1 f2 f3 f4 f5 f6 f7
      obtain ⟨k, hk, rfl, HK⟩ := hrel
      obtain ⟨wa, hwa⟩ : ∃ wa, wa = wr := ⟨_, rfl⟩
      subst hwa
      by_cases hk8 : k < 8
      · have hk8' : (k : Int) < 8 := by omega
        obtain ⟨n, hn, hix⟩ := head_get m hk8
        rw [HYN.out] at hix
        have hin := HM.out.1 n (List.mem_of_getElem? hn)
        have hB := HK.out.1
        have hz := HK.out.2
        have QI := Lib.hid (wInt_c n hin wa (HG1.out.on hB.2))
        have hle := take_short eInt (eHead m) (k + 1)
        have htn := take_next eInt hn
        rw [htn, List.length_append] at hle
        have QW := Lib.hid (fun (wx : World) (hb : Below wa.heap.size wa wx) => (writeString_c W1.heap.size W1.heap.size (((eHead m).take k).flatMap eInt) (eInt n) W1 wx (hB.on hb hz) (by have := HL2.out; omega) (Nat.le_trans hz hb.size)).mono (R' := fun e w' => (∃ j, e = .returned (.tuple #[.int .i64 j, .nilIface])) ∧ Hid (Built W1.heap.size W1.heap.size (((eHead m).take (k + 1)).flatMap eInt) W1 w' ∧ W1.heap.size ≤ w'.heap.size)) (fun e w' hh => ⟨hh.1, Lib.hid ⟨by rw [htn]; exact hh.2.1, hh.2.2⟩⟩))
        clear hn hin hB hz hle htn
        go_wp2_with (first | ((with_reducible refine QI.out.mono ?_); rintro e w5 ⟨rfl, HB5⟩; have HB5 := Lib.hid HB5) | ((with_reducible refine (QW.out _ HB5.out).mono ?_); rintro e w6 ⟨⟨j, rfl⟩, HB6⟩))
        go_roundw
        case rel => exact ⟨k + 1, hk8, by go_num, HB6⟩
        case measure => simp [intOf]; omega
      · obtain rfl : k = 8 := by omega
        have hall : ((eHead m).take 8).flatMap eInt = (eHead m).flatMap eInt := by rw [List.take_of_length_le (by rw [head_len]; exact Nat.le_refl _)]
        have hB := HK.out.1
        rw [hall] at hB
        have hz := HK.out.2
        have h8 : wa.cell? ⟨w.heap.size, 8, none⟩ = some (.slice ma L mc) := by rw [hB.2.cell HWL.out]; exact f8
        have QN := Lib.hid (show Calls Tryz.prog 29 #[.int .i64 (L : Int)] wa fun e w' => e = .returned (.string ⟨(eNum (m.rs.length : Int)).toArray⟩) ∧ Below wa.heap.size wa w' from by rw [← HLL.out]; exact wNum_c _ HM.out.okM.2.1 wa (HG1.out.on hB.2))
        have QW := Lib.hid (fun (wx : World) (hb : Below wa.heap.size wa wx) => (writeString_c W1.heap.size W1.heap.size ((eHead m).flatMap eInt) (eNum (m.rs.length : Int)) W1 wx (hB.on hb hz) (by have := HL2.out; omega) (Nat.le_trans hz hb.size)).mono (R' := fun e w' => (∃ j, e = .returned (.tuple #[.int .i64 j, .nilIface])) ∧ w'.cell? ⟨w.heap.size, 8, none⟩ = some (.slice ma L mc) ∧ Hid (Built W1.heap.size W1.heap.size ((eHead m).flatMap eInt ++ eNum (m.rs.length : Int)) W1 w' ∧ W1.heap.size ≤ w'.heap.size)) (fun e w' hh => ⟨hh.1, by rw [hh.2.1.2.cell HWL.out]; exact f8, Lib.hid hh.2⟩))
        clear hall hB hz f8
        go_wp2_with (first | ((with_reducible refine QN.out.mono ?_); rintro e w5 ⟨rfl, HB5⟩; have HB5 := Lib.hid HB5) | ((with_reducible refine (QW.out _ HB5.out).mono ?_); rintro e w6 ⟨⟨j, rfl⟩, h9, HB6⟩))
        clear h8 h9
        go_loopw [42] (fun v42 wr => ∃ k : Nat, k ≤ L ∧ v42 = .int .i64 (k : Int) ∧ Hid (Built W1.heap.size W1.heap.size ((eHead m).flatMap eInt ++ eNum (m.rs.length : Int) ++ (m.rs.take k).flatMap eRec) W1 wr ∧ W1.heap.size ≤ wr.heap.size)) (fun v42 _ => L - (intOf v42).toNat)
        case atStart => exact ⟨0, Nat.zero_le _, rfl, Lib.hid ⟨by rw [List.take_zero, List.flatMap_nil, List.append_nil]; exact HB6.out.1, HB6.out.2⟩⟩
        case round =>
          obtain ⟨k, hk, rfl, HK2⟩ := hrel
          obtain ⟨wb, hwb⟩ : ∃ wb, wb = wr := ⟨_, rfl⟩
          subst hwb
          by_cases hkL : k < L
          · have hkL' : (k : Int) < (L : Int) := by omega
            obtain ⟨x, hx⟩ : ∃ x, m.rs[k]? = some x := ⟨m.rs[k]'(by have := HLL.out; omega), List.getElem?_eq_getElem _⟩
            obtain ⟨bx, ox, rfl, c0, c1⟩ := rec_cells (((HP.out.on HB1.out).kept (Kept.below (S := fun _ => False) HK2.out.1.2) (fun _ _ _ e => e))) rfl hx
            have hlow := HM.out.2.2 x (List.mem_of_getElem? hx)
            have hB := HK2.out.1
            have hz := HK2.out.2
            have hle := take_short eRec m.rs (k + 1)
            have htn := take_next eRec hx
            rw [htn, List.length_append] at hle
            have hbx : Below wb.heap.size wb (wb.alloc (.cells #[.int .i64 x.t, .string ⟨x.d.toArray⟩] 27)) := below_new _ _
            have QR := Lib.hid (recBytes_c x hlow _ ((HG1.out.on hB.2).on hbx))
            have QW2 := Lib.hid (fun (wx : World) (hb : Below (wb.alloc (.cells #[.int .i64 x.t, .string ⟨x.d.toArray⟩] 27)).heap.size (wb.alloc (.cells #[.int .i64 x.t, .string ⟨x.d.toArray⟩] 27)) wx) => (writeString_c W1.heap.size W1.heap.size ((eHead m).flatMap eInt ++ eNum (m.rs.length : Int) ++ (m.rs.take k).flatMap eRec) (eRec x) W1 wx (hB.on (hbx.trans (hb.mono hbx.size)) hz) (by have := HL2.out; rw [List.length_append, List.length_append]; omega) (Nat.le_trans hz (hbx.trans (hb.mono hbx.size)).size)).mono (R' := fun e w' => (∃ j, e = .returned (.tuple #[.int .i64 j, .nilIface])) ∧ Hid (Built W1.heap.size W1.heap.size ((eHead m).flatMap eInt ++ eNum (m.rs.length : Int) ++ (m.rs.take (k + 1)).flatMap eRec) W1 w' ∧ W1.heap.size ≤ w'.heap.size)) (fun e w' hh => ⟨hh.1, Lib.hid ⟨by rw [htn, ← List.append_assoc]; exact hh.2.1, hh.2.2⟩⟩))
            clear hx hlow hB hz hle htn hbx
            go_wp2_with (first | ((with_reducible refine QR.out.mono ?_); rintro e w7 ⟨rfl, HB7⟩; have HB7 := Lib.hid HB7) | ((with_reducible refine (QW2.out _ HB7.out).mono ?_); rintro e w8 ⟨⟨j2, rfl⟩, HB8⟩))
            go_roundw
            case rel => exact ⟨k + 1, hkL, by go_num, HB8⟩
            case measure => simp [intOf]; omega
          · obtain rfl : k = L := by omega
            have hkL' : ¬ (k : Int) < (k : Int) := by omega
            have hall : (m.rs.take k).flatMap eRec = m.rs.flatMap eRec := by rw [List.take_of_length_le (by have := HLL.out; omega)]
            have hB := HK2.out.1
            rw [hall] at hB
            have QS := Lib.hid ((builderString_c W1.heap.size W1.heap.size _ W1 wb hB HK2.out.2).mono (R' := fun e w' => e = .returned (.string ⟨(eMsg m).toArray⟩) ∧ Hid (Below w.heap.size w w')) (fun e w' hh => ⟨hh.1, Lib.hid (HB1.out.trans (hh.2.mono HB1.out.size))⟩))
            clear hall hB
            go_wp2_with ((with_reducible refine QS.out.mono ?_); rintro e w9 ⟨rfl, HB9⟩)
            go_ret
            exact ⟨rfl, HB9.out⟩
  | false =>
    have hyn : yesN m = 0 := by unfold yesN; rw [HY.out]; rfl
    have HYN := Lib.hid hyn
    have hlen2 := HLEN.out
    rw [eMsg_three, List.length_append, List.length_append] at hlen2
    have HL2 := Lib.hid hlen2
    have hst := Lib.fresh_isBuilder 59 5 W1
    have hbA : Built W1.heap.size W1.heap.size [] W1 (W1.alloc (.cells #[.pointer none, .slice none 0 0] 59)) := ⟨hst, (Below.refl _ _).alloc (Nat.le_refl _) _⟩
    have HBA := Lib.hid hbA
    have hfA : ∀ {o v}, W1.cell? ⟨w.heap.size, o, none⟩ = some v → (W1.alloc (.cells #[.pointer none, .slice none 0 0] 59)).cell? ⟨w.heap.size, o, none⟩ = some v := fun hc => (Kept.alloc (fun _ => False) _ _).cell hc (fun e => e)
    have g0 := hfA f0
    have g1 := hfA f1
    have g2 := hfA f2
    have g3 := hfA f3
    have g4 := hfA f4
    have g5 := hfA f5
    have g6 := hfA f6
    clear hyn hlen2 hst hbA hfA
    go_wp2_with fail
    go_loopw [27] (fun v27 wr => ∃ k : Nat, k ≤ 8 ∧ v27 = .int .i64 (k : Int) ∧ Hid (Built W1.heap.size W1.heap.size (((eHead m).take k).flatMap eInt) W1 wr ∧ W1.heap.size ≤ wr.heap.size)) (fun v27 _ => 8 - (intOf v27).toNat)
    case atStart => exact ⟨0, Nat.zero_le _, rfl, Lib.hid ⟨HBA.out, by simp⟩⟩
    case round =>
      clear g0 g1 g2 g3 g4 g5 g6 f0 f1 f2 f3 f4 f5 f6 f7
      obtain ⟨k, hk, rfl, HK⟩ := hrel
      obtain ⟨wa, hwa⟩ : ∃ wa, wa = wr := ⟨_, rfl⟩
      subst hwa
      by_cases hk8 : k < 8
      · have hk8' : (k : Int) < 8 := by omega
        obtain ⟨n, hn, hix⟩ := head_get m hk8
        rw [HYN.out] at hix
        have hin := HM.out.1 n (List.mem_of_getElem? hn)
        have hB := HK.out.1
        have hz := HK.out.2
        have QI := Lib.hid (wInt_c n hin wa (HG1.out.on hB.2))
        have hle := take_short eInt (eHead m) (k + 1)
        have htn := take_next eInt hn
        rw [htn, List.length_append] at hle
        have QW := Lib.hid (fun (wx : World) (hb : Below wa.heap.size wa wx) => (writeString_c W1.heap.size W1.heap.size (((eHead m).take k).flatMap eInt) (eInt n) W1 wx (hB.on hb hz) (by have := HL2.out; omega) (Nat.le_trans hz hb.size)).mono (R' := fun e w' => (∃ j, e = .returned (.tuple #[.int .i64 j, .nilIface])) ∧ Hid (Built W1.heap.size W1.heap.size (((eHead m).take (k + 1)).flatMap eInt) W1 w' ∧ W1.heap.size ≤ w'.heap.size)) (fun e w' hh => ⟨hh.1, Lib.hid ⟨by rw [htn]; exact hh.2.1, hh.2.2⟩⟩))
        clear hn hin hB hz hle htn
        go_wp2_with (first | ((with_reducible refine QI.out.mono ?_); rintro e w5 ⟨rfl, HB5⟩; have HB5 := Lib.hid HB5) | ((with_reducible refine (QW.out _ HB5.out).mono ?_); rintro e w6 ⟨⟨j, rfl⟩, HB6⟩))
        go_roundw
        case rel => exact ⟨k + 1, hk8, by go_num, HB6⟩
        case measure => simp [intOf]; omega
      · obtain rfl : k = 8 := by omega
        have hall : ((eHead m).take 8).flatMap eInt = (eHead m).flatMap eInt := by rw [List.take_of_length_le (by rw [head_len]; exact Nat.le_refl _)]
        have hB := HK.out.1
        rw [hall] at hB
        have hz := HK.out.2
        have h8 : wa.cell? ⟨w.heap.size, 8, none⟩ = some (.slice ma L mc) := by rw [hB.2.cell HWL.out]; exact f8
        have QN := Lib.hid (show Calls Tryz.prog 29 #[.int .i64 (L : Int)] wa fun e w' => e = .returned (.string ⟨(eNum (m.rs.length : Int)).toArray⟩) ∧ Below wa.heap.size wa w' from by rw [← HLL.out]; exact wNum_c _ HM.out.okM.2.1 wa (HG1.out.on hB.2))
        have QW := Lib.hid (fun (wx : World) (hb : Below wa.heap.size wa wx) => (writeString_c W1.heap.size W1.heap.size ((eHead m).flatMap eInt) (eNum (m.rs.length : Int)) W1 wx (hB.on hb hz) (by have := HL2.out; omega) (Nat.le_trans hz hb.size)).mono (R' := fun e w' => (∃ j, e = .returned (.tuple #[.int .i64 j, .nilIface])) ∧ w'.cell? ⟨w.heap.size, 8, none⟩ = some (.slice ma L mc) ∧ Hid (Built W1.heap.size W1.heap.size ((eHead m).flatMap eInt ++ eNum (m.rs.length : Int)) W1 w' ∧ W1.heap.size ≤ w'.heap.size)) (fun e w' hh => ⟨hh.1, by rw [hh.2.1.2.cell HWL.out]; exact f8, Lib.hid hh.2⟩))
        clear hall hB hz f8
        go_wp2_with (first | ((with_reducible refine QN.out.mono ?_); rintro e w5 ⟨rfl, HB5⟩; have HB5 := Lib.hid HB5) | ((with_reducible refine (QW.out _ HB5.out).mono ?_); rintro e w6 ⟨⟨j, rfl⟩, h9, HB6⟩))
        clear h8 h9
        go_loopw [42] (fun v42 wr => ∃ k : Nat, k ≤ L ∧ v42 = .int .i64 (k : Int) ∧ Hid (Built W1.heap.size W1.heap.size ((eHead m).flatMap eInt ++ eNum (m.rs.length : Int) ++ (m.rs.take k).flatMap eRec) W1 wr ∧ W1.heap.size ≤ wr.heap.size)) (fun v42 _ => L - (intOf v42).toNat)
        case atStart => exact ⟨0, Nat.zero_le _, rfl, Lib.hid ⟨by rw [List.take_zero, List.flatMap_nil, List.append_nil]; exact HB6.out.1, HB6.out.2⟩⟩
        case round =>
          obtain ⟨k, hk, rfl, HK2⟩ := hrel
          obtain ⟨wb, hwb⟩ : ∃ wb, wb = wr := ⟨_, rfl⟩
          subst hwb
          by_cases hkL : k < L
          · have hkL' : (k : Int) < (L : Int) := by omega
            obtain ⟨x, hx⟩ : ∃ x, m.rs[k]? = some x := ⟨m.rs[k]'(by have := HLL.out; omega), List.getElem?_eq_getElem _⟩
            obtain ⟨bx, ox, rfl, c0, c1⟩ := rec_cells (((HP.out.on HB1.out).kept (Kept.below (S := fun _ => False) HK2.out.1.2) (fun _ _ _ e => e))) rfl hx
            have hlow := HM.out.2.2 x (List.mem_of_getElem? hx)
            have hB := HK2.out.1
            have hz := HK2.out.2
            have hle := take_short eRec m.rs (k + 1)
            have htn := take_next eRec hx
            rw [htn, List.length_append] at hle
            have hbx : Below wb.heap.size wb (wb.alloc (.cells #[.int .i64 x.t, .string ⟨x.d.toArray⟩] 27)) := below_new _ _
            have QR := Lib.hid (recBytes_c x hlow _ ((HG1.out.on hB.2).on hbx))
            have QW2 := Lib.hid (fun (wx : World) (hb : Below (wb.alloc (.cells #[.int .i64 x.t, .string ⟨x.d.toArray⟩] 27)).heap.size (wb.alloc (.cells #[.int .i64 x.t, .string ⟨x.d.toArray⟩] 27)) wx) => (writeString_c W1.heap.size W1.heap.size ((eHead m).flatMap eInt ++ eNum (m.rs.length : Int) ++ (m.rs.take k).flatMap eRec) (eRec x) W1 wx (hB.on (hbx.trans (hb.mono hbx.size)) hz) (by have := HL2.out; rw [List.length_append, List.length_append]; omega) (Nat.le_trans hz (hbx.trans (hb.mono hbx.size)).size)).mono (R' := fun e w' => (∃ j, e = .returned (.tuple #[.int .i64 j, .nilIface])) ∧ Hid (Built W1.heap.size W1.heap.size ((eHead m).flatMap eInt ++ eNum (m.rs.length : Int) ++ (m.rs.take (k + 1)).flatMap eRec) W1 w' ∧ W1.heap.size ≤ w'.heap.size)) (fun e w' hh => ⟨hh.1, Lib.hid ⟨by rw [htn, ← List.append_assoc]; exact hh.2.1, hh.2.2⟩⟩))
            clear hx hlow hB hz hle htn hbx
            go_wp2_with (first | ((with_reducible refine QR.out.mono ?_); rintro e w7 ⟨rfl, HB7⟩; have HB7 := Lib.hid HB7) | ((with_reducible refine (QW2.out _ HB7.out).mono ?_); rintro e w8 ⟨⟨j2, rfl⟩, HB8⟩))
            go_roundw
            case rel => exact ⟨k + 1, hkL, by go_num, HB8⟩
            case measure => simp [intOf]; omega
          · obtain rfl : k = L := by omega
            have hkL' : ¬ (k : Int) < (k : Int) := by omega
            have hall : (m.rs.take k).flatMap eRec = m.rs.flatMap eRec := by rw [List.take_of_length_le (by have := HLL.out; omega)]
            have hB := HK2.out.1
            rw [hall] at hB
            have QS := Lib.hid ((builderString_c W1.heap.size W1.heap.size _ W1 wb hB HK2.out.2).mono (R' := fun e w' => e = .returned (.string ⟨(eMsg m).toArray⟩) ∧ Hid (Below w.heap.size w w')) (fun e w' hh => ⟨hh.1, Lib.hid (HB1.out.trans (hh.2.mono HB1.out.size))⟩))
            clear hall hB
            go_wp2_with ((with_reducible refine QS.out.mono ?_); rintro e w9 ⟨rfl, HB9⟩)
            go_ret
            exact ⟨rfl, HB9.out⟩
end Go.Proofs.YtkmojcpiadpbaaaGreatDoor
