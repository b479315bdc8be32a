/-
  The reference's bytes of entries and messages.
-/
import Derived.Test.YtkmojcpiadpbaaaGreatDoorKEnc
import Derived.Test.YtkmojcpiadpbaaaGreatDoorRefEnc
namespace Go.Proofs.YtkmojcpiadpbaaaGreatDoor
set_option maxRecDepth 100000
open Go Go.RowKit Go.Sort Wire Rp

set_option maxHeartbeats 1000000 in
theorem recBytesQ_c (x : Rec) (hx : LowR x) (w : World) : Calls Tryz.prog 40 #[.agg #[.int .i64 x.t, .string ⟨x.d.toArray⟩]] w fun e w' => e = .returned (.string ⟨(eRec x).toArray⟩) ∧ Below w.heap.size w w' := by
  obtain ⟨W1, hW1⟩ : ∃ W1, W1 = w.alloc (.cells #[.int .i64 x.t, .string ⟨x.d.toArray⟩] 27) := ⟨_, rfl⟩
  have hb1 : Below w.heap.size w W1 := by rw [hW1]; exact below_new w _
  have hx1 : W1.heap[w.heap.size]? = some (.cells #[.int .i64 x.t, .string ⟨x.d.toArray⟩] 27 (0, 0)) := by rw [hW1]; exact box_new w _
  have f0 := cell_regrown (show W1.cell? ⟨w.heap.size, 0, none⟩ = some (.int .i64 x.t) by rw [Lib.cell_of_heap hx1]; rfl)
  have f1 := cell_regrown (show W1.cell? ⟨w.heap.size, 1, none⟩ = some (.string ⟨x.d.toArray⟩) by rw [Lib.cell_of_heap hx1]; rfl)
  have Q1 := Lib.hid (fun d os => Calls.regrown_of (w := W1) (d := d) (os := os) (cInt_c x.t hx.1 _))
  have Q2 := Lib.hid (fun d os => Calls.regrown_of (w := W1) (d := d) (os := os) (cText_c x.d (by have := hx.2; omega) _))
  have hcat : ¬ 9223372036854775807 < (eInt x.t).length + (eText x.d).length := by have := eRec_len hx; unfold eRec at this; rw [List.length_append] at this; omega
  have HB1 := Lib.hid hb1
  clear hb1 hx1 hx
  go_enter Tryz.func40, Tryz.ntmps40
  go_upto_region 1 with fail
  rw [← hW1]
  clear hW1
  refine wp_region_quiet_below (by kernel_rfl) (by kernel_rfl) ?_
  repeat (go_big_quiet_step (first | (with_reducible exact Q1.out _ _) | (with_reducible exact Q2.out _ _)))
  refine wpQuiet_nil ?_
  intro _ hw
  obtain ⟨⟨dq, osq⟩, hw⟩ := hw
  subst hw
  go_wp2_with fail
  go_ret
  exact ⟨ret_str (str_add _ _), HB1.out.trans ((below_regrown W1 dq osq).mono HB1.out.size)⟩
theorem msg_len {m : Msg} (hm : LowM m) : ((eHead m).flatMap eInt).length ≤ 1000 ∧ (eNum (m.rs.length : Int)).length ≤ 21 ∧ (m.rs.flatMap eRec).length ≤ 2000000000 := by
  have h1 := ints_low _ hm.1
  have h2 := flat_low _ hm.2.2
  have h3 := itoa_len (m.rs.length : Int) (by have := hm.2.1; unfold InR; omega)
  have h5 : (eHead m).length = 8 := rfl
  rw [h5] at h1
  have h6 : m.rs.length * 1048626 ≤ 1000 * 1048626 := Nat.mul_le_mul_right _ hm.2.1
  refine ⟨by omega, ?_, by omega⟩
  unfold eNum eInt
  rw [if_neg (by omega), List.length_append, List.length_singleton]
  omega
def headObj (m : Msg) : Obj := .cells #[.int .i64 m.k, .int .i64 m.fr, .int .i64 m.dst, .int .i64 m.tm, .int .i64 m.ix, .int .i64 m.pv, .int .i64 m.cm, .int .i64 (yesN m)] 3 (0, 0)
theorem head_cell {m : Msg} {w : World} {b : Nat} (h : w.heap[b]? = some (headObj m)) {k : Nat} (hk : k < 8) : ∃ n, (eHead m)[k]? = some n ∧ w.cell? ⟨b, k, none⟩ = some (.int .i64 n) := by
  have e := Lib.cell_of_heap (show w.heap[b]? = some (.cells _ _ _) from h)
  rcases k with _ | _ | _ | _ | _ | _ | _ | _ | k
  · exact ⟨m.k, rfl, by rw [e]; rfl⟩
  · exact ⟨m.fr, rfl, by rw [e]; rfl⟩
  · exact ⟨m.dst, rfl, by rw [e]; rfl⟩
  · exact ⟨m.tm, rfl, by rw [e]; rfl⟩
  · exact ⟨m.ix, rfl, by rw [e]; rfl⟩
  · exact ⟨m.pv, rfl, by rw [e]; rfl⟩
  · exact ⟨m.cm, rfl, by rw [e]; rfl⟩
  · exact ⟨yesN m, rfl, by rw [e]; rfl⟩
  · omega
set_option maxHeartbeats 4000000 in
theorem bytesQ_c {G : Nat → Prop} (p : PM) (hm : LowM p.m) (w : World) (hp : p.ok G w) : Calls Tryz.prog 11 #[p.val] w fun e w' => e = .returned (.string ⟨(eMsg p.m).toArray⟩) ∧ Below w.heap.size w w' := by
  obtain ⟨m, ma, mc⟩ := p
  have hm : LowM m := hm
  obtain ⟨W1, hW1⟩ : ∃ W1, W1 = w.alloc (.cells #[.int .i64 m.k, .int .i64 m.fr, .int .i64 m.dst, .int .i64 m.tm, .int .i64 m.ix, .int .i64 m.pv, .int .i64 m.cm, .bool m.yes, .slice ma m.rs.length mc] 24) := ⟨_, rfl⟩
  have hb1 : Below w.heap.size w W1 := by rw [hW1]; exact below_new w _
  have hx1 : PM.at ⟨m, ma, mc⟩ W1 w.heap.size := by rw [hW1]; exact box_new w _
  have HWL := Lib.hid (show w.heap.size < W1.heap.size by rw [hW1]; simp)
  have HP := Lib.hid ((show Src G w ma mc m.rs.length (recsV m.rs) from hp).on hb1)
  have HB1 := Lib.hid hb1
  have HM := Lib.hid hm
  have HML := Lib.hid (msg_len hm)
  have hm1 := hx1.c
  have f0 := hm1.c0
  have f1 := hm1.c1
  have f2 := hm1.c2
  have f3 := hm1.c3
  have f4 := hm1.c4
  have f5 := hm1.c5
  have f6 := hm1.c6
  have f7 := hm1.c7
  have f8 := hm1.c8
  obtain ⟨yes, hyes⟩ : ∃ y, m.yes = y := ⟨_, rfl⟩
  obtain ⟨yn, hyn⟩ : ∃ y, yesN m = y := ⟨_, rfl⟩
  obtain ⟨L, hL⟩ : ∃ L, m.rs.length = L := ⟨_, rfl⟩
  have hL3 : L ≤ 1000 := by rw [← hL]; exact hm.2.1
  dsimp only at f0 f1 f2 f3 f4 f5 f6 f7 f8
  rw [hyes] at f7
  rw [hL] at f8
  have HLL := Lib.hid hL
  show Calls _ _ #[.agg #[.int .i64 m.k, .int .i64 m.fr, .int .i64 m.dst, .int .i64 m.tm, .int .i64 m.ix, .int .i64 m.pv, .int .i64 m.cm, .bool m.yes, .slice ma m.rs.length mc]] _ _
  rw [hyes, hL] at hW1 ⊢
  have HY := Lib.hid hyes
  have HYN := Lib.hid hyn
  clear hb1 hx1 hp hm hm1 hyes hyn hL
  go_enter Tryz.func11, Tryz.ntmps11
  go_upto_region 2 with fail
  rw [← hW1]
  clear hW1
  go_upto_if 9 with fail
  go_cut [3] (fun t3 wx => t3 = .int .i64 yn ∧ wx = W1)
  case first =>
    cases yes with
    | true =>
      go_wp2_with fail
      go_meet
      exact ⟨by rw [← HYN.out]; unfold yesN; rw [HY.out]; rfl, rfl⟩
    | false =>
      go_wp2_with fail
      go_meet
      exact ⟨by rw [← HYN.out]; unfold yesN; rw [HY.out]; rfl, rfl⟩
  case rest =>
  obtain ⟨rfl, rfl⟩ := hcut
  rename World => W1
  go_upto_region 5 with fail
  obtain ⟨W2, hW2⟩ : ∃ W2, W2 = W1.alloc (.cells #[.int .i64 m.k, .int .i64 m.fr, .int .i64 m.dst, .int .i64 m.tm, .int .i64 m.ix, .int .i64 m.pv, .int .i64 m.cm, .int .i64 yn] 3) := ⟨_, rfl⟩
  have hb2 : Below W1.heap.size W1 W2 := by rw [hW2]; exact below_new W1 _
  have hx2 : W2.heap[W1.heap.size]? = some (headObj m) := by rw [hW2, ← HYN.out]; exact box_new W1 _
  rw [← hW2]
  have HB2 := Lib.hid hb2
  have HX2 := Lib.hid hx2
  have HF8 := Lib.hid f8
  clear hW2 hb2 hx2 f0 f1 f2 f3 f4 f5 f6 f7 f8
  go_upto_region 7 with fail
  go_loopw [5, 6] (fun v5 v6 wr => ∃ (k : Nat) (pre : List UInt8), k ≤ 8 ∧ v6 = .int .i64 (k : Int) ∧ v5 = .string ⟨pre.toArray⟩ ∧ Hid (pre = ((eHead m).take k).flatMap eInt ∧ Below W2.heap.size W2 wr)) (fun _ v6 _ => 8 - (intOf v6).toNat)
  case atStart => exact ⟨0, [], by omega, rfl, rfl, Lib.hid ⟨by rw [List.take_zero]; rfl, Below.refl _ _⟩⟩
  case round =>
    obtain ⟨k, pre, hk8, rfl, rfl, HK⟩ := hrel
    have hpl : pre.length ≤ 1000 := by rw [HK.out.1]; exact Nat.le_trans (take_short eInt _ _) HML.out.1
    by_cases hk : k < 8
    · have hk' : (k : Int) < 8 := by omega
      obtain ⟨n, hn, hc⟩ := head_cell (box_on HX2.out HK.out.2) hk
      have hin : InR n := HM.out.1 n (List.mem_of_getElem? hn)
      have hel : (eInt n).length ≤ 21 := by have := itoa_len n hin; unfold eInt; simp; omega
      have HN := Lib.hid hn
      have QI := Lib.hid (cInt_c n hin wr)
      clear hn hin
      go_wp2_with ((with_reducible refine QI.out.mono ?_); rintro e w5 ⟨rfl, HB5⟩; have HB5 := Lib.hid HB5)
      go_roundw
      case rel => exact ⟨k + 1, pre ++ eInt n, by omega, by go_num, by rw [str_add], Lib.hid ⟨by rw [take_next eInt HN.out, HK.out.1], HK.out.2.trans (HB5.out.mono HK.out.2.size)⟩⟩
      case measure => simp [intOf]; omega
    · obtain rfl : k = 8 := by omega
      have hall : pre = (eHead m).flatMap eInt := by rw [HK.out.1, List.take_of_length_le (by rw [head_len]; exact Nat.le_refl _)]
      have HALL := Lib.hid hall
      clear hall
      have h8 : wr.cell? ⟨w.heap.size, 8, none⟩ = some (.slice ma L mc) := by rw [HK.out.2.cell (Nat.lt_of_lt_of_le HWL.out HB2.out.size), HB2.out.cell HWL.out]; exact HF8.out
      have hel : (eNum (L : Int)).length ≤ 21 := by rw [← HLL.out]; exact HML.out.2.1
      have QN := Lib.hid (show Calls Tryz.prog 39 #[.int .i64 (L : Int)] wr fun e w' => e = .returned (.string ⟨(eNum (L : Int)).toArray⟩) ∧ w'.cell? ⟨w.heap.size, 8, none⟩ = some (.slice ma L mc) ∧ Hid (Below wr.heap.size wr w') from (cNum_c _ (by unfold InR; omega) wr).mono (fun e w' hh => ⟨hh.1, by rw [hh.2.cell (Nat.lt_of_lt_of_le HWL.out (Nat.le_trans HB2.out.size HK.out.2.size))]; exact h8, Lib.hid hh.2⟩))
      go_upto_region 12 with ((with_reducible refine QN.out.mono ?_); rintro e w5 ⟨rfl, g8, HB5⟩)
      have HA : Hid ((⟨pre.toArray⟩ : ByteArray) ++ ⟨(eNum (L : Int)).toArray⟩ = ⟨(pre ++ eNum (L : Int)).toArray⟩) := Lib.hid (str_add _ _)
      have HB6 := Lib.hid (HK.out.2.trans (HB5.out.mono HK.out.2.size))
      have HG8 := Lib.hid g8
      clear h8 g8 HB5 QN
      go_loopw [5, 7] (fun v5 v7 wz => ∃ (k : Nat) (q : List UInt8), k ≤ L ∧ v7 = .int .i64 (k : Int) ∧ v5 = .string ⟨q.toArray⟩ ∧ wz.cell? ⟨w.heap.size, 8, none⟩ = some (.slice ma L mc) ∧ Hid (q = pre ++ eNum (L : Int) ++ (m.rs.take k).flatMap eRec ∧ Below W2.heap.size W2 wz)) (fun _ v7 _ => L - (intOf v7).toNat)
      case atStart => exact ⟨0, _, Nat.zero_le _, rfl, by rw [HA.out], HG8.out, Lib.hid ⟨by rw [List.take_zero]; simp, HB6.out⟩⟩
      case round =>
        obtain ⟨k, q, hkL, rfl, rfl, y8, HQ⟩ := hrel
        have hql : q.length ≤ 3000000000 := by
          rw [HQ.out.1]
          have h1 := Nat.le_trans (take_short eRec m.rs k) HML.out.2.2
          simp only [List.length_append]
          omega
        by_cases hkl : k < L
        · have hkL' : (k : Int) < (L : Int) := by omega
          obtain ⟨x, hx⟩ : ∃ x, m.rs[k]? = some x := ⟨m.rs[k]'(by have := HLL.out; omega), List.getElem?_eq_getElem _⟩
          obtain ⟨bx, ox, hma, c0, c1⟩ := rec_cells (((HP.out.on HB2.out).on HQ.out.2)) rfl hx
          rw [hma] at y8
          have hlow := HM.out.2.2 x (List.mem_of_getElem? hx)
          have hel2 := eRec_len hlow
          have HX := Lib.hid hx
          have QR := Lib.hid ((recBytesQ_c x hlow wr).mono (R' := fun e w' => e = .returned (.string ⟨(eRec x).toArray⟩) ∧ w'.cell? ⟨w.heap.size, 8, none⟩ = some (.slice ma L mc) ∧ Hid (Below wr.heap.size wr w')) (fun e w' hh => ⟨hh.1, by rw [hma, hh.2.cell (Nat.lt_of_lt_of_le HWL.out (Nat.le_trans HB2.out.size HQ.out.2.size))]; exact y8, Lib.hid hh.2⟩))
          clear hx hlow hma
          go_wp2_with ((with_reducible refine QR.out.mono ?_); rintro e w7 ⟨rfl, z8, HB7⟩)
          go_roundw
          case rel => exact ⟨k + 1, q ++ eRec x, by omega, by go_num, by rw [str_add], z8, Lib.hid ⟨by rw [take_next eRec HX.out, HQ.out.1]; simp only [List.append_assoc], HQ.out.2.trans (HB7.out.mono HQ.out.2.size)⟩⟩
          case measure => simp [intOf]; omega
        · obtain rfl : k = L := by omega
          have hq : q = eMsg m := by
            rw [HQ.out.1, HALL.out, List.take_of_length_le (by have := HLL.out; omega), ← HLL.out]
            rfl
          have HE := Lib.hid hq
          clear hq
          go_wp2_with fail
          go_ret
          exact ⟨ret_str (by rw [HE.out]), HB1.out.trans ((HB2.out.trans (HQ.out.2.mono HB2.out.size)).mono HB1.out.size)⟩
end Go.Proofs.YtkmojcpiadpbaaaGreatDoor
