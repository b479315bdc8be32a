/-
  The functions of a replica that only read it: messages with entries, with the last entry, an answer; how logs compare.
-/
import Derived.Test.YtkmojcpiadpbaaaGreatDoorRMem
import Derived.StillTailTactics
namespace Go.Proofs.YtkmojcpiadpbaaaGreatDoor
set_option maxRecDepth 100000
open Go Go.RowKit Rp

theorem message_a {w : World} {b : Nat} {lv : Value} {r : R} (h : RepAt w b lv r) (k dst : Int) : Calls Tryz.prog 61 #[.pointer (some ⟨b, 0, none⟩), .int .i64 k, .int .i64 dst] w fun e w' => e = .returned (.agg #[.int .i64 k, .int .i64 r.id, .int .i64 dst, .int .i64 r.h.tm, .int .i64 0, .int .i64 0, .int .i64 0, .bool false, .slice none 0 0]) ∧ Below w.heap.size w w' := message_c h k dst
theorem take_min {l : List Rec} {j h n : Nat} (hh : h = min l.length (j + 8)) (hn : h - j = n) : (l.drop j).take n = (l.drop j).take 8 ∧ ((l.drop j).take 8).length = n ∨ l.length < j := by
  rcases Nat.lt_or_ge l.length j with h1 | h1
  · exact Or.inr h1
  · refine Or.inl ⟨?_, by rw [List.length_take, List.length_drop]; omega⟩
    rcases Nat.le_total (l.length) (j + 8) with h2 | h2
    · rw [List.take_of_length_le (by rw [List.length_drop]; omega), List.take_of_length_le (by rw [List.length_drop]; omega)]
    · rw [show n = 8 by omega]
theorem nxt_cell {w : World} {b : Nat} {lv : Value} {r : R} (h : RepAt w b lv r) {d : Nat} (hd : d < 3) : w.cell? ⟨b, 6 + d, none⟩ = some (.int .i64 (r.nxt (d : Int))) := by
  have hc := h.c
  match d, hd with
  | 0, _ => exact hc.c6
  | 1, _ => exact hc.c7
  | 2, _ => exact hc.c8
theorem mat_cell {w : World} {b : Nat} {lv : Value} {r : R} (h : RepAt w b lv r) {d : Nat} (hd : d < 3) : w.cell? ⟨b, 9 + d, none⟩ = some (.int .i64 (r.mat (d : Int))) := by
  have hc := h.c
  match d, hd with
  | 0, _ => exact hc.c9
  | 1, _ => exact hc.c10
  | 2, _ => exact hc.c11

set_option maxHeartbeats 4000000 in
/-- The message that sends entries. -/
theorem entries_c {w : World} {b : Nat} {lv : Value} {r : R} (h : RepAt w b lv r) (hr : r.role = 2) (d : Nat) (hd : d < 3) : Calls Tryz.prog 45 #[.pointer (some ⟨b, 0, none⟩), .int .i64 (d : Int)] w fun e w' => ∃ a c, e = .returned (PM.val ⟨ents r d, a, c⟩) ∧ PM.ok (fun k => w.heap.size ≤ k) w' ⟨ents r d, a, c⟩ ∧ Below w.heap.size w w' := by
  obtain ⟨hn1, hn2⟩ := h.fine.nxt hr (d : Int)
  have hlen := h.fine.len
  obtain ⟨j, hj⟩ : ∃ j : Nat, r.nxt (d : Int) = (j : Int) + 1 := ⟨(r.nxt (d : Int) - 1).toNat, by omega⟩
  obtain ⟨n, hn⟩ : ∃ n, min r.l.length (j + 8) - j = n := ⟨_, rfl⟩
  obtain ⟨W1, hW1⟩ : ∃ W1, W1 = w.alloc (.cells #[.int .i64 0, .int .i64 0, .int .i64 0, .int .i64 0, .int .i64 0, .int .i64 0, .int .i64 0, .bool false, .slice none 0 0] 24) := ⟨_, rfl⟩
  have hb1 : Below w.heap.size w W1 := by rw [hW1]; exact below_new w _
  have hx1 : PM.zero.at W1 w.heap.size := by rw [hW1]; exact box_new w _
  have HB1 := Lib.hid hb1
  have HX1 := Lib.hid hx1
  have HS1 := Lib.hid (show w.heap.size < W1.heap.size by rw [hW1]; simp)
  have HR := Lib.hid h
  have QM := Lib.hid (message_a (h.on hb1) 2 (d : Int))
  have HT := Lib.hid (take_min (l := r.l) (j := j) (n := n) rfl hn)
  have hd0 : ¬ (d : Int) < 0 := by omega
  have hd3 : ¬ (3 : Int) ≤ (d : Int) := by omega
  have hd3' : (d : Int) < 3 := by omega
  obtain ⟨a, c, rfl, hc1, _, _⟩ := h.row.shape
  have hw1 : IntKind.i64.wrap ((j : Int) + 1 - 1) = (j : Int) := by rw [IntKind.wrap_i64]; omega
  have hw8 : IntKind.i64.wrap ((j : Int) + 8) = ((j + 8 : Nat) : Int) := by rw [IntKind.wrap_i64]; push_cast; omega
  have hmin : min (r.l.length : Int) ((j : Int) + 8) = ((min r.l.length (j + 8) : Nat) : Int) := by omega
  have hents : ents r (d : Int) = ⟨2, r.id, d, r.h.tm, j, tI r.l j, r.cm, false, (r.l.drop j).take 8⟩ := by
    unfold ents msg
    rw [hj, Int.add_sub_cancel, Int.toNat_natCast]
  rw [hents]
  obtain ⟨A, hsl, hA, hA0⟩ := rec_both a r.l.length c j (min r.l.length (j + 8)) (by omega) (by omega)
  rw [hn] at hsl
  obtain ⟨M, hM⟩ : ∃ M : Nat, min r.l.length (j + 8) = M := ⟨_, rfl⟩
  rw [hM] at hmin hsl
  have HPART := Lib.hid (fun (W : World) (hW : Below w.heap.size w W) => (((h.on hW).row.src (G := fun _ => True) (fun _ _ => trivial)).part (k := j) (n := n) hA (by omega)))
  have HN := Lib.hid (show n ≤ 8 ∧ j ≤ r.l.length ∧ r.l.length ≤ 4000 by omega)
  have HJ := Lib.hid hj
  have hjb : (j : Int) ≤ 4000 := by omega
  have HRF := Lib.hid (show (0 : Int) ≤ (j : Int) ∧ (j : Int) ≤ (r.l.length : Int) by omega)
  obtain ⟨L, hL⟩ : ∃ L : Nat, r.l.length = L := ⟨_, rfl⟩
  have HL := Lib.hid hL
  rw [hL] at hmin hsl HR
  clear h hb1 hx1 hc1 hA hA0 hents hj hn1 hn2 hlen hn hM hL
  go_enter Tryz.func45, Tryz.ntmps45
  go_upto_region 1 with fail
  rw [← hW1]
  clear hW1
  go_upto_region 2 with (refine QM.out.mono ?_; rintro e w1 ⟨rfl, hb1⟩)
  obtain ⟨W2, hW2⟩ : ∃ W2, W2 = w1.alloc (.cells #[.int .i64 2, .int .i64 r.id, .int .i64 (d : Int), .int .i64 r.h.tm, .int .i64 0, .int .i64 0, .int .i64 0, .bool false, .slice none 0 0] 24) := ⟨_, rfl⟩
  have hb2 : Below w.heap.size w W2 := by rw [hW2]; exact (HB1.out.trans (hb1.mono HB1.out.size)).alloc (Nat.le_trans HB1.out.size hb1.size) _
  have hx2 : PM.at ⟨⟨2, r.id, d, r.h.tm, 0, 0, 0, false, []⟩, none, 0⟩ W2 w1.heap.size := by rw [hW2]; exact box_new w1 _
  have hz2 : PM.zero.at W2 w.heap.size := by rw [hW2]; exact box_on (box_on HX1.out hb1) (below_new _ _)
  have hne : w.heap.size ≠ w1.heap.size := by have := HS1.out; have := hb1.size; omega
  have hlo : w.heap.size ≤ w1.heap.size := Nat.le_trans HB1.out.size hb1.size
  obtain ⟨W3, hW3⟩ : ∃ W3, W3 = W2.setCell ⟨w1.heap.size, 4, none⟩ (.int .i64 (j : Int)) := ⟨_, rfl⟩
  have hb3 : Below w.heap.size w W3 := by rw [hW3]; exact below_set hb2 hlo _ _
  have hx3 : PM.at ⟨⟨2, r.id, d, r.h.tm, j, 0, 0, false, []⟩, none, 0⟩ W3 w1.heap.size := by rw [hW3]; exact box_set hx2 4 _
  have hz3 : PM.zero.at W3 w.heap.size := by rw [hW3]; exact box_other hz2 hne 4 _
  obtain ⟨W4, hW4⟩ : ∃ W4, W4 = W3.setCell ⟨w1.heap.size, 5, none⟩ (.int .i64 (tI r.l j)) := ⟨_, rfl⟩
  have hb4 : Below w.heap.size w W4 := by rw [hW4]; exact below_set hb3 hlo _ _
  have hx4 : PM.at ⟨⟨2, r.id, d, r.h.tm, j, tI r.l j, 0, false, []⟩, none, 0⟩ W4 w1.heap.size := by rw [hW4]; exact box_set hx3 5 _
  have hz4 : PM.zero.at W4 w.heap.size := by rw [hW4]; exact box_other hz3 hne 5 _
  obtain ⟨W5, hW5⟩ : ∃ W5, W5 = W4.setCell ⟨w1.heap.size, 6, none⟩ (.int .i64 r.cm) := ⟨_, rfl⟩
  have hb5 : Below w.heap.size w W5 := by rw [hW5]; exact below_set hb4 hlo _ _
  have hx5 : PM.at ⟨⟨2, r.id, d, r.h.tm, j, tI r.l j, r.cm, false, []⟩, none, 0⟩ W5 w1.heap.size := by rw [hW5]; exact box_set hx4 6 _
  have hz5 : PM.zero.at W5 w.heap.size := by rw [hW5]; exact box_other hz4 hne 6 _
  -- the next of the other replica
  have n2 := nxt_cell (HR.out.on hb2) hd
  rw [HJ.out] at n2
  have QT := Lib.hid (termOf_c (HR.out.on hb3) (j : Int) HRF.out.1 (by rw [HL.out]; have := HRF.out.2; rw [HL.out] at this; exact this))
  have k2 := hx2.c.c4
  have y2 := hx2.c.z 4
  have k3 := hx3.c.c4
  have k35 := hx3.c.c5
  have y3 := hx3.c.z 5
  have k4 := hx4.c.c6
  have y4 := hx4.c.z 6
  have m4 := (HR.out.on hb4).c.c5
  have k5 := hx5.c.c4
  have m5 := (HR.out.on hb5).c.c3
  have QC := Lib.hid (show ∀ W, Below w.heap.size w W → Calls Tryz.prog 43 #[.slice A n (c - j)] W fun e w' => ∃ a' c', e = .returned (.slice a' n c') ∧ RecRow w' W.heap.size (.slice a' n c') ((r.l.drop j).take 8) ∧ Below W.heap.size W w' from fun W hW => by
    have h1 := HPART.out W hW
    rcases HT.out with ⟨h2, h3⟩ | h2
    · rw [h2] at h1
      have h4 := clone_c A (c - j) _ W (h3 ▸ h1) (by rw [h3]; have := HN.out; omega)
      rw [h3] at h4
      exact h4
    · have := HN.out; omega)
  have HB5 := Lib.hid hb5
  have HX5 := Lib.hid hx5
  have HZ5 := Lib.hid hz5
  have HNE := Lib.hid hne
  have HLO := Lib.hid hlo
  rw [← hW2]
  clear hW2 hb2 hx2 hz2 hb3 hx3 hz3 hb4 hx4 hz4 hb5 hx5 hz5 hb1 hne hlo
  go_upto_region 3 with fail
  rw [← hW3]
  clear hW3 k2 y2 n2
  go_upto_region 4 with (refine QT.out.mono ?_; rintro e w' ⟨rfl, hw⟩; rw [hw]; clear hw)
  rw [← hW4]
  clear hW4 k3 k35 y3
  go_upto_region 5 with fail
  rw [← hW5]
  clear hW5 k4 y4 m4
  have QR := Lib.hid ((QC.out _ (below_drew HB5.out)).mono (R' := fun e w' => ∃ a' c', e = .returned (.slice a' n c') ∧ w'.cell? ⟨w1.heap.size, 8, none⟩ = some (.slice none 0 0) ∧ w'.frozen? ⟨w1.heap.size, 8, none⟩ = false ∧ RowKit.Hid (RecRow w' W5.drew.heap.size (.slice a' n c') ((r.l.drop j).take 8) ∧ Below W5.drew.heap.size W5.drew w')) (fun e w' hh => by
    obtain ⟨a', c', h1, h2, h3⟩ := hh
    have h4 : PM.at ⟨⟨2, r.id, d, r.h.tm, j, tI r.l j, r.cm, false, []⟩, none, 0⟩ w' w1.heap.size := box_on HX5.out.drew h3
    exact ⟨a', c', h1, h4.c.c8, h4.c.z 8, Lib.hid ⟨h2, h3⟩⟩))
  go_cut [43] (fun t43 wx => ∃ a' c' w6, t43 = .slice a' n c' ∧ wx = w6.setCell ⟨w1.heap.size, 8, none⟩ (.slice a' n c') ∧ Hid (RecRow w6 W5.drew.heap.size (.slice a' n c') ((r.l.drop j).take 8) ∧ Below W5.drew.heap.size W5.drew w6))
  case first =>
    go_still_tail 16, (by kernel_rfl)
    change wpList _ _ _ _ _ W5.drew
    go_wp2_with (refine QR.out.mono ?_; rintro e w6 ⟨a', c', rfl, k6, y6, HH⟩)
    go_meet
    exact ⟨a', c', w6, rfl, rfl, HH⟩
  case rest =>
    obtain ⟨a', c', w6, rfl, rfl, HH⟩ := hcut
    obtain ⟨W7, hW7⟩ : ∃ W7, W7 = w6.setCell ⟨w1.heap.size, 8, none⟩ (.slice a' n c') := ⟨_, rfl⟩
    have e : ((r.l.drop j).take 8).length = n := by
      rcases HT.out with h2 | h2
      · exact h2.2
      · have := HN.out; omega
    have hx7 : PM.at ⟨⟨2, r.id, d, r.h.tm, j, tI r.l j, r.cm, false, (r.l.drop j).take 8⟩, a', c'⟩ W7 w1.heap.size := by
      rw [hW7]
      have := box_set (box_on HX5.out.drew HH.out.2) 8 (.slice a' n c')
      unfold PM.at PM.obj
      rw [e]
      exact this
    have hz7 : PM.zero.at W7 w.heap.size := by rw [hW7]; exact box_other (box_on HZ5.out.drew HH.out.2) HNE.out 8 _
    have hb7 : Below w.heap.size w W7 := by rw [hW7]; exact below_set ((below_drew HB5.out).trans (HH.out.2.mono (below_drew HB5.out).size)) HLO.out _ _
    have hok : PM.ok (fun k => w.heap.size ≤ k) (((((((((W7.setCell ⟨w.heap.size, 0, none⟩ (.int .i64 2)).setCell ⟨w.heap.size, 1, none⟩ (.int .i64 r.id)).setCell ⟨w.heap.size, 2, none⟩ (.int .i64 (d : Int))).setCell ⟨w.heap.size, 3, none⟩ (.int .i64 r.h.tm)).setCell ⟨w.heap.size, 4, none⟩ (.int .i64 (j : Int))).setCell ⟨w.heap.size, 5, none⟩ (.int .i64 (tI r.l j))).setCell ⟨w.heap.size, 6, none⟩ (.int .i64 r.cm)).setCell ⟨w.heap.size, 7, none⟩ (.bool false)).setCell ⟨w.heap.size, 8, none⟩ (.slice a' n c')) ⟨⟨2, r.id, d, r.h.tm, j, tI r.l j, r.cm, false, (r.l.drop j).take 8⟩, a', c'⟩ := by
      have hrow := HH.out.1
      rw [← e] at hrow
      have hw7 : Kept (fun k => k = w1.heap.size) w6 W7 := by rw [hW7]; exact Kept.set _ _ _ _
      have hlow : W5.drew.heap.size ≤ w6.heap.size := HH.out.2.size
      have hlt : w1.heap.size < W5.drew.heap.size := box_lt HX5.out.drew
      have h1 : Src (fun k => W5.drew.heap.size ≤ k) W7 a' c' ((r.l.drop j).take 8).length (recsV ((r.l.drop j).take 8)) := Src.kept (hrow.src (G := fun k => W5.drew.heap.size ≤ k) (fun k hk => hrow.above hk)) hw7 (fun k _ hk hk' => by omega)
      have hlo := HLO.out
      exact Src.mono' (Src.kept h1 (kept_set9 W7 w.heap.size _ _ _ _ _ _ _ _ _) (fun k _ hk hk' => by omega)) (fun k hk => by have := (below_drew HB5.out).size; omega)
    have f0 := hx7.c.c0
    have zf0 := hx7.c.z 0
    have f1 := hx7.c.c1
    have zf1 := hx7.c.z 1
    have f2 := hx7.c.c2
    have zf2 := hx7.c.z 2
    have f3 := hx7.c.c3
    have zf3 := hx7.c.z 3
    have f4 := hx7.c.c4
    have zf4 := hx7.c.z 4
    have f5 := hx7.c.c5
    have zf5 := hx7.c.z 5
    have f6 := hx7.c.c6
    have zf6 := hx7.c.z 6
    have f7 := hx7.c.c7
    have zf7 := hx7.c.z 7
    have f8 : W7.cell? ⟨w1.heap.size, 8, none⟩ = some (.slice a' n c') := by rw [← e]; exact hx7.c.c8
    have zf8 := hx7.c.z 8
    have g0 := hz7.c.c0
    have zg0 := hz7.c.z 0
    have g1 := hz7.c.c1
    have zg1 := hz7.c.z 1
    have g2 := hz7.c.c2
    have zg2 := hz7.c.z 2
    have g3 := hz7.c.c3
    have zg3 := hz7.c.z 3
    have g4 := hz7.c.c4
    have zg4 := hz7.c.z 4
    have g5 := hz7.c.c5
    have zg5 := hz7.c.z 5
    have g6 := hz7.c.c6
    have zg6 := hz7.c.z 6
    have g7 := hz7.c.c7
    have zg7 := hz7.c.z 7
    have g8 := hz7.c.c8
    have zg8 := hz7.c.z 8
    have HX7 := Lib.hid hx7
    have HZ7 := Lib.hid hz7
    have HB7 := Lib.hid hb7
    have HOK := Lib.hid hok
    have HE := Lib.hid e
    rw [← hW7]
    clear hW7 hx7 hz7 hb7 hok e k5 m5
    go_wp2_with fail
    (try simp only [Exit.inBlock, Exit.then])
    refine bodyPost_ret (ret_msg rfl _ _ w.heap.size ⟨⟨2, r.id, d, r.h.tm, j, tI r.l j, r.cm, false, (r.l.drop j).take 8⟩, a', c'⟩ rfl (by have := HZ7.out.set9 ⟨⟨2, r.id, d, r.h.tm, j, tI r.l j, r.cm, false, (r.l.drop j).take 8⟩, a', c'⟩; rw [HE.out] at this; exact this)) rfl ?_
    exact ⟨a', c', rfl, HOK.out, below_set9 HB7.out (Nat.le_refl _) _ _ _ _ _ _ _ _ _⟩
end Go.Proofs.YtkmojcpiadpbaaaGreatDoor
