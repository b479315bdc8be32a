/-
  How a replica compares logs; how many entries it knows; its answers.
-/
import Derived.Test.YtkmojcpiadpbaaaGreatDoorRSend
namespace Go.Proofs.YtkmojcpiadpbaaaGreatDoor
set_option maxRecDepth 100000
open Go Go.RowKit Rp

theorem reaches_c {w : World} {b : Nat} {lv : Value} {r : R} (h : RepAt w b lv r) (t n : Int) : Calls Tryz.prog 73 #[.pointer (some ⟨b, 0, none⟩), .int .i64 t, .int .i64 n] w fun e w' => e = .returned (.bool (decide (lastT r.l < t ∨ (t = lastT r.l ∧ (r.l.length : Int) ≤ n)))) ∧ w' = w := by
  have QT := Lib.hid (termOf_c h (r.l.length : Int) (by omega) (Int.le_refl _))
  have c3 := h.c.c3
  have hlen := h.fine.len
  obtain ⟨a, c, rfl, _⟩ := h.row.shape
  rw [lastT_tI]
  obtain ⟨T, hT⟩ : ∃ T, tI r.l (r.l.length : Int) = T := ⟨_, rfl⟩
  rw [hT] at QT ⊢
  obtain ⟨L, hL⟩ : ∃ L : Nat, r.l.length = L := ⟨_, rfl⟩
  rw [hL] at QT c3 hlen ⊢
  clear h hT hL
  by_cases ht : t = T
  · subst ht
    have hne : (t != t) = false := by simp
    have e : decide (t < t ∨ (t = t ∧ (L : Int) ≤ n)) = decide ((L : Int) ≤ n) := by simp
    rw [e]
    clear e
    go_enter Tryz.func73, Tryz.ntmps73
    go_wp2_with (refine QT.out.mono ?_; rintro e w1 ⟨rfl, hw⟩; rw [hw]; clear hw)
    go_ret
    exact ⟨rfl, rfl⟩
  · have hne : (t != T) = true := by simpa using ht
    have e : decide (T < t ∨ (t = T ∧ (L : Int) ≤ n)) = decide (T < t) := by simp [ht]
    rw [e]
    clear e ht
    go_enter Tryz.func73, Tryz.ntmps73
    go_wp2_with (refine QT.out.mono ?_; rintro e w1 ⟨rfl, hw⟩; rw [hw]; clear hw)
    go_ret
    exact ⟨rfl, rfl⟩
theorem has_c {w : World} {b : Nat} {lv : Value} {r : R} (h : RepAt w b lv r) (n t : Int) (h0 : 0 ≤ n) : Calls Tryz.prog 75 #[.pointer (some ⟨b, 0, none⟩), .int .i64 n, .int .i64 t] w fun e w' => e = .returned (.bool (decide (n ≤ (r.l.length : Int) ∧ tI r.l n = t))) ∧ w' = w := by
  have c3 := h.c.c3
  have hlen := h.fine.len
  by_cases hn : n ≤ (r.l.length : Int)
  · have QT := Lib.hid (termOf_c h n h0 hn)
    obtain ⟨a, c, rfl, _⟩ := h.row.shape
    obtain ⟨T, hT⟩ : ∃ T, tI r.l n = T := ⟨_, rfl⟩
    rw [hT] at QT ⊢
    have e : decide (n ≤ (r.l.length : Int) ∧ T = t) = (T == t) := by simp [hn]; rfl
    rw [e]
    obtain ⟨L, hL⟩ : ∃ L : Nat, r.l.length = L := ⟨_, rfl⟩
    rw [hL] at c3 hlen hn
    clear h hT hL e
    go_enter Tryz.func75, Tryz.ntmps75
    go_wp2_with (refine QT.out.mono ?_; rintro e w1 ⟨rfl, hw⟩; rw [hw]; clear hw)
    go_ret
    exact ⟨rfl, rfl⟩
  · obtain ⟨a, c, rfl, _⟩ := h.row.shape
    have e : decide (n ≤ (r.l.length : Int) ∧ tI r.l n = t) = false := by simp [hn]
    rw [e]
    obtain ⟨L, hL⟩ : ∃ L : Nat, r.l.length = L := ⟨_, rfl⟩
    rw [hL] at c3 hlen hn
    clear h hL e
    go_enter Tryz.func75, Tryz.ntmps75
    go_wp2_with fail
    go_ret
    exact ⟨rfl, rfl⟩

set_option maxHeartbeats 1000000 in
theorem known_c {G : Nat → Prop} {w : World} {b : Nat} {lv : Value} {r : R} (h : RepAt w b lv r) (p : PM) (hp : p.ok G w) (hix : 0 ≤ p.m.ix) (hsum : p.m.ix + p.m.rs.length ≤ 4000) : Calls Tryz.prog 76 #[.pointer (some ⟨b, 0, none⟩), .agg #[.int .i64 p.m.k, .int .i64 p.m.fr, .int .i64 p.m.dst, .int .i64 p.m.tm, .int .i64 p.m.ix, .int .i64 p.m.pv, .int .i64 p.m.cm, .bool p.m.yes, .slice p.a p.m.rs.length p.c]] w fun e w' => e = .returned (.int .i64 ((agree r.l p.m.ix.toNat p.m.rs : Nat) : Int)) ∧ Below w.heap.size w w' := by
  obtain ⟨⟨mk, mfr, mdst, mtm, mix, mpv, mcm, myes, mrs⟩, ma, mc⟩ := p
  have hix : 0 ≤ mix := hix
  have hsum : mix + mrs.length ≤ 4000 := hsum
  obtain ⟨i0, rfl⟩ : ∃ i0 : Nat, mix = (i0 : Int) := ⟨mix.toNat, by omega⟩
  show Calls Tryz.prog _ #[_, .agg #[.int .i64 mk, .int .i64 mfr, .int .i64 mdst, .int .i64 mtm, .int .i64 i0, .int .i64 mpv, .int .i64 mcm, .bool myes, .slice ma mrs.length mc]] w fun e w' => e = .returned (.int .i64 ((agree r.l ((i0 : Int)).toNat mrs : Nat) : Int)) ∧ _
  rw [Int.toNat_natCast]
  obtain ⟨W1, hW1⟩ : ∃ W1, W1 = w.alloc (.cells #[.int .i64 mk, .int .i64 mfr, .int .i64 mdst, .int .i64 mtm, .int .i64 i0, .int .i64 mpv, .int .i64 mcm, .bool myes, .slice ma mrs.length mc] 24) := ⟨_, rfl⟩
  have hb1 : Below w.heap.size w W1 := by rw [hW1]; exact below_new w _
  have hx1 : PM.at ⟨⟨mk, mfr, mdst, mtm, i0, mpv, mcm, myes, mrs⟩, ma, mc⟩ W1 w.heap.size := by rw [hW1]; exact box_new w _
  have hp : Src G w ma mc mrs.length (recsV mrs) := hp
  have HS := Lib.hid (fun (W : World) (hW : Below w.heap.size w W) => hp.on hW)
  have HR := Lib.hid h
  have HX := Lib.hid (fun (W : World) (hW : Below W1.heap.size W1 W) => (show PM.at ⟨⟨mk, mfr, mdst, mtm, i0, mpv, mcm, myes, mrs⟩, ma, mc⟩ W w.heap.size from box_on hx1 hW))
  have HB1 := Lib.hid hb1
  have QH := Lib.hid (fun (W : World) (hW : Below w.heap.size w W) (n t : Int) (h0 : 0 ≤ n) => has_c (h.on hW) n t h0)
  have hb8 := hx1.c.c8
  have hi0 : (i0 : Int) ≤ 4000 := by omega
  obtain ⟨L, hL⟩ : ∃ L : Nat, mrs.length = L := ⟨_, rfl⟩
  have HL := Lib.hid hL
  have hL8 : (i0 : Int) + (L : Int) ≤ 4000 := by omega
  rw [hL] at hW1 ⊢
  have b8 : W1.cell? ⟨w.heap.size, 8, none⟩ = some (.slice ma L mc) := by rw [← hL]; exact hb8
  clear h hb8 hb1 hx1 hp hL hsum hix
  go_enter Tryz.func76, Tryz.ntmps76
  go_upto_region 1 with fail
  rw [← hW1]
  clear hW1
  go_wp2_with fail
  go_loopw [10] (fun v10 wr => ∃ k : Nat, k ≤ L ∧ v10 = .int .i64 (k : Int) ∧ agree r.l i0 mrs = k + agree r.l (i0 + k) (mrs.drop k) ∧ Below W1.heap.size W1 wr) (fun v10 _ => L - (intOf v10).toNat)
  case atStart => exact ⟨0, Nat.zero_le _, rfl, by rw [Nat.zero_add, Nat.add_zero, List.drop_zero], Below.refl _ _⟩
  case round =>
    obtain ⟨k, hk, rfl, hag, hb⟩ := hrel
    have HAG := Lib.hid (agree_stop hag)
    have HB := Lib.hid hb
    have HBW := Lib.hid (HB1.out.trans (hb.mono HB1.out.size))
    have HAG0 := Lib.hid hag
    clear hag hb
    by_cases hkl : k < L
    · have hkl' : (k : Int) < (L : Int) := by omega
      obtain ⟨x, hx⟩ : ∃ x, mrs[k]? = some x := ⟨mrs[k]'(by have := HL.out; omega), List.getElem?_eq_getElem _⟩
      obtain ⟨g, off, rfl, d0, d1⟩ := rec_cells (HS.out wr HBW.out) rfl hx
      obtain ⟨W2, hW2⟩ : ∃ W2, W2 = wr.alloc (.cells #[.int .i64 x.t, .string ⟨x.d.toArray⟩] 27) := ⟨_, rfl⟩
      have hb2 : Below wr.heap.size wr W2 := by rw [hW2]; exact below_new _ _
      have hx2 : W2.heap[wr.heap.size]? = some (.cells #[.int .i64 x.t, .string ⟨x.d.toArray⟩] 27) := by rw [hW2]; exact box_new wr _
      have e0 : W2.cell? ⟨wr.heap.size, 0, none⟩ = some (.int .i64 x.t) := by rw [Lib.cell_of_heap hx2]; rfl
      have HB2 := Lib.hid (HB.out.trans (hb2.mono HB.out.size))
      have HBW2 := Lib.hid (HBW.out.trans (hb2.mono HBW.out.size))
      have g4 := (HX.out W2 HB2.out).c.c4
      have QH2 := Lib.hid (QH.out W2 HBW2.out ((i0 : Int) + 1 + (k : Int)) x.t (by omega))
      have hxt : (mrs[k]?.map (·.t)).getD 0 = x.t := by rw [hx]; rfl
      have htI : tI r.l ((i0 : Int) + 1 + (k : Int)) = tAt r.l (i0 + k + 1) := by
        rw [tI_nat (by omega)]
        congr 1
        omega
      have HXT := Lib.hid hxt
      clear hb2 hx2 hx hxt
      by_cases hc : i0 + k + 1 ≤ r.l.length ∧ tAt r.l (i0 + k + 1) = x.t
      · have hq : decide ((i0 : Int) + 1 + (k : Int) ≤ (r.l.length : Int) ∧ tI r.l ((i0 : Int) + 1 + (k : Int)) = x.t) = true := by
          rw [htI]
          simp only [decide_eq_true_eq]
          exact ⟨by omega, hc.2⟩
        rw [hq] at QH2
        have HN := Lib.hid (HAG.out.1 (by have := HL.out; omega) hc.1 (by rw [HXT.out]; exact hc.2))
        clear hc hq htI
        go_upto_region 4 with fail
        rw [← hW2]
        clear hW2 d0 d1
        go_wp2_with (refine QH2.out.mono ?_; rintro e w3 ⟨rfl, hw⟩; rw [hw]; clear hw)
        go_roundw
        case rel => exact ⟨k + 1, hkl, by go_num, HN.out, HB2.out⟩
        case measure => simp [intOf]; omega
      · have hq : decide ((i0 : Int) + 1 + (k : Int) ≤ (r.l.length : Int) ∧ tI r.l ((i0 : Int) + 1 + (k : Int)) = x.t) = false := by
          rw [htI]
          simp only [decide_eq_false_iff_not]
          exact fun w => hc ⟨by omega, w.2⟩
        rw [hq] at QH2
        have HN := Lib.hid (HAG.out.2 (fun w => hc ⟨w.2.1, by rw [← HXT.out]; exact w.2.2⟩))
        clear hc hq htI
        go_upto_region 4 with fail
        rw [← hW2]
        clear hW2 d0 d1
        go_wp2_with (refine QH2.out.mono ?_; rintro e w3 ⟨rfl, hw⟩; rw [hw]; clear hw)
        go_ret
        exact ⟨by rw [HN.out]; rfl, HBW2.out⟩
    · have hkl' : ¬ (k : Int) < (L : Int) := by omega
      obtain rfl : k = L := by omega
      have HN := Lib.hid (HAG.out.2 (fun w => by have := HL.out; omega))
      have g8 : wr.cell? ⟨w.heap.size, 8, none⟩ = some (.slice ma k mc) := by
        have := (HX.out wr HB.out).c.c8
        rw [← HL.out]
        exact this
      go_wp2_with fail
      go_ret
      exact ⟨by rw [HN.out]; rfl, HBW.out⟩

/-! ### An answer -/
theorem out_one {G : Nat → Prop} {w : World} {b : Nat} {p : PM} (h : p.at w b) (hb : G b) (hp : p.ok G w) : OutIs G w (.agg #[.bool false, .int .i64 0, .int .i64 0, .int .i64 0, .slice none 0 0, .slice (some ⟨b, 0, none⟩) 1 1]) (Out.just [p.m]) :=
  ⟨none, 0, some ⟨b, 0, none⟩, 1, [p], rfl, Src.nil _ _, rfl, h.src hb, fun q hq => by obtain rfl := List.mem_singleton.1 hq; exact hp⟩
set_option maxHeartbeats 1000000 in
theorem answer_c {w : World} {b : Nat} {lv : Value} {r : R} (h : RepAt w b lv r) (d : Int) (y : Bool) (i : Int) : Calls Tryz.prog 74 #[.pointer (some ⟨b, 0, none⟩), .int .i64 d, .bool y, .int .i64 i] w fun e w' => ∃ sb, e = .returned (.agg #[.bool false, .int .i64 0, .int .i64 0, .int .i64 0, .slice none 0 0, .slice (some ⟨sb, 0, none⟩) 1 1]) ∧ OutIs (fun k => w.heap.size ≤ k) w' (.agg #[.bool false, .int .i64 0, .int .i64 0, .int .i64 0, .slice none 0 0, .slice (some ⟨sb, 0, none⟩) 1 1]) (Out.just [{ msg r 3 d with yes := y, ix := i }]) ∧ PM.at ⟨{ msg r 3 d with yes := y, ix := i }, none, 0⟩ w' sb ∧ w.heap.size ≤ sb ∧ Below w.heap.size w w' := by
  obtain ⟨W1, hW1⟩ : ∃ W1, W1 = w.alloc (.cells #[.bool false, .int .i64 0, .int .i64 0, .int .i64 0, .slice none 0 0, .slice none 0 0] 42) := ⟨_, rfl⟩
  have hb1 : Below w.heap.size w W1 := by rw [hW1]; exact below_new w _
  have hx1 : W1.heap[w.heap.size]? = some (.cells #[.bool false, .int .i64 0, .int .i64 0, .int .i64 0, .slice none 0 0, .slice none 0 0] 42) := by rw [hW1]; exact box_new w _
  have HB1 := Lib.hid hb1
  have HX1 := Lib.hid hx1
  have HS1 := Lib.hid (show w.heap.size < W1.heap.size by rw [hW1]; simp)
  have QM := Lib.hid (message_a (h.on hb1) 3 d)
  clear h hb1 hx1
  unfold msg
  go_enter Tryz.func74, Tryz.ntmps74
  go_upto_region 1 with fail
  rw [← hW1]
  clear hW1
  go_upto_region 2 with (refine QM.out.mono ?_; rintro e w1 ⟨rfl, hb1⟩)
  obtain ⟨W2, hW2⟩ : ∃ W2, W2 = w1.alloc (.cells #[.int .i64 3, .int .i64 r.id, .int .i64 d, .int .i64 r.h.tm, .int .i64 0, .int .i64 0, .int .i64 0, .bool false, .slice none 0 0] 24) := ⟨_, rfl⟩
  have hb2 : Below w.heap.size w W2 := by rw [hW2]; exact (HB1.out.trans (hb1.mono HB1.out.size)).alloc (Nat.le_trans HB1.out.size hb1.size) _
  have hx2 : PM.at ⟨⟨3, r.id, d, r.h.tm, 0, 0, 0, false, []⟩, none, 0⟩ W2 w1.heap.size := by rw [hW2]; exact box_new w1 _
  have hz2 : W2.heap[w.heap.size]? = some (.cells #[.bool false, .int .i64 0, .int .i64 0, .int .i64 0, .slice none 0 0, .slice none 0 0] 42) := by rw [hW2]; exact box_on (box_on HX1.out hb1) (below_new _ _)
  have hne : w.heap.size ≠ w1.heap.size := by have := HS1.out; have := hb1.size; omega
  have hlo : w.heap.size ≤ w1.heap.size := Nat.le_trans HB1.out.size hb1.size
  obtain ⟨W3, hW3⟩ : ∃ W3, W3 = (W2.setCell ⟨w1.heap.size, 7, none⟩ (.bool y)).setCell ⟨w1.heap.size, 4, none⟩ (.int .i64 i) := ⟨_, rfl⟩
  have hb3 : Below w.heap.size w W3 := by rw [hW3]; exact below_set (below_set hb2 hlo _ _) hlo _ _
  have hx3' : PM.at ⟨⟨3, r.id, d, r.h.tm, 0, 0, 0, y, []⟩, none, 0⟩ (W2.setCell ⟨w1.heap.size, 7, none⟩ (.bool y)) w1.heap.size := box_set hx2 7 _
  have hx3 : PM.at ⟨⟨3, r.id, d, r.h.tm, i, 0, 0, y, []⟩, none, 0⟩ W3 w1.heap.size := by rw [hW3]; exact box_set hx3' 4 _
  have hz3 : W3.heap[w.heap.size]? = some (.cells #[.bool false, .int .i64 0, .int .i64 0, .int .i64 0, .slice none 0 0, .slice none 0 0] 42) := by rw [hW3]; exact box_other (box_other hz2 hne 7 _) hne 4 _
  obtain ⟨W4, hW4⟩ : ∃ W4, W4 = W3.alloc (.cells #[.int .i64 3, .int .i64 r.id, .int .i64 d, .int .i64 r.h.tm, .int .i64 i, .int .i64 0, .int .i64 0, .bool y, .slice none 0 0] 24) := ⟨_, rfl⟩
  have hb4 : Below w.heap.size w W4 := by rw [hW4]; exact hb3.alloc hb3.size _
  have hx4 : PM.at ⟨⟨3, r.id, d, r.h.tm, i, 0, 0, y, []⟩, none, 0⟩ W4 W3.heap.size := by rw [hW4]; exact box_new W3 _
  have hz4 : W4.heap[w.heap.size]? = some (.cells #[.bool false, .int .i64 0, .int .i64 0, .int .i64 0, .slice none 0 0, .slice none 0 0] 42) := by rw [hW4]; exact box_on hz3 (below_new _ _)
  have hlt : w.heap.size < W3.heap.size := box_lt hz3
  have k7 := hx2.c.c7
  have y7 := hx2.c.z 7
  have k4 := hx2.c.c4
  have y4 := hx2.c.z 4
  have f0 := hx3.c.c0
  have zf0 := hx3.c.z 0
  have f1 := hx3.c.c1
  have zf1 := hx3.c.z 1
  have f2 := hx3.c.c2
  have zf2 := hx3.c.z 2
  have f3 := hx3.c.c3
  have zf3 := hx3.c.z 3
  have f4 := hx3.c.c4
  have zf4 := hx3.c.z 4
  have f5 := hx3.c.c5
  have zf5 := hx3.c.z 5
  have f6 := hx3.c.c6
  have zf6 := hx3.c.z 6
  have f7 := hx3.c.c7
  have zf7 := hx3.c.z 7
  have f8 := hx3.c.c8
  have zf8 := hx3.c.z 8
  have g0 : W4.cell? ⟨w.heap.size, 0, none⟩ = some (.bool false) := by rw [Lib.cell_of_heap hz4]; rfl
  have zg0 := Lib.frozen_of_heap hz4 0
  have g1 : W4.cell? ⟨w.heap.size, 1, none⟩ = some (.int .i64 0) := by rw [Lib.cell_of_heap hz4]; rfl
  have zg1 := Lib.frozen_of_heap hz4 1
  have g2 : W4.cell? ⟨w.heap.size, 2, none⟩ = some (.int .i64 0) := by rw [Lib.cell_of_heap hz4]; rfl
  have zg2 := Lib.frozen_of_heap hz4 2
  have g3 : W4.cell? ⟨w.heap.size, 3, none⟩ = some (.int .i64 0) := by rw [Lib.cell_of_heap hz4]; rfl
  have zg3 := Lib.frozen_of_heap hz4 3
  have g4 : W4.cell? ⟨w.heap.size, 4, none⟩ = some (.slice none 0 0) := by rw [Lib.cell_of_heap hz4]; rfl
  have zg4 := Lib.frozen_of_heap hz4 4
  have g5 : W4.cell? ⟨w.heap.size, 5, none⟩ = some (.slice none 0 0) := by rw [Lib.cell_of_heap hz4]; rfl
  have zg5 := Lib.frozen_of_heap hz4 5
  have HX4 := Lib.hid hx4
  have HZ4 := Lib.hid hz4
  have HB4 := Lib.hid hb4
  have HLT := Lib.hid hlt
  rw [← hW2]
  clear hW2 hb2 hx2 hz2 hb3 hx3 hx3' hz3 hb4 hx4 hz4 hb1 hne hlo hlt
  go_upto_region 3 with fail
  rw [← hW3]
  clear hW3 k7 y7 k4 y4
  subst hW4
  go_wp2_with fail
  (try simp only [Exit.inBlock, Exit.then])
  refine bodyPost_ret (ret_out rfl _ _ w.heap.size _ _ _ _ _ _ rfl (cells6_set HZ4.out _ _ _ _ _ _)) rfl ?_
  have hat : PM.at ⟨⟨3, r.id, d, r.h.tm, i, 0, 0, y, []⟩, none, 0⟩ _ W3.heap.size := (kept_set6 _ w.heap.size (.bool false) (.int .i64 0) (.int .i64 0) (.int .i64 0) (.slice none 0 0) (.slice (some ⟨W3.heap.size, 0, none⟩) 1 1)).heap HX4.out (fun e => by have := HLT.out; omega)
  exact ⟨W3.heap.size, rfl, out_one hat (Nat.le_of_lt HLT.out) (Src.nil _ _), hat, Nat.le_of_lt HLT.out, below_set6 HB4.out (Nat.le_refl _) _ _ _ _ _ _⟩
end Go.Proofs.YtkmojcpiadpbaaaGreatDoor
