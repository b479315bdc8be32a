/-
  checkPut, Check: what an entry comes to; nothing that was there turns.
-/
import Derived.Test.YtmgpfkckafdbmaaICols
import Derived.Test.YtmgpfkckafdbmaaISmall
import Derived.Test.YtmgpfkckafdbmaaQPut
import Derived.Test.YtmgpfkckafdbmaaQFence
import Derived.Deep.RegionWith
namespace Go.Proofs.Ytmgpfkckafdbmaa
set_option maxRecDepth 100000
open Go Go.RowKit Vl

/-- An entry of the program is an entry of the model. -/
def toEn (K : List KP) (e : EE) (row : List V) : In.En := ⟨e.kd, e.pr, e.ep, e.sq, e.tm, In.shape (kns K) e.src.data.toList e.sc row⟩
structure EOk (w : World) (e : EE) (row : List V) : Prop where
  vals : RowV w (.slice e.ra e.rn e.rc) row
  rn : e.rn = row.length
  tm : I64 e.tm
theorem EOk.on {w w' : World} {e : EE} {row : List V} (h : EOk w e row) (hb : Below w.heap.size w w') : EOk w' e row := ⟨h.vals.on hb (Nat.le_refl _), h.rn, h.tm⟩
structure Kz (K : List KP) : Prop where
  n : K.length ≤ 1000
  cols : ∀ x ∈ K, x.cols.length ≤ 1000
theorem shape_none {K : List KP} {src : ByteArray} {sch : Int} {row : List V} (h : fstK K src sch = none) : In.shape (kns K) src.data.toList sch row = none := by
  unfold In.shape
  rw [fst_cols, h]
  rfl
theorem shape_some {K : List KP} {src : ByteArray} {sch : Int} {row : List V} {k : Nat} {x : KP} (h : fstK K src sch = some (k, x)) : In.shape (kns K) src.data.toList sch row = some (In.fits (x.cols.map CP.ty) row) := by
  unfold In.shape
  rw [fst_cols, h]
  rfl
theorem ret_look {L : Int × Int} {a b : Int} (h : L = (a, b)) : Ending.returned (.tuple #[.int .i64 a, .int .i64 b]) = .returned (.tuple #[.int .i64 L.1, .int .i64 L.2]) := by rw [h]
section
variable {G : Nat → Prop} {w : World} {b : Nat} {c : In.C} {p : IP} {s : In.St}
set_option maxHeartbeats 4000000 in
theorem checkPut_c (hI : IxAt G w b c p s) (hs : Sm c s) (hr : Pq.Right s.tab) (hk : Kz p.K) {e : EE} {row : List V} (he : EOk w e row) :
    Calls Try.prog 24 #[.pointer (some ⟨b, 0, none⟩), e.val] w fun r w' => r = .returned (.tuple #[.int .i64 (In.look c s (toEn p.K e row)).1, .int .i64 (In.look c s (toEn p.K e row)).2]) ∧ Below w.heap.size w w' := by
  obtain ⟨W1, hW1⟩ : ∃ W1, W1 = w.alloc e.obj := ⟨_, rfl⟩
  have hb1 : Below w.heap.size w W1 := by rw [hW1]; exact below_new w _
  have hx1 : W1.heap[w.heap.size]? = some e.obj := by rw [hW1]; exact box_new w _
  have HI1 := Lib.hid (hI.on hb1)
  have HS := Lib.hid hs
  have HE := Lib.hid he
  have HK := Lib.hid hk
  have HX1 := Lib.hid hx1
  have HB1 := Lib.hid hb1
  have QL := Lib.hid (look_c ((hI.on (below_drew hb1)).tb.any) (by rw [hI.tabs]; exact hr) e)
  rw [hI.tabs] at QL
  obtain ⟨at', hat⟩ : ∃ a, a = (Pq.look s.tab e.pr e.ep e.sq).1 := ⟨_, rfl⟩
  obtain ⟨z, hz⟩ : ∃ z, z = (Pq.look s.tab e.pr e.ep e.sq).2 := ⟨_, rfl⟩
  have HLK := Lib.hid (show Pq.look s.tab e.pr e.ep e.sq = (at', z) by rw [hat, hz])
  rw [HLK.out] at QL
  dsimp only at QL
  have ct := HI1.out.cells.c11
  have hec := EE.cells hx1
  have e0 := hec.c0
  have e1 := hec.c1
  have e2 := hec.c2
  have e3 := hec.c3
  have e4 := hec.c4
  have e5 := hec.c5
  have e6 := hec.c6
  have e7 := hec.c7
  obtain ⟨kd, pr, ep, sq, src, sc, tm, ra, rn, rc⟩ := e
  have HM := Lib.hid (show In.look c s (toEn p.K ⟨kd, pr, ep, sq, src, sc, tm, ra, rn, rc⟩ row) = _ from rfl)
  unfold EE.obj at hW1
  unfold EE.val at QL ⊢
  dsimp only at *
  clear hI hs hr hk he hb1 hx1 hat hz hec
  by_cases hzz : z ≠ 0
  · have HR := Lib.hid (show In.look c s (toEn p.K ⟨kd, pr, ep, sq, src, sc, tm, ra, rn, rc⟩ row) = (at', z) by
      unfold In.look
      rw [if_pos (show (Pq.look s.tab (toEn p.K ⟨kd, pr, ep, sq, src, sc, tm, ra, rn, rc⟩ row).pr (toEn p.K ⟨kd, pr, ep, sq, src, sc, tm, ra, rn, rc⟩ row).ep (toEn p.K ⟨kd, pr, ep, sq, src, sc, tm, ra, rn, rc⟩ row).sq).2 ≠ 0 by show (Pq.look s.tab pr ep sq).2 ≠ 0; rw [HLK.out]; exact hzz)]
      exact HLK.out)
    rw [HR.out]
    have hz1 : (z != 0) = true := by simpa using hzz
    clear hzz
    go_enter Try.func24, Try.ntmps24
    go_upto_region 1 with fail
    rw [← hW1]
    clear hW1
    go_region_with (go_at_call 30; refine QL.out.mono ?_; rintro r w2 ⟨rfl, hb2⟩; have HB2 := Lib.hid hb2; clear hb2)
    all_goals (go_wp2_with fail)
    all_goals go_ret2
    all_goals exact ⟨rfl, HB1.out.trans (((below_drew (Below.refl _ W1)).trans HB2.out).mono HB1.out.size)⟩
  · have hz0 : z = 0 := Decidable.not_not.1 hzz
    subst hz0
    have HLK0 := Lib.hid (show ¬ (Pq.look s.tab (toEn p.K ⟨kd, pr, ep, sq, src, sc, tm, ra, rn, rc⟩ row).pr (toEn p.K ⟨kd, pr, ep, sq, src, sc, tm, ra, rn, rc⟩ row).ep (toEn p.K ⟨kd, pr, ep, sq, src, sc, tm, ra, rn, rc⟩ row).sq).2 ≠ 0 by show ¬ (Pq.look s.tab pr ep sq).2 ≠ 0; rw [HLK.out]; exact hzz)
    have hz1 : ((0 : Int) != 0) = false := by decide
    clear hzz
    go_enter Try.func24, Try.ntmps24
    go_upto_region 1 with fail
    rw [← hW1]
    clear hW1
    go_cut [6, 7] (fun v6 v7 wx => ∃ w2, v7 = .int .i64 0 ∧ v6 = .int .i64 at' ∧ wx = w2 ∧ Hid (Below W1.heap.size W1 w2))
    case first =>
      go_region_with (go_at_call 30; refine QL.out.mono ?_; rintro r w2 ⟨rfl, hb2⟩; have HB2 := Lib.hid ((below_drew (Below.refl _ W1)).trans hb2); clear hb2)
      all_goals (go_wp2_with fail)
      all_goals go_meet
      all_goals exact ⟨w2, rfl, rfl, rfl, HB2⟩
    case rest =>
      obtain ⟨_, rfl, rfl, rfl, HB2⟩ := hcut
      obtain ⟨w2, hw2⟩ : ∃ w2, w2 = wc := ⟨wc, rfl⟩
      subst hw2
      have HI2 := Lib.hid (HI1.out.on HB2.out)
      have HX2 := Lib.hid (box_on HX1.out HB2.out)
      have HBW2 := Lib.hid (HB1.out.trans (HB2.out.mono HB1.out.size))
      clear e0 e1 e2 e3 e4 e5 e6 e7 ct
      have e4 := (EE.cells HX2.out).c4
      have e5 := (EE.cells HX2.out).c5
      dsimp only at e4 e5
      have QC := Lib.hid (columns_c HI2.out HK.out.n src sc)
      have QT := Lib.hid (fun W => timely_c W tm)
      by_cases hT : Pq.inB tm
      · have HT := Lib.hid (decide_eq_true hT)
        have HTT := Lib.hid hT
        clear hT
        cases hF : fstK p.K src sc with
        | none =>
          have HR := Lib.hid (show In.look c s (toEn p.K ⟨kd, pr, ep, sq, src, sc, tm, ra, rn, rc⟩ row) = (0, 17) by
            unfold In.look
            rw [if_neg HLK0.out, if_neg (fun f => f HTT.out), if_pos (show (toEn p.K ⟨kd, pr, ep, sq, src, sc, tm, ra, rn, rc⟩ row).sh = none from shape_none hF)])
          have QC2 := Lib.hid (QC.out.mono (R' := fun e w' => e = .returned (.tuple #[.slice none 0 0, .bool false]) ∧ Below w2.heap.size w2 w') (fun e w' hh => by
            rcases hh.1 with ⟨_, h2⟩ | ⟨k, x, h1, _⟩
            · exact ⟨h2, hh.2⟩
            · rw [hF] at h1
              cases h1))
          clear hF
          go_upto_region 5 with (go_at_call 31; refine QC2.out.mono ?_; rintro r w3 ⟨rfl, hb3⟩; have HB3 := Lib.hid hb3; clear hb3)
          have e6 := (EE.cells (box_on HX2.out HB3.out)).c6
          dsimp only at e6
          go_wp2_with (go_at_call 32; refine (QT.out _).mono ?_; rintro r w4 ⟨rfl, hw⟩; rw [hw, HT.out]; clear hw)
          go_ret2
          exact ⟨ret_look HR.out, HBW2.out.trans (HB3.out.mono HBW2.out.size)⟩
        | some y =>
          obtain ⟨k, x⟩ := y
          have QC2 := Lib.hid (QC.out.mono (R' := fun e w' => e = .returned (.tuple #[.slice x.a x.cols.length x.c, .bool true]) ∧ Hid (x.ok G w') ∧ Below w2.heap.size w2 w') (fun e w' hh => by
            rcases hh.1 with ⟨h1, _⟩ | ⟨k', x', h1, h2, h3⟩
            · rw [hF] at h1; cases h1
            · rw [hF] at h1
              injection h1 with h1
              injection h1 with _ h1
              subst h1
              exact ⟨h2, Lib.hid h3, hh.2⟩))
          have hcl := HK.out.cols x (List.mem_of_getElem? (fst_get hF))
          have HSH := Lib.hid (show (toEn p.K ⟨kd, pr, ep, sq, src, sc, tm, ra, rn, rc⟩ row).sh = some (In.fits (x.cols.map CP.ty) row) from shape_some hF)
          clear hF
          go_upto_region 5 with (go_at_call 31; refine QC2.out.mono ?_; rintro r w3 ⟨rfl, HOK, hb3⟩; have HB3 := Lib.hid hb3; clear hb3)
          have HI3 := Lib.hid (HI2.out.on HB3.out)
          have HX3 := Lib.hid (box_on HX2.out HB3.out)
          have HBW3 := Lib.hid (HBW2.out.trans (HB3.out.mono HBW2.out.size))
          clear e4 e5
          have e6 := (EE.cells HX3.out).c6
          have e7 := (EE.cells HX3.out).c7
          dsimp only at e6 e7
          have QF := fits_c (show RowV w3 (.slice ra row.length rc) row by have := HE.out.vals; have q := HE.out.rn; dsimp only at this q; rw [q] at this; exact this.on HBW3.out (Nat.le_refl _)) HOK.out hcl
          rw [show row.length = rn from HE.out.rn.symm] at QF
          have QF := Lib.hid QF
          cases hft : In.fits (x.cols.map CP.ty) row with
          | false =>
            have HFT := Lib.hid hft
            have HR := Lib.hid (show In.look c s (toEn p.K ⟨kd, pr, ep, sq, src, sc, tm, ra, rn, rc⟩ row) = (0, 16) by
              unfold In.look
              rw [if_neg HLK0.out, if_neg (fun f => f HTT.out), HSH.out, hft, if_neg (by intro f; cases f), if_pos rfl])
            clear hft
            go_wp2_with (first | (go_at_call 32; refine (QT.out _).mono ?_; rintro r w4 ⟨rfl, hw⟩; rw [hw, HT.out]; clear hw) | (go_at_call 33; refine QF.out.mono ?_; rintro r w4 ⟨rfl, hb4⟩; rw [HFT.out]))
            go_ret2
            exact ⟨ret_look HR.out, HBW3.out.trans (hb4.mono HBW3.out.size)⟩
          | true =>
            have HFT := Lib.hid hft
            have HSH2 := Lib.hid (show ¬ (toEn p.K ⟨kd, pr, ep, sq, src, sc, tm, ra, rn, rc⟩ row).sh = none ∧ ¬ (toEn p.K ⟨kd, pr, ep, sq, src, sc, tm, ra, rn, rc⟩ row).sh = some false by rw [HSH.out, hft]; exact ⟨fun f => (by cases f), fun f => (by cases f)⟩)
            clear hft
            go_upto_region 11 with (first | (go_at_call 32; refine (QT.out _).mono ?_; rintro r w4 ⟨rfl, hw⟩; rw [hw, HT.out]; clear hw) | (go_at_call 33; refine QF.out.mono ?_; rintro r w4 ⟨rfl, hb4⟩; rw [HFT.out]; have HB4 := Lib.hid hb4; clear hb4))
            have HI4 := Lib.hid (HI3.out.on HB4.out)
            have HBW4 := Lib.hid (HBW3.out.trans (HB4.out.mono HBW3.out.size))
            have HX4 := Lib.hid (box_on HX3.out HB4.out)
            clear e6 e7
            have e6 := (EE.cells HX4.out).c6
            dsimp only at e6
            have Q1 := Lib.hid (fun n => closed_cI (HI4.out.drewN n) HS.out)
            obtain ⟨K0, hK0⟩ : ∃ K, K = In.closed c s := ⟨_, rfl⟩
            have HK0 := Lib.hid hK0
            rw [← hK0] at Q1
            clear hK0
            by_cases hl : tm ≤ K0
            · have HR := Lib.hid (show In.look c s (toEn p.K ⟨kd, pr, ep, sq, src, sc, tm, ra, rn, rc⟩ row) = (0, 20) by
                unfold In.look
                rw [if_neg HLK0.out, if_neg (fun f => f HTT.out), if_neg HSH2.out.1, if_neg HSH2.out.2, if_pos (show (toEn p.K ⟨kd, pr, ep, sq, src, sc, tm, ra, rn, rc⟩ row).tm ≤ In.closed c s by rw [← HK0.out]; exact hl)])
              go_quiet ((go_at_call 10; exact Calls.quiet_of (Q1.out _)))
              go_wp2_with fail
              go_ret2
              exact ⟨ret_look HR.out, HBW4.out.trans ((drew_below _ nq).mono HBW4.out.size)⟩
            · have HL := Lib.hid (show ¬ (toEn p.K ⟨kd, pr, ep, sq, src, sc, tm, ra, rn, rc⟩ row).tm ≤ In.closed c s by rw [← HK0.out]; exact hl)
              go_quiet ((go_at_call 10; exact Calls.quiet_of (Q1.out _)))
              obtain ⟨w5, hw5⟩ : ∃ w5, w5 = w4.drewN nq := ⟨_, rfl⟩
              have HB5 := Lib.hid (show Below w4.heap.size w4 w5 by rw [hw5]; exact drew_below _ nq)
              rw [← hw5]
              clear hw5
              have HI5 := Lib.hid (HI4.out.on HB5.out)
              have HBW5 := Lib.hid (HBW4.out.trans (HB5.out.mono HBW4.out.size))
              have HX5 := Lib.hid (box_on HX4.out HB5.out)
              clear e6
              have e6 := (EE.cells HX5.out).c6
              dsimp only at e6
              have Q2 := Lib.hid (ahead_c HI5.out HS.out tm)
              by_cases ha : s.now + c.ahead < tm
              · have HA := Lib.hid (decide_eq_true ha)
                have HR := Lib.hid (show In.look c s (toEn p.K ⟨kd, pr, ep, sq, src, sc, tm, ra, rn, rc⟩ row) = (0, 21) by
                  unfold In.look
                  rw [if_neg HLK0.out, if_neg (fun f => f HTT.out), if_neg HSH2.out.1, if_neg HSH2.out.2, if_neg (show ¬ (toEn p.K ⟨kd, pr, ep, sq, src, sc, tm, ra, rn, rc⟩ row).tm ≤ In.closed c s from by have := HL.out; omega), if_pos (show s.now + c.ahead < (toEn p.K ⟨kd, pr, ep, sq, src, sc, tm, ra, rn, rc⟩ row).tm from ha)])
                clear ha
                go_wp2_with (go_at_call 34; refine Q2.out.mono ?_; rintro r w6 ⟨rfl, m, hw6⟩; rw [HA.out]; have HB6 := Lib.hid (show Below w5.heap.size w5 w6 by rw [hw6]; exact drew_below _ m); clear hw6)
                go_ret2
                exact ⟨ret_look HR.out, HBW5.out.trans (HB6.out.mono HBW5.out.size)⟩
              · have HA := Lib.hid (decide_eq_false ha)
                have HAA := Lib.hid ha
                clear ha
                go_upto_region 15 with (go_at_call 34; refine Q2.out.mono ?_; rintro r w6 ⟨rfl, m, hw6⟩; rw [HA.out]; have HB6 := Lib.hid (show Below w5.heap.size w5 w6 by rw [hw6]; exact drew_below _ m); clear hw6)
                have HI6 := Lib.hid (HI5.out.on HB6.out)
                have HBW6 := Lib.hid (HBW5.out.trans (HB6.out.mono HBW5.out.size))
                clear e6
                have e6 := (EE.cells (box_on HX5.out HB6.out)).c6
                dsimp only at e6
                have c4 := HI6.out.cells.c4
                have c9 := HI6.out.cells.c9
                have Q3 := Lib.hid (fun n => count_cI (HI6.out.drewN n) HE.out.tm)
                dsimp only at Q3
                by_cases hrt : c.rate ≤ In.cnt s.cs tm
                · have HR := Lib.hid (show In.look c s (toEn p.K ⟨kd, pr, ep, sq, src, sc, tm, ra, rn, rc⟩ row) = (0, 22) by
                    unfold In.look
                    rw [if_neg HLK0.out, if_neg (fun f => f HTT.out), if_neg HSH2.out.1, if_neg HSH2.out.2, if_neg (show ¬ (toEn p.K ⟨kd, pr, ep, sq, src, sc, tm, ra, rn, rc⟩ row).tm ≤ In.closed c s from by have := HL.out; omega), if_neg (show ¬ s.now + c.ahead < (toEn p.K ⟨kd, pr, ep, sq, src, sc, tm, ra, rn, rc⟩ row).tm from (show ¬ s.now + c.ahead < tm by have := HAA.out; omega)), if_pos (show c.rate ≤ In.cnt s.cs (toEn p.K ⟨kd, pr, ep, sq, src, sc, tm, ra, rn, rc⟩ row).tm from hrt)])
                  go_quiet ((go_at_call 15; exact Calls.quiet_of_same (Q3.out _)))
                  go_wp2_with fail
                  go_ret2
                  exact ⟨ret_look HR.out, HBW6.out.trans ((drew_below _ nq).mono HBW6.out.size)⟩
                · have HR := Lib.hid (show In.look c s (toEn p.K ⟨kd, pr, ep, sq, src, sc, tm, ra, rn, rc⟩ row) = (s.next, 0) by
                    unfold In.look
                    rw [if_neg HLK0.out, if_neg (fun f => f HTT.out), if_neg HSH2.out.1, if_neg HSH2.out.2, if_neg (show ¬ (toEn p.K ⟨kd, pr, ep, sq, src, sc, tm, ra, rn, rc⟩ row).tm ≤ In.closed c s from by have := HL.out; omega), if_neg (show ¬ s.now + c.ahead < (toEn p.K ⟨kd, pr, ep, sq, src, sc, tm, ra, rn, rc⟩ row).tm from (show ¬ s.now + c.ahead < tm by have := HAA.out; omega)), if_neg (show ¬ c.rate ≤ In.cnt s.cs (toEn p.K ⟨kd, pr, ep, sq, src, sc, tm, ra, rn, rc⟩ row).tm from hrt)])
                  go_quiet ((go_at_call 15; exact Calls.quiet_of_same (Q3.out _)))
                  go_wp2_with fail
                  go_ret2
                  exact ⟨ret_look HR.out, HBW6.out.trans ((drew_below _ nq).mono HBW6.out.size)⟩
      · have HT := Lib.hid (decide_eq_false hT)
        have HR := Lib.hid (show In.look c s (toEn p.K ⟨kd, pr, ep, sq, src, sc, tm, ra, rn, rc⟩ row) = (0, 3) by
          unfold In.look
          rw [if_neg HLK0.out, if_pos (show ¬ Pq.inB (toEn p.K ⟨kd, pr, ep, sq, src, sc, tm, ra, rn, rc⟩ row).tm from hT)])
        clear hT
        have QC2 := Lib.hid (QC.out.mono (R' := fun e w' => ∃ v f, e = .returned (.tuple #[v, .bool f]) ∧ Below w2.heap.size w2 w') (fun e w' hh => by
          rcases hh.1 with ⟨_, h2⟩ | ⟨k, x, _, h2, _⟩
          · exact ⟨_, _, h2, hh.2⟩
          · exact ⟨_, _, h2, hh.2⟩))
        go_upto_region 5 with (go_at_call 31; refine QC2.out.mono ?_; rintro r w3 ⟨v, f, rfl, hb3⟩; have HB3 := Lib.hid hb3; clear hb3)
        have e6 := (EE.cells (box_on HX2.out HB3.out)).c6
        dsimp only at e6
        go_wp2_with (go_at_call 32; refine (QT.out _).mono ?_; rintro r w4 ⟨rfl, hw⟩; rw [hw, HT.out]; clear hw)
        go_ret2
        exact ⟨ret_look HR.out, HBW2.out.trans (HB3.out.mono HBW2.out.size)⟩
/-- What Check returns. -/
theorem apply_kind0 (c : In.C) (s : In.St) (e : In.En) (h : e.kd = 0) : (In.apply c s e).2 = In.look c s e := In.put_ok h
theorem apply_kind1 (c : In.C) (s : In.St) (e : In.En) (h : e.kd = 1) : In.apply c s e = match Pq.fence s.tab e.pr with
    | (some (t, ep), z) => ({ s with tab := t }, (ep, z))
    | (none, z) => (s, (0, z)) := by
  unfold In.apply
  rw [if_neg (by omega), if_pos h]
  rfl
theorem apply_kind2 (c : In.C) (s : In.St) (e : In.En) (h : e.kd = 2) : In.apply c s e = if ¬ Pq.inB e.tm then (s, (0, 3)) else if s.now + c.ahead < e.tm then (s, (0, 21)) else (In.raise c s e.tm, (0, 0)) := by
  unfold In.apply
  rw [if_neg (by omega), if_neg (by omega), if_pos h]
theorem apply_kind3 (c : In.C) (s : In.St) (e : In.En) (h : e.kd = 3) : In.apply c s e = if ¬ Pq.inB e.tm then (s, (0, 3)) else ({ s with now := max s.now e.tm }, (0, 0)) := by
  unfold In.apply
  rw [if_neg (by omega), if_neg (by omega), if_neg (by omega), if_pos h]
theorem apply_other (c : In.C) (s : In.St) (e : In.En) (h0 : e.kd ≠ 0) (h1 : e.kd ≠ 1) (h2 : e.kd ≠ 2) (h3 : e.kd ≠ 3) : In.apply c s e = (s, (0, 1)) := by
  unfold In.apply
  rw [if_neg h0, if_neg h1, if_neg h2, if_neg h3]
theorem ret_app {L : In.St × (Int × Int)} {a b : Int} (h : L.2 = (a, b)) : Ending.returned (.tuple #[.int .i64 a, .int .i64 b]) = .returned (.tuple #[.int .i64 L.2.1, .int .i64 L.2.2]) := by rw [h]
set_option maxHeartbeats 4000000 in
theorem check_c (hI : IxAt G w b c p s) (hs : Sm c s) (hr : Pq.Right s.tab) (hk : Kz p.K) {e : EE} {row : List V} (he : EOk w e row) :
    Calls Try.prog 20 #[.pointer (some ⟨b, 0, none⟩), e.val] w fun r w' => r = .returned (.tuple #[.int .i64 (In.apply c s (toEn p.K e row)).2.1, .int .i64 (In.apply c s (toEn p.K e row)).2.2]) ∧ Below w.heap.size w w' := by
  obtain ⟨W1, hW1⟩ : ∃ W1, W1 = w.alloc e.obj := ⟨_, rfl⟩
  have hb1 : Below w.heap.size w W1 := by rw [hW1]; exact below_new w _
  have hx1 : W1.heap[w.heap.size]? = some e.obj := by rw [hW1]; exact box_new w _
  have HI1 := Lib.hid (hI.on hb1)
  have HB1 := Lib.hid hb1
  have HS := Lib.hid hs
  have QP := Lib.hid (checkPut_c (hI.on hb1) hs hr hk (he.on hb1))
  have QF := Lib.hid (fence_c ((hI.on (below_drew hb1)).tb.any) (by rw [hI.tabs]; exact hr) e.pr)
  rw [hI.tabs] at QF
  have QI := Lib.hid (checkIdle_c (hI.on hb1) hs e.tm)
  have QT := Lib.hid (checkTime_c W1 e.tm)
  have ct := HI1.out.cells.c11
  have hec := EE.cells hx1
  have e0 := hec.c0
  have e1 := hec.c1
  have e2 := hec.c2
  have e3 := hec.c3
  have e4 := hec.c4
  have e5 := hec.c5
  have e6 := hec.c6
  have e7 := hec.c7
  obtain ⟨kd, pr, ep, sq, src, sc, tm, ra, rn, rc⟩ := e
  unfold EE.obj at hW1
  unfold EE.val at QP ⊢
  dsimp only at *
  obtain ⟨zi, hzi⟩ : ∃ z : Int, z = if ¬ Pq.inB tm then 3 else if s.now + c.ahead < tm then 21 else 0 := ⟨_, rfl⟩
  have HZI := Lib.hid hzi
  rw [← hzi] at QI
  obtain ⟨zt, hzt⟩ : ∃ z : Int, z = if Pq.inB tm then 0 else 3 := ⟨_, rfl⟩
  have HZT := Lib.hid hzt
  rw [← hzt] at QT
  clear hzi hzt
  obtain ⟨en, hen⟩ : ∃ en, en = toEn p.K ⟨kd, pr, ep, sq, src, sc, tm, ra, rn, rc⟩ row := ⟨_, rfl⟩
  have HKD := Lib.hid (show en.kd = kd by rw [hen]; rfl)
  have HPR := Lib.hid (show en.pr = pr by rw [hen]; rfl)
  have HTM := Lib.hid (show en.tm = tm by rw [hen]; rfl)
  rw [← hen] at QP ⊢
  clear hI hs hr hk he hb1 hx1 hec hen
  by_cases k0 : kd = 0
  · subst k0
    have HR := Lib.hid (apply_kind0 c s en HKD.out)
    go_enter Try.func20, Try.ntmps20
    go_upto_region 1 with fail
    rw [← hW1]
    clear hW1
    go_wp2_with (go_at_call 24; refine QP.out.mono ?_; rintro r w2 ⟨rfl, hb2⟩)
    go_ret2
    exact ⟨ret_app HR.out, HB1.out.trans (hb2.mono HB1.out.size)⟩
  · by_cases k1 : kd = 1
    · subst k1
      have HR := Lib.hid (apply_kind1 c s en HKD.out)
      clear k0
      go_enter Try.func20, Try.ntmps20
      go_upto_region 1 with fail
      rw [← hW1]
      clear hW1
      go_upto_region 5 with fail
      go_region_with (go_at_call 25; refine QF.out.mono ?_; rintro r w2 ⟨⟨fa, fc, fl, fe, fz, rfl, ft, hf⟩, hb2⟩; have HF := Lib.hid hf; have HB2 := Lib.hid ((below_drew (Below.refl _ W1)).trans hb2); clear hb2 hf ft)
      all_goals (go_wp2_with fail)
      all_goals go_ret2
      all_goals
        refine ⟨ret_app ?_, HB1.out.trans (HB2.out.mono HB1.out.size)⟩
        rw [HR.out, HPR.out]
        rcases HF.out with ⟨g1, _, g2, _⟩ | ⟨g1, _⟩
        · rw [g1, g2]
        · rw [g1]
    · by_cases k2 : kd = 2
      · subst k2
        have HR := Lib.hid (apply_kind2 c s en HKD.out)
        clear k0 k1
        go_enter Try.func20, Try.ntmps20
        go_upto_region 1 with fail
        rw [← hW1]
        clear hW1
        go_wp2_with (go_at_call 26; refine QI.out.mono ?_; rintro r w2 ⟨rfl, m, hw2⟩; have HB2 := Lib.hid (show Below W1.heap.size W1 w2 by rw [hw2]; exact drew_below _ m); clear hw2)
        go_ret2
        refine ⟨ret_app ?_, HB1.out.trans (HB2.out.mono HB1.out.size)⟩
        rw [HR.out, HTM.out, HZI.out]
        by_cases q1 : ¬ Pq.inB tm
        · rw [if_pos q1, if_pos q1]
        · rw [if_neg q1, if_neg q1]
          by_cases q2 : s.now + c.ahead < tm
          · rw [if_pos q2, if_pos q2]
          · rw [if_neg q2, if_neg q2]
      · by_cases k3 : kd = 3
        · subst k3
          have HR := Lib.hid (apply_kind3 c s en HKD.out)
          clear k0 k1 k2
          go_enter Try.func20, Try.ntmps20
          go_upto_region 1 with fail
          rw [← hW1]
          clear hW1
          go_wp2_with (go_at_call 27; refine QT.out.mono ?_; rintro r w2 ⟨rfl, hw⟩; rw [hw]; clear hw)
          go_ret2
          refine ⟨ret_app ?_, HB1.out⟩
          rw [HR.out, HTM.out, HZT.out]
          by_cases q : Pq.inB tm
          · rw [if_neg (fun f => f q), if_pos q]
          · rw [if_pos q, if_neg q]
        · have HR := Lib.hid (apply_other c s en (by rw [HKD.out]; exact k0) (by rw [HKD.out]; exact k1) (by rw [HKD.out]; exact k2) (by rw [HKD.out]; exact k3))
          have b0 : (kd == 0) = false := by simpa using k0
          have b1 : (kd == 1) = false := by simpa using k1
          have b2 : (kd == 2) = false := by simpa using k2
          have b3 : (kd == 3) = false := by simpa using k3
          clear k0 k1 k2 k3
          go_enter Try.func20, Try.ntmps20
          go_upto_region 1 with fail
          rw [← hW1]
          clear hW1
          go_wp2_with fail
          go_ret2
          exact ⟨ret_app (by rw [HR.out]), HB1.out⟩
end
end Go.Proofs.Ytmgpfkckafdbmaa
