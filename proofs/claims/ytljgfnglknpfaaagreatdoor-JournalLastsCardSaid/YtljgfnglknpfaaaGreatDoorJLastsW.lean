/-
  JournalLasts: the walk.
-/
import Derived.Test.YtljgfnglknpfaaaGreatDoorJLasts
import Derived.Lib.MinMax
namespace Go.Proofs.YtljgfnglknpfaaaGreatDoor
set_option maxRecDepth 100000
open Go Go.RowKit Go.Sort Dk

set_option maxHeartbeats 1000000 in
theorem jlasts_out (v : Value) (l : List Op6) (a1 : Option Addr) (n1 c1 : Nat) (w : World) (h : OpsIn6 w v l) (hn1 : n1 ≤ 9223372036854775807) (ht : Tab w) (hg : Good w) (he : ¬ (few6 l = true ∧ n1 ≤ 50)) :
    Calls Tryz.prog 3 #[v, .slice a1 n1 c1] w fun e w' => e = .returned (.bool true) ∧ RowKit.Below w.heap.size w w' := by
  have h0 := h
  obtain ⟨_, va, vc, rfl, _⟩ := h0
  have H := Lib.hid h
  clear h
  go_enter Tryz.func3, Tryz.ntmps3
  go_wp2_with fail
  refine (jsmall_c w ht hg).mono ?_
  rintro e w1 ⟨rfl, hb1⟩
  have Q1 := Lib.hid (few6_c _ l w1 (H.out.on hb1))
  have HB := Lib.hid hb1
  clear hb1
  cases hf : few6 l with
  | false =>
    rw [hf] at Q1
    clear he hf
    go_wp2_with (go_at_call 7; refine Q1.out.mono ?_; rintro e w2 ⟨rfl, hw⟩; rw [hw]; clear hw)
    go_ret
    exact ⟨rfl, HB.out⟩
  | true =>
    rw [hf] at Q1
    by_cases h1 : 50 < n1
    · have h1' : (50 : Int) < (n1 : Int) := by omega
      clear he hf h1
      go_wp2_with (go_at_call 7; refine Q1.out.mono ?_; rintro e w2 ⟨rfl, hw⟩; rw [hw]; clear hw)
      go_ret
      exact ⟨rfl, HB.out⟩
    · exact absurd ⟨hf, by omega⟩ he

set_option maxHeartbeats 8000000 in
theorem jlasts_in (v : Value) (l : List Op6) (keep : List Int) (a1 : Option Addr) (c1 : Nat) (w : World) (h : OpsIn6 w v l) (ht : Tab w) (hg : Good w) (hf : few6 l = true) (h1 : keep.length ≤ 50) (hk1 : KeepIn w (.slice a1 keep.length c1) keep) :
    Calls Tryz.prog 3 #[v, .slice a1 keep.length c1] w fun e w' => e = .returned (.bool true) ∧ RowKit.Below w.heap.size w w' := by
  have h0 := h
  obtain ⟨hM, va, vc, rfl, hmc⟩ := h0
  obtain ⟨hl25, hfm⟩ := few6_out hf
  have H := Lib.hid h
  have MC := Lib.hid hmc
  have FM := Lib.hid hfm
  have K1 := Lib.hid hk1
  have T := Lib.hid ht
  have G := Lib.hid hg
  have h1' : ¬ (50 : Int) < (keep.length : Int) := by omega
  clear h hmc hfm hk1 ht hg
  go_enter Tryz.func3, Tryz.ntmps3
  go_wp2_with fail
  refine (jsmall_c w T.out G.out).mono ?_
  rintro e w1 ⟨rfl, hb1⟩
  have q1 := few6_c _ l w1 (H.out.on hb1)
  rw [hf] at q1
  have Q1 := Lib.hid q1
  have QN := Lib.hid (dd_new hb1)
  clear hb1 q1 hf
  go_wp2_with (first | (go_at_call 7; refine Q1.out.mono ?_; rintro e w2 ⟨rfl, hw⟩; rw [hw]; clear hw) | (go_at_call 8; refine QN.out.mono ?_; rintro e w2 ⟨d, rfl, g2⟩))
  refine (pl_open T.out G.out g2.out.toDF (f := 3) (by omega)).mono ?_
  rintro e w3 ⟨b0, rfl, g3⟩
  obtain ⟨X0, j0, hJ0, hP0⟩ := g3.out.1
  have G3 := Lib.hid (show LH w w3 d (.pointer (some ⟨b0, 0, none⟩)) (.slice none 0 0) (.slice none 0 0) [] [] false from
    ⟨⟨X0, Or.inr ⟨b0, j0, rfl, hJ0.fewer (fun i e => by rcases e with e | e <;> cases e), .some _ (hP0.st.mono (fun m hm => Or.inl hm) (fun _ m hm => by
      rw [hP0.list]
      rcases hm with hm | ⟨hm, _⟩
      · exact hm
      · cases hm)) hP0.list (fun e => by cases e)⟩⟩, Own6.nil _ _, Own6.nil _ _, by decide, by decide⟩)
  clear g2 g3 hJ0 hP0 Q1 QN
  obtain ⟨L, hL⟩ : ∃ L, L = l.length := ⟨_, rfl⟩
  rw [← hL] at hM hl25 ⊢
  have HL := Lib.hid hL
  clear hL
  go_wp2_with fail
  go_loopw [7, 9, 10, 11, 12] (fun v7 v9 v10 v11 v12 wr => ∃ (k : Nat) (S M : List (List UInt8)) (fl : Bool), k ≤ L + 1 ∧ v12 = .int .i64 (k : Int) ∧ v11 = .bool fl ∧ Hid (LH w wr d v7 v9 v10 S M fl)) (fun _ _ _ _ v12 _ => L + 1 - (intOf v12).toNat)
  case atStart => exact ⟨0, [], [], false, by omega, rfl, rfl, G3⟩
  case round =>
    obtain ⟨k, S, M, fl, hk, rfl, rfl, HJ⟩ := hrel
    clear G3
    obtain ⟨sa, sc, rfl, _⟩ := own_shape (own_base HJ.out.s)
    obtain ⟨ma, mc, rfl, _⟩ := own_shape (own_base HJ.out.m)
    have hSl := (Jn.form_len S).1
    have hSf := HJ.out.ls
    have hMl := HJ.out.lm
    have hSn : S.length ≤ 1048576 := by omega
    clear hSl
    by_cases hkL : k ≤ L
    · have hkL' : (k : Int) ≤ (L : Int) := by omega
      by_cases hkl : k < L
      · have hkl' : (k : Int) < (L : Int) := by omega
        obtain ⟨x, hx⟩ : ∃ x, l[k]? = some x := ⟨l[k]'(by have := HL.out; omega), List.getElem?_eq_getElem _⟩
        obtain ⟨g, off, lv, kv, rfl, hrow0⟩ := MC.out k x hx
        obtain ⟨hfx1, hfx2⟩ := FM.out x (List.mem_of_getElem? hx)
        obtain ⟨hx8, hx200⟩ := textsM_out hfx1
        have hb := HJ.out.base
        have hrow : OpRow wr g (off + k * 4) x lv kv := hrow0.on hb
        have r0 := hrow.c0
        have r1 := hrow.c1
        have r2 := hrow.c2
        have r3 := hrow.c3
        have hkp : KeepIn w kv x.keep := ⟨hrow0.ks, by omega, hrow0.fit.keepIn⟩
        have hls := hrow0.ls
        have hls0 := hrow0.ls
        obtain ⟨la, lc, rfl, _⟩ := hls0
        obtain ⟨ka, kc, rfl, _⟩ := hrow0.ks
        have hn := hrow0.fit.n
        have LS := Lib.hid hls
        have KP := Lib.hid hkp
        have X2 := Lib.hid hx200
        have gl : g < wr.heap.size := Lib.lt_of_cell r0
        obtain ⟨kd, hkd⟩ : ∃ kd, kd = x.kind := ⟨_, rfl⟩
        rw [← hkd] at r0
        clear hrow0 hrow hls hkp hx200 hx hfx1 hkd hb
        go_upto_region 21 with fail
        -- ROUNDS
        obtain ⟨W1, hW1⟩ : ∃ W1, wr.alloc (.cells #[.int .i64 kd, .slice la x.l.length lc, .int .i64 x.n, .slice ka x.keep.length kc] 34) = W1 := ⟨_, rfl⟩
        obtain ⟨OB, hOB0⟩ : ∃ OB, OB = wr.heap.size := ⟨_, rfl⟩
        have HOB := Lib.hid hOB0
        have HW1 := Lib.hid hW1
        have ocell : ∀ o, W1.cell? ⟨OB, o, none⟩ = (#[Value.int .i64 kd, .slice la x.l.length lc, .int .i64 x.n, .slice ka x.keep.length kc] : Array Value)[o]? := fun o => by rw [← hW1, hOB0]; exact Lib.cell_of_heap (heap_alloc_new wr _) o
        have o0 : W1.cell? ⟨OB, 0, none⟩ = some (.int .i64 kd) := ocell 0
        have o1 : W1.cell? ⟨OB, 1, none⟩ = some (.slice la x.l.length lc) := ocell 1
        have o2 : W1.cell? ⟨OB, 2, none⟩ = some (.int .i64 x.n) := ocell 2
        have o3 : W1.cell? ⟨OB, 3, none⟩ = some (.slice ka x.keep.length kc) := ocell 3
        rw [hW1, ← hOB0]
        obtain ⟨X, hjv⟩ := HJ.out.ex
        by_cases e0 : kd = 0
        · subst e0
          as_aux_lemma =>
            rcases hjv with ⟨rfl, hDF, hRnd⟩ | ⟨b, j, rfl, hJF, hRnd⟩
            · have HY := Lib.hid (show LY w W1 d X (.slice sa S.length sc) (.slice ma M.length mc) (.slice none 0 0) S M [] OB (#[.int .i64 0, .slice la x.l.length lc, .int .i64 x.n, .slice ka x.keep.length kc]) by rw [← hW1, hOB0]; exact ly_made hDF HJ.out.s HJ.out.m _)
              have HR := Lib.hid hRnd
              clear hDF hRnd hW1 hOB0 ocell r0 r1 r2 r3 gl
              go_wp2_with fail
              go_roundw
              case rel => exact ⟨k + 1, S, M, fl, by omega, by go_num, rfl, Lib.hid (HY.out.head HR.out hSf hMl)⟩
              case measure => simp [intOf]; omega
            · have HX := Lib.hid (show LX w W1 d b X j (.slice sa S.length sc) (.slice ma M.length mc) (.slice none 0 0) S M [] OB (#[.int .i64 0, .slice la x.l.length lc, .int .i64 x.n, .slice ka x.keep.length kc]) by rw [← hW1, hOB0]; exact lx_made hJF HJ.out.s HJ.out.m _)
              have HR := Lib.hid hRnd
              clear hJF hRnd hW1 hOB0 ocell r0 r1 r2 r3 gl
              have hX := HX.out

              have hbd : RowKit.Below W1.heap.size W1 W1.drew := ⟨rfl, rfl, rfl, Nat.le_refl _, fun _ _ => rfl⟩
              obtain ⟨na, nc, w2, hr1, ho1, hb1⟩ := fresh6 W1.drew (s := S) rfl ((SrcV.own (own_base hX.2.s)).on (hbd.alloc (Nat.le_refl _) _)) hSn
              have hb1' : RowKit.Below W1.heap.size W1 w2 := hbd.trans hb1
              obtain ⟨na', nc', Mn, w3, hMn, hr2, ho2, hb2⟩ := grow6 W1.drew w2 rfl ho1 hb1 (LS.out.on (hX.base.trans (hb1'.mono hX.base.size))) (by omega)
              have hr1' : (Builtin.append_ #[32, 32] 32 #[.slice (some ⟨W1.heap.size, 0, none⟩) 0 0, .slice sa S.length sc]).run Tryz.prog ((W1.alloc (.cells #[] 9)).drew) = .ok (.slice na S.length nc) w2 := hr1
              have HR1 := Lib.hid hr1'
              have HR2 := Lib.hid hr2
              obtain ⟨N0, hN0⟩ : ∃ N0, N0 = S ++ x.l := ⟨_, rfl⟩
              have hNl : Mn = N0.length := by rw [hN0, List.length_append]; exact hMn
              have hN9 : N0.length ≤ 1048584 := by rw [← hNl]; omega
              rw [← hN0] at ho2
              subst hNl
              have hXd : LX w W1.drew d b X j (.slice sa S.length sc) (.slice ma M.length mc) (.slice none 0 0) S M [] OB #[.int .i64 0, .slice la x.l.length lc, .int .i64 x.n, .slice ka x.keep.length kc] := hX.below ⟨rfl, rfl, rfl, Nat.le_refl _, fun _ _ => rfl⟩
              have H3 := Lib.hid (hXd.next (w' := w3) (nv' := .slice na' N0.length nc') (N' := N0) hb2 ho2)
              have o1w2 : w2.cell? ⟨OB, 1, none⟩ = some (.slice la x.l.length lc) := (Kept.below (S := fun _ => False) hb1).cell (hXd.2.cell 1) (fun e => e)
              have hOB : OB < W1.heap.size := Lib.lt_of_cell o0
              have HN := Lib.hid hN0
              clear hN0 hMn ho1 ho2 hb1 hb2 hXd hb1' hbd hr1 hr1' hr2
              go_upto_region 25 with fail
              go_cut [14] (fun t14 wx => t14 = .slice na' N0.length nc' ∧ Hid (LX w wx d b X j (.slice sa S.length sc) (.slice ma M.length mc) (.slice na' N0.length nc') S M N0 OB #[.int .i64 0, .slice la x.l.length lc, .int .i64 x.n, .slice ka x.keep.length kc]))
              case first =>
                go_region_law (first | (refine step_append_run rfl (.tmp 64) (.tmp 65) _ _ rfl _ _ rfl rfl _ _ HR1.out ?_) | (refine step_append_run rfl (.tmp 66) (.tmp 68) _ _ rfl _ _ rfl rfl _ _ HR2.out ?_))
                all_goals
                  go_wp2_with fail
                  go_meet
                  exact ⟨rfl, H3⟩
              case rest =>
                obtain ⟨rfl, hx3⟩ := hcut
                have p0 := hx3.out.2.cell 0
                have p1 := hx3.out.2.cell 1
                have p2 := hx3.out.2.cell 2
                clear H3 HR1 HR2 o1w2
                obtain ⟨X', j', z, hR, hA⟩ := append_ends HR.out x.l
                have q := lx_append T.out G.out hx3.out (by rw [rnd_list HR.out]; exact hSf) _ x.l LS.out (fun y hy => by have := X2.out y hy; omega) (by omega)
                rw [hR] at q
                have Q := Lib.hid q
                have JN := Lib.hid HN.out.symm
                clear q hR
                rcases hA with hA | hA | hA
                · as_aux_lemma =>
                    obtain ⟨rfl, rfl, hfN, hjN, hRn⟩ := hA
                    have QD := Lib.hid (fun W => diskyF 0 (by omega) W)
                    have QA := Lib.hid (fun w4 (h4 : LX w w4 d b X' j' (.slice sa S.length sc) (.slice ma M.length mc) (.slice na' N0.length nc') S M N0 OB (#[.int .i64 0, .slice la x.l.length lc, .int .i64 x.n, .slice ka x.keep.length kc])) => lx_all h4 (by rw [hjN]; exact hfN) (hjN.trans JN.out))
                    have QS := Lib.hid (fun w4 w5 a5 c5 (h4 : LX w w4 d b X' j' (.slice sa S.length sc) (.slice ma M.length mc) (.slice na' N0.length nc') S M N0 OB (#[.int .i64 0, .slice la x.l.length lc, .int .i64 x.n, .slice ka x.keep.length kc])) (h5 : Hid (w5.ownsRow w4.heap.size 9 1 (.slice a5 N0.length c5) N0.length (strsV N0) ∧ RowKit.Below w4.heap.size w4 w5)) => lx_sameT h4 h4.2.n (by omega) h5)
                    have QL := Lib.hid (fun w4 (h4 : LX w w4 d b X' j' (.slice sa S.length sc) (.slice ma M.length mc) (.slice na' N0.length nc') S M N0 OB (#[.int .i64 0, .slice la x.l.length lc, .int .i64 x.n, .slice ka x.keep.length kc])) => lx_len h4 (hjN.trans JN.out))
                    have RN := Lib.hid (hRn M)
                    have FN := Lib.hid hfN
                    clear hRn hfN hjN
                    go_wp2_with (first | (go_at_call 12; refine Q.out.mono ?_; rintro e w4 ⟨rfl, h4⟩) | (go_at_call 14; refine (QD.out _).mono ?_; rintro e w8 ⟨rfl, hw⟩; rw [hw]; clear hw) | (go_at_call 16; refine (QA.out _ h4.out).mono ?_; rintro e w5 ⟨a5, c5, rfl, h5⟩) | (go_at_call 15; refine (QS.out _ _ _ _ h4.out h5).mono ?_; rintro e w6 ⟨rfl, h6⟩) | (go_at_call 17; refine (QL.out _ h6.out).mono ?_; rintro e w7 ⟨rfl, hw⟩; rw [hw]; clear hw))
                    go_roundw
                    case rel => exact ⟨k + 1, N0, M, false, by omega, by go_num, rfl, Lib.hid (h6.out.headN (by rw [← JN.out]; exact RN.out) (by rw [← JN.out]; exact FN.out) hMl)⟩
                    case measure => simp [intOf]; omega
                · as_aux_lemma =>
                    obtain ⟨hz, hjN, hRn⟩ := hA
                    have zb : (z == 0) = false := by simp; omega
                    have QD := Lib.hid (fun W => diskyT z hz W)
                    have QA := Lib.hid (fun w4 (h4 : LX w w4 d b X' j' (.slice sa S.length sc) (.slice ma M.length mc) (.slice na' N0.length nc') S M N0 OB (#[.int .i64 0, .slice la x.l.length lc, .int .i64 x.n, .slice ka x.keep.length kc])) => lx_all h4 (by rw [hjN]; exact hSf) hjN)
                    have QS := Lib.hid (fun w4 w5 a5 c5 (h4 : LX w w4 d b X' j' (.slice sa S.length sc) (.slice ma M.length mc) (.slice na' N0.length nc') S M N0 OB (#[.int .i64 0, .slice la x.l.length lc, .int .i64 x.n, .slice ka x.keep.length kc])) (h5 : Hid (w5.ownsRow w4.heap.size 9 1 (.slice a5 S.length c5) S.length (strsV S) ∧ RowKit.Below w4.heap.size w4 w5)) => lx_sameT h4 h4.2.s (by omega) h5)
                    have QL := Lib.hid (fun w4 (h4 : LX w w4 d b X' j' (.slice sa S.length sc) (.slice ma M.length mc) (.slice na' N0.length nc') S M N0 OB (#[.int .i64 0, .slice la x.l.length lc, .int .i64 x.n, .slice ka x.keep.length kc])) => lx_len h4 hjN)
                    have RN := Lib.hid hRn
                    clear hRn hjN hz
                    go_wp2_with (first | (go_at_call 12; refine Q.out.mono ?_; rintro e w4 ⟨rfl, h4⟩) | (go_at_call 14; refine (QD.out _).mono ?_; rintro e w8 ⟨rfl, hw⟩; rw [hw]; clear hw) | (go_at_call 16; refine (QA.out _ h4.out).mono ?_; rintro e w5 ⟨a5, c5, rfl, h5⟩) | (go_at_call 15; refine (QS.out _ _ _ _ h4.out h5).mono ?_; rintro e w6 ⟨rfl, h6⟩) | (go_at_call 17; refine (QL.out _ h6.out).mono ?_; rintro e w7 ⟨rfl, hw⟩; rw [hw]; clear hw))
                    go_roundw
                    case rel => exact ⟨k + 1, S, N0, true, by omega, by go_num, rfl, Lib.hid (h6.out.headM (by rw [← JN.out]; exact RN.out) hSf (by omega))⟩
                    case measure => simp [intOf]; omega
                · as_aux_lemma =>
                    obtain ⟨hz, rfl, rfl⟩ := hA
                    have hjN := rnd_list HR.out
                    have zb : (z == 0) = false := by simp; omega
                    have QD := Lib.hid (fun W => diskyF z (by omega) W)
                    have QA := Lib.hid (fun w4 (h4 : LX w w4 d b X' j' (.slice sa S.length sc) (.slice ma M.length mc) (.slice na' N0.length nc') S M N0 OB (#[.int .i64 0, .slice la x.l.length lc, .int .i64 x.n, .slice ka x.keep.length kc])) => lx_all h4 (by rw [hjN]; exact hSf) hjN)
                    have QS := Lib.hid (fun w4 w5 a5 c5 (h4 : LX w w4 d b X' j' (.slice sa S.length sc) (.slice ma M.length mc) (.slice na' N0.length nc') S M N0 OB (#[.int .i64 0, .slice la x.l.length lc, .int .i64 x.n, .slice ka x.keep.length kc])) (h5 : Hid (w5.ownsRow w4.heap.size 9 1 (.slice a5 S.length c5) S.length (strsV S) ∧ RowKit.Below w4.heap.size w4 w5)) => lx_sameT h4 h4.2.s (by omega) h5)
                    have QL := Lib.hid (fun w4 (h4 : LX w w4 d b X' j' (.slice sa S.length sc) (.slice ma M.length mc) (.slice na' N0.length nc') S M N0 OB (#[.int .i64 0, .slice la x.l.length lc, .int .i64 x.n, .slice ka x.keep.length kc])) => lx_len h4 hjN)
                    clear hjN hz
                    go_wp2_with (first | (go_at_call 12; refine Q.out.mono ?_; rintro e w4 ⟨rfl, h4⟩) | (go_at_call 14; refine (QD.out _).mono ?_; rintro e w8 ⟨rfl, hw⟩; rw [hw]; clear hw) | (go_at_call 16; refine (QA.out _ h4.out).mono ?_; rintro e w5 ⟨a5, c5, rfl, h5⟩) | (go_at_call 15; refine (QS.out _ _ _ _ h4.out h5).mono ?_; rintro e w6 ⟨rfl, h6⟩) | (go_at_call 17; refine (QL.out _ h6.out).mono ?_; rintro e w7 ⟨rfl, hw⟩; rw [hw]; clear hw))
                    go_roundw
                    case rel => exact ⟨k + 1, S, M, fl, by omega, by go_num, rfl, Lib.hid (h6.out.head HR.out hSf hMl)⟩
                    case measure => simp [intOf]; omega
        · have b0 : (kd == 0) = false := by simpa using e0
          by_cases e1 : kd = 1
          · subst e1
            clear e0 b0
            as_aux_lemma =>
              rcases hjv with ⟨rfl, hDF, hRnd⟩ | ⟨b, j, rfl, hJF, hRnd⟩
              · have HY := Lib.hid (show LY w W1 d X (.slice sa S.length sc) (.slice ma M.length mc) (.slice none 0 0) S M [] OB (#[.int .i64 1, .slice la x.l.length lc, .int .i64 x.n, .slice ka x.keep.length kc]) by rw [← hW1, hOB0]; exact ly_made hDF HJ.out.s HJ.out.m _)
                have HR := Lib.hid hRnd
                clear hDF hRnd hW1 hOB0 ocell r0 r1 r2 r3 gl
                go_wp2_with fail
                go_roundw
                case rel => exact ⟨k + 1, S, M, fl, by omega, by go_num, rfl, Lib.hid (HY.out.head HR.out hSf hMl)⟩
                case measure => simp [intOf]; omega
              · have HX := Lib.hid (show LX w W1 d b X j (.slice sa S.length sc) (.slice ma M.length mc) (.slice none 0 0) S M [] OB (#[.int .i64 1, .slice la x.l.length lc, .int .i64 x.n, .slice ka x.keep.length kc]) by rw [← hW1, hOB0]; exact lx_made hJF HJ.out.s HJ.out.m _)
                have HR := Lib.hid hRnd
                clear hJF hRnd hW1 hOB0 ocell r0 r1 r2 r3 gl
                have hX := HX.out

                have hbd : RowKit.Below W1.heap.size W1 W1.drew := ⟨rfl, rfl, rfl, Nat.le_refl _, fun _ _ => rfl⟩
                obtain ⟨na, nc, w2, hr1, ho1, hb1⟩ := fresh6 W1.drew (s := S) rfl ((SrcV.own (own_base hX.2.s)).on (hbd.alloc (Nat.le_refl _) _)) hSn
                have hb1' : RowKit.Below W1.heap.size W1 w2 := hbd.trans hb1
                obtain ⟨na', nc', Mn, w3, hMn, hr2, ho2, hb2⟩ := grow6 W1.drew w2 rfl ho1 hb1 (LS.out.on (hX.base.trans (hb1'.mono hX.base.size))) (by omega)
                have hr1' : (Builtin.append_ #[32, 32] 32 #[.slice (some ⟨W1.heap.size, 0, none⟩) 0 0, .slice sa S.length sc]).run Tryz.prog ((W1.alloc (.cells #[] 9)).drew) = .ok (.slice na S.length nc) w2 := hr1
                have HR1 := Lib.hid hr1'
                have HR2 := Lib.hid hr2
                obtain ⟨N0, hN0⟩ : ∃ N0, N0 = S ++ x.l := ⟨_, rfl⟩
                have hNl : Mn = N0.length := by rw [hN0, List.length_append]; exact hMn
                have hN9 : N0.length ≤ 1048584 := by rw [← hNl]; omega
                rw [← hN0] at ho2
                subst hNl
                have hXd : LX w W1.drew d b X j (.slice sa S.length sc) (.slice ma M.length mc) (.slice none 0 0) S M [] OB #[.int .i64 1, .slice la x.l.length lc, .int .i64 x.n, .slice ka x.keep.length kc] := hX.below ⟨rfl, rfl, rfl, Nat.le_refl _, fun _ _ => rfl⟩
                have H3 := Lib.hid (hXd.next (w' := w3) (nv' := .slice na' N0.length nc') (N' := N0) hb2 ho2)
                have o1w2 : w2.cell? ⟨OB, 1, none⟩ = some (.slice la x.l.length lc) := (Kept.below (S := fun _ => False) hb1).cell (hXd.2.cell 1) (fun e => e)
                have hOB : OB < W1.heap.size := Lib.lt_of_cell o0
                have HN := Lib.hid hN0
                clear hN0 hMn ho1 ho2 hb1 hb2 hXd hb1' hbd hr1 hr1' hr2
                go_upto_region 25 with fail
                go_cut [14] (fun t14 wx => t14 = .slice na' N0.length nc' ∧ Hid (LX w wx d b X j (.slice sa S.length sc) (.slice ma M.length mc) (.slice na' N0.length nc') S M N0 OB #[.int .i64 1, .slice la x.l.length lc, .int .i64 x.n, .slice ka x.keep.length kc]))
                case first =>
                  go_region_law (first | (refine step_append_run rfl (.tmp 64) (.tmp 65) _ _ rfl _ _ rfl rfl _ _ HR1.out ?_) | (refine step_append_run rfl (.tmp 66) (.tmp 68) _ _ rfl _ _ rfl rfl _ _ HR2.out ?_))
                  all_goals
                    go_wp2_with fail
                    go_meet
                    exact ⟨rfl, H3⟩
                case rest =>
                  obtain ⟨rfl, hx3⟩ := hcut
                  have p0 := hx3.out.2.cell 0
                  have p1 := hx3.out.2.cell 1
                  have p2 := hx3.out.2.cell 2
                  clear H3 HR1 HR2 o1w2
                  obtain ⟨K, hK⟩ : ∃ K : Nat, max 0 (min x.n (S.length : Int)) = (K : Int) := ⟨(max 0 (min x.n (S.length : Int))).toNat, by omega⟩
                  have hKS : K ≤ S.length := by omega
                  obtain ⟨X', j', z, hR, hA⟩ := cut_ends HR.out hSf x.n K hK
                  have q := lx_cut T.out G.out hx3.out (by rw [rnd_list HR.out]; exact hSf) x.n
                  rw [hR] at q
                  obtain ⟨N2, hN2⟩ : ∃ N2, N2 = S.take K := ⟨_, rfl⟩
                  have hN2l : N2.length = K := by rw [hN2, List.length_take]; omega
                  have hKc : (K : Int) ≤ (sc : Int) := by omega
                  -- the next list is made behind the call
                  have qn : ∀ w4, LX w w4 d b X' j' (.slice sa S.length sc) (.slice ma M.length mc) (.slice na' N0.length nc') S M N0 OB (#[.int .i64 1, .slice la x.l.length lc, .int .i64 x.n, .slice ka x.keep.length kc]) → ∃ na2 nc2 w5, (Builtin.append_ #[32, 32] 32 #[.slice (some ⟨w4.heap.size, 0, none⟩) 0 0, .slice sa K sc]).run Tryz.prog (w4.alloc (.cells #[] 9)) = .ok (.slice na2 K nc2) w5 ∧ Hid (LX w w5 d b X' j' (.slice sa S.length sc) (.slice ma M.length mc) (.slice na2 K nc2) S M N2 OB (#[.int .i64 1, .slice la x.l.length lc, .int .i64 x.n, .slice ka x.keep.length kc])) := fun w4 h4 => by
                    obtain ⟨na2, nc2, w5, k1, k2, k3⟩ := fresh6 w4 (s := N2) hN2l.symm (by rw [hN2]; exact ((SrcV.own (own_base h4.2.s)).on ((Below.refl _ w4).alloc (Nat.le_refl _) _)).take6 K hKS) (by omega)
                    exact ⟨na2, nc2, w5, k1, h4.next (nv' := .slice na2 K nc2) (N' := N2) k3 (by rw [hN2l]; exact k2)⟩
                  have Q := Lib.hid q
                  have QN := Lib.hid qn
                  have JN := Lib.hid hN2.symm
                  have HKL := Lib.hid hN2l
                  have hN2b : N2.length ≤ 1048576 := by omega
                  clear q qn hR hN2 hN2l
                  rcases hA with hA | hA | hA
                  · as_aux_lemma =>
                      obtain ⟨rfl, rfl, hfN, hjN, hRn⟩ := hA
                      have QD := Lib.hid (fun W => diskyF 0 (by omega) W)
                      have QA := Lib.hid (fun na2 nc2 w4 (h4 : LX w w4 d b X' j' (.slice sa S.length sc) (.slice ma M.length mc) (.slice na2 K nc2) S M N2 OB (#[.int .i64 1, .slice la x.l.length lc, .int .i64 x.n, .slice ka x.keep.length kc])) => lx_all h4 (by rw [hjN]; exact hfN) (hjN.trans JN.out))
                      have QS := Lib.hid (fun na2 nc2 w4 w5 a5 c5 (h4 : LX w w4 d b X' j' (.slice sa S.length sc) (.slice ma M.length mc) (.slice na2 K nc2) S M N2 OB (#[.int .i64 1, .slice la x.l.length lc, .int .i64 x.n, .slice ka x.keep.length kc])) (h5 : Hid (w5.ownsRow w4.heap.size 9 1 (.slice a5 N2.length c5) N2.length (strsV N2) ∧ RowKit.Below w4.heap.size w4 w5)) => lx_sameT h4 h4.2.n (by have := HKL.out; omega) h5)
                      have QL := Lib.hid (fun na2 nc2 w4 (h4 : LX w w4 d b X' j' (.slice sa S.length sc) (.slice ma M.length mc) (.slice na2 K nc2) S M N2 OB (#[.int .i64 1, .slice la x.l.length lc, .int .i64 x.n, .slice ka x.keep.length kc])) => (show Calls Tryz.prog 17 #[.pointer (some ⟨b, 0, none⟩)] w4 fun e w5 => e = .returned (.int .i64 (K : Int)) ∧ w5 = w4 from by rw [← HKL.out]; exact lx_len h4 (hjN.trans JN.out)))
                      have RN := Lib.hid (hRn M)
                      have FN := Lib.hid hfN
                      clear hRn hfN hjN
                      go_wp2_with (first | (go_at_call 13; refine Q.out.mono ?_; rintro e w9 ⟨rfl, h9⟩; obtain ⟨na2, nc2, w4, hr4, h4⟩ := QN.out _ h9.out; have HR4 := Lib.hid hr4; have s2 := h9.out.2.cell 2; have hOB9 : OB < w9.heap.size := Lib.lt_of_cell s2; clear hr4) | (at_builtin; refine Lib.wpList_append_run _ rfl _ _ _ _ rfl _ _ rfl rfl _ w4 HR4.out ?_) | (go_at_call 14; refine (QD.out _).mono ?_; rintro e w8 ⟨rfl, hw⟩; rw [hw]; clear hw) | (go_at_call 16; refine (QA.out _ _ _ h4.out).mono ?_; rintro e w5 ⟨a5, c5, rfl, h5⟩) | (go_at_call 15; refine (QS.out _ _ _ _ _ _ h4.out h5).mono ?_; rintro e w6 ⟨rfl, h6⟩) | (go_at_call 17; refine (QL.out _ _ _ h6.out).mono ?_; rintro e w7 ⟨rfl, hw⟩; rw [hw]; clear hw))
                      go_roundw
                      case rel => exact ⟨k + 1, N2, M, false, by omega, by go_num, rfl, Lib.hid (h6.out.headN (by rw [← JN.out]; exact RN.out) (by rw [← JN.out]; exact FN.out) hMl)⟩
                      case measure => simp [intOf]; omega
                  · as_aux_lemma =>
                      obtain ⟨hz, hjN, hRn⟩ := hA
                      have zb : (z == 0) = false := by simp; omega
                      have QD := Lib.hid (fun W => diskyT z hz W)
                      have QA := Lib.hid (fun na2 nc2 w4 (h4 : LX w w4 d b X' j' (.slice sa S.length sc) (.slice ma M.length mc) (.slice na2 K nc2) S M N2 OB (#[.int .i64 1, .slice la x.l.length lc, .int .i64 x.n, .slice ka x.keep.length kc])) => lx_all h4 (by rw [hjN]; exact hSf) hjN)
                      have QS := Lib.hid (fun na2 nc2 w4 w5 a5 c5 (h4 : LX w w4 d b X' j' (.slice sa S.length sc) (.slice ma M.length mc) (.slice na2 K nc2) S M N2 OB (#[.int .i64 1, .slice la x.l.length lc, .int .i64 x.n, .slice ka x.keep.length kc])) (h5 : Hid (w5.ownsRow w4.heap.size 9 1 (.slice a5 S.length c5) S.length (strsV S) ∧ RowKit.Below w4.heap.size w4 w5)) => lx_sameT h4 h4.2.s (by omega) h5)
                      have QL := Lib.hid (fun na2 nc2 w4 (h4 : LX w w4 d b X' j' (.slice sa S.length sc) (.slice ma M.length mc) (.slice na2 K nc2) S M N2 OB (#[.int .i64 1, .slice la x.l.length lc, .int .i64 x.n, .slice ka x.keep.length kc])) => lx_len h4 hjN)
                      have RN := Lib.hid hRn
                      clear hRn hjN hz
                      go_wp2_with (first | (go_at_call 13; refine Q.out.mono ?_; rintro e w9 ⟨rfl, h9⟩; obtain ⟨na2, nc2, w4, hr4, h4⟩ := QN.out _ h9.out; have HR4 := Lib.hid hr4; have s2 := h9.out.2.cell 2; have hOB9 : OB < w9.heap.size := Lib.lt_of_cell s2; clear hr4) | (at_builtin; refine Lib.wpList_append_run _ rfl _ _ _ _ rfl _ _ rfl rfl _ w4 HR4.out ?_) | (go_at_call 14; refine (QD.out _).mono ?_; rintro e w8 ⟨rfl, hw⟩; rw [hw]; clear hw) | (go_at_call 16; refine (QA.out _ _ _ h4.out).mono ?_; rintro e w5 ⟨a5, c5, rfl, h5⟩) | (go_at_call 15; refine (QS.out _ _ _ _ _ _ h4.out h5).mono ?_; rintro e w6 ⟨rfl, h6⟩) | (go_at_call 17; refine (QL.out _ _ _ h6.out).mono ?_; rintro e w7 ⟨rfl, hw⟩; rw [hw]; clear hw))
                      go_roundw
                      case rel => exact ⟨k + 1, S, N2, true, by omega, by go_num, rfl, Lib.hid (h6.out.headM (by rw [← JN.out]; exact RN.out) hSf (by omega))⟩
                      case measure => simp [intOf]; omega
                  · as_aux_lemma =>
                      obtain ⟨hz, rfl, rfl⟩ := hA
                      have hjN := rnd_list HR.out
                      have zb : (z == 0) = false := by simp; omega
                      have QD := Lib.hid (fun W => diskyF z (by omega) W)
                      have QA := Lib.hid (fun na2 nc2 w4 (h4 : LX w w4 d b X' j' (.slice sa S.length sc) (.slice ma M.length mc) (.slice na2 K nc2) S M N2 OB (#[.int .i64 1, .slice la x.l.length lc, .int .i64 x.n, .slice ka x.keep.length kc])) => lx_all h4 (by rw [hjN]; exact hSf) hjN)
                      have QS := Lib.hid (fun na2 nc2 w4 w5 a5 c5 (h4 : LX w w4 d b X' j' (.slice sa S.length sc) (.slice ma M.length mc) (.slice na2 K nc2) S M N2 OB (#[.int .i64 1, .slice la x.l.length lc, .int .i64 x.n, .slice ka x.keep.length kc])) (h5 : Hid (w5.ownsRow w4.heap.size 9 1 (.slice a5 S.length c5) S.length (strsV S) ∧ RowKit.Below w4.heap.size w4 w5)) => lx_sameT h4 h4.2.s (by omega) h5)
                      have QL := Lib.hid (fun na2 nc2 w4 (h4 : LX w w4 d b X' j' (.slice sa S.length sc) (.slice ma M.length mc) (.slice na2 K nc2) S M N2 OB (#[.int .i64 1, .slice la x.l.length lc, .int .i64 x.n, .slice ka x.keep.length kc])) => lx_len h4 hjN)
                      clear hjN hz
                      go_wp2_with (first | (go_at_call 13; refine Q.out.mono ?_; rintro e w9 ⟨rfl, h9⟩; obtain ⟨na2, nc2, w4, hr4, h4⟩ := QN.out _ h9.out; have HR4 := Lib.hid hr4; have s2 := h9.out.2.cell 2; have hOB9 : OB < w9.heap.size := Lib.lt_of_cell s2; clear hr4) | (at_builtin; refine Lib.wpList_append_run _ rfl _ _ _ _ rfl _ _ rfl rfl _ w4 HR4.out ?_) | (go_at_call 14; refine (QD.out _).mono ?_; rintro e w8 ⟨rfl, hw⟩; rw [hw]; clear hw) | (go_at_call 16; refine (QA.out _ _ _ h4.out).mono ?_; rintro e w5 ⟨a5, c5, rfl, h5⟩) | (go_at_call 15; refine (QS.out _ _ _ _ _ _ h4.out h5).mono ?_; rintro e w6 ⟨rfl, h6⟩) | (go_at_call 17; refine (QL.out _ _ _ h6.out).mono ?_; rintro e w7 ⟨rfl, hw⟩; rw [hw]; clear hw))
                      go_roundw
                      case rel => exact ⟨k + 1, S, M, fl, by omega, by go_num, rfl, Lib.hid (h6.out.head HR.out hSf hMl)⟩
                      case measure => simp [intOf]; omega
          · have b1 : (kd == 1) = false := by simpa using e1
            by_cases e2 : kd = 2
            · subst e2
              clear e0 b0 e1 b1
              as_aux_lemma =>
                rcases hjv with ⟨rfl, hDF, hRnd⟩ | ⟨b, j, rfl, hJF, hRnd⟩
                · have HY := Lib.hid (show LY w W1 d X (.slice sa S.length sc) (.slice ma M.length mc) (.slice none 0 0) S M [] OB (#[.int .i64 2, .slice la x.l.length lc, .int .i64 x.n, .slice ka x.keep.length kc]) by rw [← hW1, hOB0]; exact ly_made hDF HJ.out.s HJ.out.m _)
                  have HR := Lib.hid hRnd
                  clear hDF hRnd hW1 hOB0 ocell r0 r1 r2 r3 gl
                  have Q := Lib.hid (ly_op HY.out (fun T g _ => lose_op x.n hn.2 T g))
                  go_wp2_with (go_at_call 10; refine Q.out.mono ?_; rintro e w4 ⟨rfl, h4⟩)
                  go_roundw
                  case rel => exact ⟨k + 1, S, M, fl, by omega, by go_num, rfl, Lib.hid (h4.out.head (HR.out.lose x.n) hSf hMl)⟩
                  case measure => simp [intOf]; omega
                · have HX := Lib.hid (show LX w W1 d b X j (.slice sa S.length sc) (.slice ma M.length mc) (.slice none 0 0) S M [] OB (#[.int .i64 2, .slice la x.l.length lc, .int .i64 x.n, .slice ka x.keep.length kc]) by rw [← hW1, hOB0]; exact lx_made hJF HJ.out.s HJ.out.m _)
                  have HR := Lib.hid hRnd
                  clear hJF hRnd hW1 hOB0 ocell r0 r1 r2 r3 gl
                  have Q := Lib.hid (lx_op HX.out (fun T g _ => lose_op x.n hn.2 T g))
                  go_wp2_with (go_at_call 10; refine Q.out.mono ?_; rintro e w4 ⟨rfl, h4⟩)
                  go_roundw
                  case rel => exact ⟨k + 1, S, M, fl, by omega, by go_num, rfl, Lib.hid (h4.out.head (HR.out.lose x.n) hSf hMl)⟩
                  case measure => simp [intOf]; omega
            · have b2 : (kd == 2) = false := by simpa using e2
              by_cases e3 : kd = 3
              · subst e3
                clear e0 b0 e1 b1 e2 b2
                as_aux_lemma =>
                  rcases hjv with ⟨rfl, hDF, hRnd⟩ | ⟨b, j, rfl, hJF, hRnd⟩
                  · have HY := Lib.hid (show LY w W1 d X (.slice sa S.length sc) (.slice ma M.length mc) (.slice none 0 0) S M [] OB (#[.int .i64 3, .slice la x.l.length lc, .int .i64 x.n, .slice ka x.keep.length kc]) by rw [← hW1, hOB0]; exact ly_made hDF HJ.out.s HJ.out.m _)
                    have HR := Lib.hid hRnd
                    clear hDF hRnd hW1 hOB0 ocell r0 r1 r2 r3 gl
                    have Q := Lib.hid (ly_op HY.out (KP.out.arm HY.out.1.base x.n hn.2))
                    go_wp2_with (go_at_call 11; refine Q.out.mono ?_; rintro e w4 ⟨rfl, h4⟩)
                    go_roundw
                    case rel => exact ⟨k + 1, S, M, fl, by omega, by go_num, rfl, Lib.hid (h4.out.head (HR.out.arm x.n x.keep) hSf hMl)⟩
                    case measure => simp [intOf]; omega
                  · have HX := Lib.hid (show LX w W1 d b X j (.slice sa S.length sc) (.slice ma M.length mc) (.slice none 0 0) S M [] OB (#[.int .i64 3, .slice la x.l.length lc, .int .i64 x.n, .slice ka x.keep.length kc]) by rw [← hW1, hOB0]; exact lx_made hJF HJ.out.s HJ.out.m _)
                    have HR := Lib.hid hRnd
                    clear hJF hRnd hW1 hOB0 ocell r0 r1 r2 r3 gl
                    have Q := Lib.hid (lx_op HX.out (KP.out.arm HX.out.base x.n hn.2))
                    go_wp2_with (go_at_call 11; refine Q.out.mono ?_; rintro e w4 ⟨rfl, h4⟩)
                    go_roundw
                    case rel => exact ⟨k + 1, S, M, fl, by omega, by go_num, rfl, Lib.hid (h4.out.head (HR.out.arm x.n x.keep) hSf hMl)⟩
                    case measure => simp [intOf]; omega
              · have b3 : (kd == 3) = false := by simpa using e3
                by_cases e4 : kd = 4
                · subst e4
                  clear e0 b0 e1 b1 e2 b2 e3 b3
                  as_aux_lemma =>
                    have HY := Lib.hid (show LY w W1 d X (.slice sa S.length sc) (.slice ma M.length mc) (.slice none 0 0) S M [] OB (#[.int .i64 4, .slice la x.l.length lc, .int .i64 x.n, .slice ka x.keep.length kc]) by
                      rw [← hW1, hOB0]
                      rcases hjv with ⟨_, hDF, _⟩ | ⟨b, j, _, hJF, _⟩
                      · exact ly_made hDF HJ.out.s HJ.out.m _
                      · exact ly_made hJF.toDF HJ.out.s HJ.out.m _)
                    obtain ⟨oj, hoj⟩ : ∃ oj, Jn.Rnd X 3 S M fl oj := by
                      rcases hjv with ⟨_, _, h⟩ | ⟨b, j, _, _, h⟩
                      · exact ⟨_, h⟩
                      · exact ⟨_, h⟩
                    have HR := Lib.hid hoj
                    clear hjv hoj hW1 hOB0 ocell r0 r1 r2 r3 gl
                    obtain ⟨c, hc⟩ := HR.out.two
                    obtain ⟨c1, hc1⟩ := hc.again (by omega) x.keep
                    have Q1 := Lib.hid (ly_op HY.out (KP.out.crash HY.out.1.base))
                    have Q2 := Lib.hid (fun w4 (h4 : LY w w4 d (X.crash x.keep) (.slice sa S.length sc) (.slice ma M.length mc) (.slice none 0 0) S M [] OB (#[.int .i64 4, .slice la x.l.length lc, .int .i64 x.n, .slice ka x.keep.length kc])) => ly_op h4 (fun T g _ => start_op T g))
                    rcases open_ends hc1 with ⟨E, j', ho, hjf, hjl, hRn⟩ | ⟨E, z, ho, hz, hRn⟩
                    · have Q3 := Lib.hid (fun w5 (h5 : LY w w5 d ((X.crash x.keep).start) (.slice sa S.length sc) (.slice ma M.length mc) (.slice none 0 0) S M [] OB (#[.int .i64 4, .slice la x.l.length lc, .int .i64 x.n, .slice ka x.keep.length kc])) => ly_open T.out G.out h5 ho)
                      obtain ⟨V, hV⟩ : ∃ V, j'.l = V := ⟨_, rfl⟩
                      have QA := Lib.hid (fun b2 w6 (h6 : LX w w6 d b2 E j' (.slice sa S.length sc) (.slice ma M.length mc) (.slice none 0 0) S M [] OB (#[.int .i64 4, .slice la x.l.length lc, .int .i64 x.n, .slice ka x.keep.length kc])) => lx_all h6 hjf hV)
                      have RN := Lib.hid (hRn M)
                      have FV := Lib.hid hjf
                      have HV := Lib.hid hV
                      by_cases hVS : V = S
                      · subst hVS
                        have QS := Lib.hid (fun b2 w6 w7 a7 c7 (h6 : LX w w6 d b2 E j' (.slice sa V.length sc) (.slice ma M.length mc) (.slice none 0 0) V M [] OB (#[.int .i64 4, .slice la x.l.length lc, .int .i64 x.n, .slice ka x.keep.length kc])) (h7 : Hid (w7.ownsRow w6.heap.size 9 1 (.slice a7 V.length c7) V.length (strsV V) ∧ RowKit.Below w6.heap.size w6 w7)) => lx_sameT h6 h6.2.s (by omega) h7)
                        clear ho hjf hjl hRn hV hc hc1
                        go_wp2_with (first | (go_at_call 18; refine Q1.out.mono ?_; rintro e w4 ⟨rfl, h4⟩) | (go_at_call 19; refine (Q2.out _ h4.out).mono ?_; rintro e w5 ⟨rfl, h5⟩) | (go_at_call 9; refine (Q3.out _ h5.out).mono ?_; rintro e w6 ⟨b2, rfl, h6⟩) | (go_at_call 15; refine (QS.out _ _ _ _ _ h6.out h7).mono ?_; rintro e w8 ⟨rfl, h8⟩) | (go_at_call 16; refine (QA.out _ _ h6.out).mono ?_; rintro e w7 ⟨a7, c7, rfl, h7⟩) | (go_at_call 16; refine (QA.out _ _ h8.out).mono ?_; rintro e w9 ⟨a9, c9, rfl, h9⟩))
                        go_roundw
                        case rel => exact ⟨k + 1, V, M, false, by omega, by go_num, rfl, Lib.hid ((h8.out.sure h9.out.2 h9.out.1).head (by rw [← HV.out]; exact RN.out) (by rw [← HV.out]; exact FV.out) hMl)⟩
                        case measure => simp [intOf]; omega
                      · obtain ⟨rfl, hVM⟩ : fl = true ∧ V = M := by
                          rcases hjl with e | ⟨e1, e2⟩
                          · exact absurd (hV.symm.trans e) hVS
                          · exact ⟨e1, hV.symm.trans e2⟩
                        have HVM := Lib.hid hVM
                        have QS := Lib.hid (fun b2 w6 w7 a7 c7 (h6 : LX w w6 d b2 E j' (.slice sa S.length sc) (.slice ma M.length mc) (.slice none 0 0) S M [] OB (#[.int .i64 4, .slice la x.l.length lc, .int .i64 x.n, .slice ka x.keep.length kc])) (h7 : Hid (w7.ownsRow w6.heap.size 9 1 (.slice a7 V.length c7) V.length (strsV V) ∧ RowKit.Below w6.heap.size w6 w7)) => lx_sameF h6 h6.2.s (by omega) hVS h7)
                        have QM := Lib.hid (fun b2 w6 w7 a7 c7 (h6 : LX w w6 d b2 E j' (.slice sa S.length sc) (.slice ma M.length mc) (.slice none 0 0) S M [] OB (#[.int .i64 4, .slice la x.l.length lc, .int .i64 x.n, .slice ka x.keep.length kc])) (h7 : Hid (w7.ownsRow w6.heap.size 9 1 (.slice a7 V.length c7) V.length (strsV V) ∧ RowKit.Below w6.heap.size w6 w7)) => lx_sameT (v := .slice ma M.length mc) h6 (by rw [HVM.out]; exact h6.2.m) (by rw [HVM.out]; omega) h7)
                        clear ho hjf hjl hRn hV hVS hVM hc hc1
                        go_wp2_with (first | (go_at_call 18; refine Q1.out.mono ?_; rintro e w4 ⟨rfl, h4⟩) | (go_at_call 19; refine (Q2.out _ h4.out).mono ?_; rintro e w5 ⟨rfl, h5⟩) | (go_at_call 9; refine (Q3.out _ h5.out).mono ?_; rintro e w6 ⟨b2, rfl, h6⟩))
                        have qa6 := QA.out _ _ h6.out
                        refine qa6.mono ?_
                        clear qa6
                        rintro e w7 ⟨a7, c7, rfl, h7⟩
                        go_wp2_with fail
                        refine (QS.out _ _ _ _ _ h6.out h7).mono ?_
                        rintro e w8 ⟨rfl, h8⟩
                        go_wp2_with fail
                        refine (QA.out _ _ h8.out).mono ?_
                        rintro e w9 ⟨a9, c9, rfl, h9⟩
                        go_wp2_with fail
                        refine (QM.out _ _ _ _ _ h8.out h9).mono ?_
                        rintro e w10 ⟨rfl, h10⟩
                        go_wp2_with fail
                        refine (QA.out _ _ h10.out).mono ?_
                        rintro e w11 ⟨a11, c11, rfl, h11⟩
                        go_wp2_with fail
                        go_roundw
                        case rel => exact ⟨k + 1, V, M, false, by omega, by go_num, rfl, Lib.hid ((h10.out.sure h11.out.2 h11.out.1).head (by rw [← HV.out]; exact RN.out) (by rw [← HV.out]; exact FV.out) hMl)⟩
                        case measure => simp [intOf]; omega
                    · have Q3 := Lib.hid (fun w5 (h5 : LY w w5 d ((X.crash x.keep).start) (.slice sa S.length sc) (.slice ma M.length mc) (.slice none 0 0) S M [] OB (#[.int .i64 4, .slice la x.l.length lc, .int .i64 x.n, .slice ka x.keep.length kc])) => ly_fail T.out G.out h5 ho)
                      have QD := Lib.hid (fun W => diskyT z hz W)
                      have RN := Lib.hid hRn
                      clear ho hz hRn hc hc1
                      go_wp2_with (first | (go_at_call 18; refine Q1.out.mono ?_; rintro e w4 ⟨rfl, h4⟩) | (go_at_call 19; refine (Q2.out _ h4.out).mono ?_; rintro e w5 ⟨rfl, h5⟩) | (go_at_call 9; refine (Q3.out _ h5.out).mono ?_; rintro e w6 ⟨rfl, h6⟩) | (go_at_call 14; refine (QD.out _).mono ?_; rintro e w7 ⟨rfl, hw⟩; rw [hw]; clear hw))
                      go_roundw
                      case rel => exact ⟨k + 1, S, M, fl, by omega, by go_num, rfl, Lib.hid (h6.out.head RN.out hSf hMl)⟩
                      case measure => simp [intOf]; omega
                · have b4 : (kd == 4) = false := by simpa using e4
                  by_cases e5 : kd = 5
                  · subst e5
                    clear e0 b0 e1 b1 e2 b2 e3 b3 e4 b4
                    as_aux_lemma =>
                      have HY := Lib.hid (show LY w W1 d X (.slice sa S.length sc) (.slice ma M.length mc) (.slice none 0 0) S M [] OB (#[.int .i64 5, .slice la x.l.length lc, .int .i64 x.n, .slice ka x.keep.length kc]) by
                        rw [← hW1, hOB0]
                        rcases hjv with ⟨_, hDF, _⟩ | ⟨b, j, _, hJF, _⟩
                        · exact ly_made hDF HJ.out.s HJ.out.m _
                        · exact ly_made hJF.toDF HJ.out.s HJ.out.m _)
                      obtain ⟨oj, hoj⟩ : ∃ oj, Jn.Rnd X 3 S M fl oj := by
                        rcases hjv with ⟨_, _, h⟩ | ⟨b, j, _, _, h⟩
                        · exact ⟨_, h⟩
                        · exact ⟨_, h⟩
                      have HR := Lib.hid hoj
                      clear hjv hoj hW1 hOB0 ocell r0 r1 r2 r3 gl
                      obtain ⟨c, hc⟩ := HR.out.two
                      obtain ⟨c1, hc1⟩ := hc.start (by omega)
                      have Q2 := Lib.hid (ly_op HY.out (fun T g _ => start_op T g))
                      rcases open_ends hc1 with ⟨E, j', ho, hjf, hjl, hRn⟩ | ⟨E, z, ho, hz, hRn⟩
                      · have Q3 := Lib.hid (fun w5 (h5 : LY w w5 d (X.start) (.slice sa S.length sc) (.slice ma M.length mc) (.slice none 0 0) S M [] OB (#[.int .i64 5, .slice la x.l.length lc, .int .i64 x.n, .slice ka x.keep.length kc])) => ly_open T.out G.out h5 ho)
                        obtain ⟨V, hV⟩ : ∃ V, j'.l = V := ⟨_, rfl⟩
                        have QA := Lib.hid (fun b2 w6 (h6 : LX w w6 d b2 E j' (.slice sa S.length sc) (.slice ma M.length mc) (.slice none 0 0) S M [] OB (#[.int .i64 5, .slice la x.l.length lc, .int .i64 x.n, .slice ka x.keep.length kc])) => lx_all h6 hjf hV)
                        have RN := Lib.hid (hRn M)
                        have FV := Lib.hid hjf
                        have HV := Lib.hid hV
                        by_cases hVS : V = S
                        · subst hVS
                          have QS := Lib.hid (fun b2 w6 w7 a7 c7 (h6 : LX w w6 d b2 E j' (.slice sa V.length sc) (.slice ma M.length mc) (.slice none 0 0) V M [] OB (#[.int .i64 5, .slice la x.l.length lc, .int .i64 x.n, .slice ka x.keep.length kc])) (h7 : Hid (w7.ownsRow w6.heap.size 9 1 (.slice a7 V.length c7) V.length (strsV V) ∧ RowKit.Below w6.heap.size w6 w7)) => lx_sameT h6 h6.2.s (by omega) h7)
                          clear ho hjf hjl hRn hV hc hc1
                          go_wp2_with (first | (go_at_call 19; refine Q2.out.mono ?_; rintro e w5 ⟨rfl, h5⟩) | (go_at_call 9; refine (Q3.out _ h5.out).mono ?_; rintro e w6 ⟨b2, rfl, h6⟩) | (go_at_call 15; refine (QS.out _ _ _ _ _ h6.out h7).mono ?_; rintro e w8 ⟨rfl, h8⟩) | (go_at_call 16; refine (QA.out _ _ h6.out).mono ?_; rintro e w7 ⟨a7, c7, rfl, h7⟩) | (go_at_call 16; refine (QA.out _ _ h8.out).mono ?_; rintro e w9 ⟨a9, c9, rfl, h9⟩))
                          go_roundw
                          case rel => exact ⟨k + 1, V, M, false, by omega, by go_num, rfl, Lib.hid ((h8.out.sure h9.out.2 h9.out.1).head (by rw [← HV.out]; exact RN.out) (by rw [← HV.out]; exact FV.out) hMl)⟩
                          case measure => simp [intOf]; omega
                        · obtain ⟨rfl, hVM⟩ : fl = true ∧ V = M := by
                            rcases hjl with e | ⟨e1, e2⟩
                            · exact absurd (hV.symm.trans e) hVS
                            · exact ⟨e1, hV.symm.trans e2⟩
                          have HVM := Lib.hid hVM
                          have QS := Lib.hid (fun b2 w6 w7 a7 c7 (h6 : LX w w6 d b2 E j' (.slice sa S.length sc) (.slice ma M.length mc) (.slice none 0 0) S M [] OB (#[.int .i64 5, .slice la x.l.length lc, .int .i64 x.n, .slice ka x.keep.length kc])) (h7 : Hid (w7.ownsRow w6.heap.size 9 1 (.slice a7 V.length c7) V.length (strsV V) ∧ RowKit.Below w6.heap.size w6 w7)) => lx_sameF h6 h6.2.s (by omega) hVS h7)
                          have QM := Lib.hid (fun b2 w6 w7 a7 c7 (h6 : LX w w6 d b2 E j' (.slice sa S.length sc) (.slice ma M.length mc) (.slice none 0 0) S M [] OB (#[.int .i64 5, .slice la x.l.length lc, .int .i64 x.n, .slice ka x.keep.length kc])) (h7 : Hid (w7.ownsRow w6.heap.size 9 1 (.slice a7 V.length c7) V.length (strsV V) ∧ RowKit.Below w6.heap.size w6 w7)) => lx_sameT (v := .slice ma M.length mc) h6 (by rw [HVM.out]; exact h6.2.m) (by rw [HVM.out]; omega) h7)
                          clear ho hjf hjl hRn hV hVS hVM hc hc1
                          go_wp2_with (first | (go_at_call 19; refine Q2.out.mono ?_; rintro e w5 ⟨rfl, h5⟩) | (go_at_call 9; refine (Q3.out _ h5.out).mono ?_; rintro e w6 ⟨b2, rfl, h6⟩))
                          have qa6 := QA.out _ _ h6.out
                          refine qa6.mono ?_
                          clear qa6
                          rintro e w7 ⟨a7, c7, rfl, h7⟩
                          go_wp2_with fail
                          refine (QS.out _ _ _ _ _ h6.out h7).mono ?_
                          rintro e w8 ⟨rfl, h8⟩
                          go_wp2_with fail
                          refine (QA.out _ _ h8.out).mono ?_
                          rintro e w9 ⟨a9, c9, rfl, h9⟩
                          go_wp2_with fail
                          refine (QM.out _ _ _ _ _ h8.out h9).mono ?_
                          rintro e w10 ⟨rfl, h10⟩
                          go_wp2_with fail
                          refine (QA.out _ _ h10.out).mono ?_
                          rintro e w11 ⟨a11, c11, rfl, h11⟩
                          go_wp2_with fail
                          go_roundw
                          case rel => exact ⟨k + 1, V, M, false, by omega, by go_num, rfl, Lib.hid ((h10.out.sure h11.out.2 h11.out.1).head (by rw [← HV.out]; exact RN.out) (by rw [← HV.out]; exact FV.out) hMl)⟩
                          case measure => simp [intOf]; omega
                      · have Q3 := Lib.hid (fun w5 (h5 : LY w w5 d (X.start) (.slice sa S.length sc) (.slice ma M.length mc) (.slice none 0 0) S M [] OB (#[.int .i64 5, .slice la x.l.length lc, .int .i64 x.n, .slice ka x.keep.length kc])) => ly_fail T.out G.out h5 ho)
                        have QD := Lib.hid (fun W => diskyT z hz W)
                        have RN := Lib.hid hRn
                        clear ho hz hRn hc hc1
                        go_wp2_with (first | (go_at_call 19; refine Q2.out.mono ?_; rintro e w5 ⟨rfl, h5⟩) | (go_at_call 9; refine (Q3.out _ h5.out).mono ?_; rintro e w6 ⟨rfl, h6⟩) | (go_at_call 14; refine (QD.out _).mono ?_; rintro e w7 ⟨rfl, hw⟩; rw [hw]; clear hw))
                        go_roundw
                        case rel => exact ⟨k + 1, S, M, fl, by omega, by go_num, rfl, Lib.hid (h6.out.head RN.out hSf hMl)⟩
                        case measure => simp [intOf]; omega
                  · have b5 : (kd == 5) = false := by simpa using e5
                    clear e0 e1 e2 e3 e4 e5
                    as_aux_lemma =>
                      rcases hjv with ⟨rfl, hDF, hRnd⟩ | ⟨b, j, rfl, hJF, hRnd⟩
                      · have HY := Lib.hid (show LY w W1 d X (.slice sa S.length sc) (.slice ma M.length mc) (.slice none 0 0) S M [] OB (#[.int .i64 kd, .slice la x.l.length lc, .int .i64 x.n, .slice ka x.keep.length kc]) by rw [← hW1, hOB0]; exact ly_made hDF HJ.out.s HJ.out.m _)
                        have HR := Lib.hid hRnd
                        clear hDF hRnd hW1 hOB0 ocell r0 r1 r2 r3 gl
                        go_wp2_with fail
                        go_roundw
                        case rel => exact ⟨k + 1, S, M, fl, by omega, by go_num, rfl, Lib.hid (HY.out.head HR.out hSf hMl)⟩
                        case measure => simp [intOf]; omega
                      · have HX := Lib.hid (show LX w W1 d b X j (.slice sa S.length sc) (.slice ma M.length mc) (.slice none 0 0) S M [] OB (#[.int .i64 kd, .slice la x.l.length lc, .int .i64 x.n, .slice ka x.keep.length kc]) by rw [← hW1, hOB0]; exact lx_made hJF HJ.out.s HJ.out.m _)
                        have HR := Lib.hid hRnd
                        clear hJF hRnd hW1 hOB0 ocell r0 r1 r2 r3 gl
                        go_wp2_with fail
                        go_roundw
                        case rel => exact ⟨k + 1, S, M, fl, by omega, by go_num, rfl, Lib.hid (HX.out.head HR.out hSf hMl)⟩
                        case measure => simp [intOf]; omega
      · have hkl' : ¬ (k : Int) < (L : Int) := by omega
        as_aux_lemma =>
          obtain ⟨X, hjv⟩ := HJ.out.ex
          have hkLe : k = L := by omega
          subst hkLe
          go_upto_region 19 with fail
          obtain ⟨W1, hW1⟩ : ∃ W1, wr.alloc (.cells #[.int .i64 4, .slice none 0 0, .int .i64 0, .slice a1 keep.length c1] 34) = W1 := ⟨_, rfl⟩
          obtain ⟨OB, hOB0⟩ : ∃ OB, OB = wr.heap.size := ⟨_, rfl⟩
          have HY := Lib.hid (show LY w W1 d X (.slice sa S.length sc) (.slice ma M.length mc) (.slice none 0 0) S M [] OB (#[.int .i64 4, .slice none 0 0, .int .i64 0, .slice a1 keep.length c1]) by
            rw [← hW1, hOB0]
            rcases hjv with ⟨_, hDF, _⟩ | ⟨b, j, _, hJF, _⟩
            · exact ly_made hDF HJ.out.s HJ.out.m _
            · exact ly_made hJF.toDF HJ.out.s HJ.out.m _)
          obtain ⟨oj, hoj⟩ : ∃ oj, Jn.Rnd X 3 S M fl oj := by
            rcases hjv with ⟨_, _, h⟩ | ⟨b, j, _, _, h⟩
            · exact ⟨_, h⟩
            · exact ⟨_, h⟩
          rw [hW1, ← hOB0]
          have HR := Lib.hid ((hoj.lose 0).arm 0 [])
          clear hjv hoj hW1 hOB0
          have Qa := Lib.hid (ly_op HY.out (fun T g _ => lose_op 0 (by omega) T g))
          have Qb := Lib.hid (fun w2 (h2 : LY w w2 d (X.lose 0) (.slice sa S.length sc) (.slice ma M.length mc) (.slice none 0 0) S M [] OB (#[.int .i64 4, .slice none 0 0, .int .i64 0, .slice a1 keep.length c1])) => (ly_op h2 (KeepIn.arm (v := .slice none 0 0) (l := []) ⟨⟨none, 0, rfl, rfl, fun _ => rfl, fun ad e => by cases e⟩, by decide, fun _ e => by cases e⟩ h2.1.base 0 (by omega))).mono (R' := fun e w3 => e = .returned (.tuple #[]) ∧ w3.cell? ⟨OB, 0, none⟩ = some (.int .i64 4) ∧ w3.cell? ⟨OB, 3, none⟩ = some (.slice a1 keep.length c1) ∧ Hid (LY w w3 d ((X.lose 0).arm 0 []) (.slice sa S.length sc) (.slice ma M.length mc) (.slice none 0 0) S M [] OB (#[.int .i64 4, .slice none 0 0, .int .i64 0, .slice a1 keep.length c1]))) (fun e w3 ⟨he, h3⟩ => ⟨he, h3.out.2.cell 0, h3.out.2.cell 3, h3⟩))
          have Q1 := Lib.hid (fun w3 (h3 : LY w w3 d ((X.lose 0).arm 0 []) (.slice sa S.length sc) (.slice ma M.length mc) (.slice none 0 0) S M [] OB (#[.int .i64 4, .slice none 0 0, .int .i64 0, .slice a1 keep.length c1])) => ly_op h3 (K1.out.crash h3.1.base))
          have Q2 := Lib.hid (fun w4 (h4 : LY w w4 d (((X.lose 0).arm 0 []).crash keep) (.slice sa S.length sc) (.slice ma M.length mc) (.slice none 0 0) S M [] OB (#[.int .i64 4, .slice none 0 0, .int .i64 0, .slice a1 keep.length c1])) => ly_op h4 (fun T g _ => start_op T g))
          obtain ⟨c, hc⟩ := HR.out.two
          obtain ⟨c1', hc1⟩ := hc.again (by omega) keep
          obtain ⟨E, j', ho, hjf, hjl, hRn⟩ := open_last hc1 (Jn.plain_again _ keep rfl rfl)
          have Q3 := Lib.hid (fun w5 (h5 : LY w w5 d ((((X.lose 0).arm 0 []).crash keep).start) (.slice sa S.length sc) (.slice ma M.length mc) (.slice none 0 0) S M [] OB (#[.int .i64 4, .slice none 0 0, .int .i64 0, .slice a1 keep.length c1])) => ly_open T.out G.out h5 ho)

          obtain ⟨V, hV⟩ : ∃ V, j'.l = V := ⟨_, rfl⟩
          have QA := Lib.hid (fun b2 w6 (h6 : LX w w6 d b2 E j' (.slice sa S.length sc) (.slice ma M.length mc) (.slice none 0 0) S M [] OB (#[.int .i64 4, .slice none 0 0, .int .i64 0, .slice a1 keep.length c1])) => lx_all h6 hjf hV)
          have RN := Lib.hid (hRn M)
          have FV := Lib.hid hjf
          have HV := Lib.hid hV
          by_cases hVS : V = S
          · subst hVS
            have QS := Lib.hid (fun b2 w6 w7 a7 c7 (h6 : LX w w6 d b2 E j' (.slice sa V.length sc) (.slice ma M.length mc) (.slice none 0 0) V M [] OB (#[.int .i64 4, .slice none 0 0, .int .i64 0, .slice a1 keep.length c1])) (h7 : Hid (w7.ownsRow w6.heap.size 9 1 (.slice a7 V.length c7) V.length (strsV V) ∧ RowKit.Below w6.heap.size w6 w7)) => lx_sameT h6 h6.2.s (by omega) h7)
            clear ho hjf hjl hRn hV hc hc1
            go_wp2_with (first | (go_at_call 10; refine Qa.out.mono ?_; rintro e w2 ⟨rfl, h2⟩) | (go_at_call 11; refine (Qb.out _ h2.out).mono ?_; rintro e w3 ⟨rfl, t0, t3, h3⟩) | (go_at_call 18; refine (Q1.out _ h3.out).mono ?_; rintro e w4 ⟨rfl, h4⟩) | (go_at_call 19; refine (Q2.out _ h4.out).mono ?_; rintro e w5 ⟨rfl, h5⟩) | (go_at_call 9; refine (Q3.out _ h5.out).mono ?_; rintro e w6 ⟨b2, rfl, h6⟩) | (go_at_call 15; refine (QS.out _ _ _ _ _ h6.out h7).mono ?_; rintro e w8 ⟨rfl, h8⟩) | (go_at_call 16; refine (QA.out _ _ h6.out).mono ?_; rintro e w7 ⟨a7, c7, rfl, h7⟩) | (go_at_call 16; refine (QA.out _ _ h8.out).mono ?_; rintro e w9 ⟨a9, c9, rfl, h9⟩))
            go_roundw
            case rel => exact ⟨k + 1, V, M, false, by omega, by go_num, rfl, Lib.hid ((h8.out.sure h9.out.2 h9.out.1).head (by rw [← HV.out]; exact RN.out) (by rw [← HV.out]; exact FV.out) hMl)⟩
            case measure => first | (simp [intOf]; done) | (simp [intOf]; omega)
          · obtain ⟨rfl, hVM⟩ : fl = true ∧ V = M := by
              rcases hjl with e | ⟨e1, e2⟩
              · exact absurd (hV.symm.trans e) hVS
              · exact ⟨e1, hV.symm.trans e2⟩
            have HVM := Lib.hid hVM
            have QS := Lib.hid (fun b2 w6 w7 a7 c7 (h6 : LX w w6 d b2 E j' (.slice sa S.length sc) (.slice ma M.length mc) (.slice none 0 0) S M [] OB (#[.int .i64 4, .slice none 0 0, .int .i64 0, .slice a1 keep.length c1])) (h7 : Hid (w7.ownsRow w6.heap.size 9 1 (.slice a7 V.length c7) V.length (strsV V) ∧ RowKit.Below w6.heap.size w6 w7)) => lx_sameF h6 h6.2.s (by omega) hVS h7)
            have QM := Lib.hid (fun b2 w6 w7 a7 c7 (h6 : LX w w6 d b2 E j' (.slice sa S.length sc) (.slice ma M.length mc) (.slice none 0 0) S M [] OB (#[.int .i64 4, .slice none 0 0, .int .i64 0, .slice a1 keep.length c1])) (h7 : Hid (w7.ownsRow w6.heap.size 9 1 (.slice a7 V.length c7) V.length (strsV V) ∧ RowKit.Below w6.heap.size w6 w7)) => lx_sameT (v := .slice ma M.length mc) h6 (by rw [HVM.out]; exact h6.2.m) (by rw [HVM.out]; omega) h7)
            clear ho hjf hjl hRn hV hVS hVM hc hc1
            go_wp2_with (first | (go_at_call 10; refine Qa.out.mono ?_; rintro e w2 ⟨rfl, h2⟩) | (go_at_call 11; refine (Qb.out _ h2.out).mono ?_; rintro e w3 ⟨rfl, t0, t3, h3⟩) | (go_at_call 18; refine (Q1.out _ h3.out).mono ?_; rintro e w4 ⟨rfl, h4⟩) | (go_at_call 19; refine (Q2.out _ h4.out).mono ?_; rintro e w5 ⟨rfl, h5⟩) | (go_at_call 9; refine (Q3.out _ h5.out).mono ?_; rintro e w6 ⟨b2, rfl, h6⟩))
            have qa6 := QA.out _ _ h6.out
            refine qa6.mono ?_
            clear qa6
            rintro e w7 ⟨a7, c7, rfl, h7⟩
            go_wp2_with fail
            refine (QS.out _ _ _ _ _ h6.out h7).mono ?_
            rintro e w8 ⟨rfl, h8⟩
            go_wp2_with fail
            refine (QA.out _ _ h8.out).mono ?_
            rintro e w9 ⟨a9, c9, rfl, h9⟩
            go_wp2_with fail
            refine (QM.out _ _ _ _ _ h8.out h9).mono ?_
            rintro e w10 ⟨rfl, h10⟩
            go_wp2_with fail
            refine (QA.out _ _ h10.out).mono ?_
            rintro e w11 ⟨a11, c11, rfl, h11⟩
            go_wp2_with fail
            go_roundw
            case rel => exact ⟨k + 1, V, M, false, by omega, by go_num, rfl, Lib.hid ((h10.out.sure h11.out.2 h11.out.1).head (by rw [← HV.out]; exact RN.out) (by rw [← HV.out]; exact FV.out) hMl)⟩
            case measure => first | (simp [intOf]; done) | (simp [intOf]; omega)
    · have hkL' : ¬ (k : Int) ≤ (L : Int) := by omega
      have R := Lib.hid HJ.out.base
      go_wp2_with fail
      go_ret
      exact ⟨rfl, R.out⟩

theorem jlasts_law (v : Value) (l : List Op6) (keep : List Int) (h1 : keep.length ≤ 9223372036854775807) (hi1 : ∀ k ∈ keep, In64 k) (a1 : Option Addr) (c1 : Nat) (w : World) (h : OpsIn6 w v l) (hk1 : SrcV w 1 (.slice a1 keep.length c1) keep.length (intsV keep)) (hgt : Good w ∧ Tab w) :
    Calls Tryz.prog 3 #[v, .slice a1 keep.length c1] w fun e w' => e = .returned (.bool true) ∧ RowKit.Below w.heap.size w w' := by
  by_cases he : few6 l = true ∧ keep.length ≤ 50
  · exact jlasts_in v l keep a1 c1 w h hgt.2 hgt.1 he.1 he.2 ⟨hk1, by omega, hi1⟩
  · exact jlasts_out v l a1 _ c1 w h h1 hgt.2 hgt.1 he
end Go.Proofs.YtljgfnglknpfaaaGreatDoor
