/-
  JournalStays: the walk.
-/
import Derived.Test.YtljgfnglknpfaaaGreatDoorJStays
namespace Go.Proofs.YtljgfnglknpfaaaGreatDoor
set_option maxRecDepth 100000
open Go Go.RowKit Go.Sort Dk

/-- Such a journal, and the list that the law keeps. -/
def SWO (w0 w : World) (d b f : Nat) (W : List (List UInt8)) (wv : Value) : Prop := SW w0 w d b f W (fun k => wv.ownBlock = some k) ∧ w.ownsRow w0.heap.size 9 1 wv W.length (strsV W)
def SWC (w0 w : World) (d f : Nat) (W : List (List UInt8)) (wv : Value) : Prop := SWD w0 w d f W (fun k => wv.ownBlock = some k) ∧ w.ownsRow w0.heap.size 9 1 wv W.length (strsV W)
def SWP (w0 w : World) (d f : Nat) (W : List (List UInt8)) (wv : Value) : Prop := (∃ X c, Jn.Plain X ∧ DF w0 w d X (fun k => wv.ownBlock = some k) ∧ Jn.Two X f c (fun m => m = W) ∧ (Jn.form W).length ≤ 1048576) ∧ w.ownsRow w0.heap.size 9 1 wv W.length (strsV W)
theorem own_held {w0 w w' : World} {wv : Value} {n : Nat} {xs : List Value} (h : w.ownsRow w0.heap.size 9 1 wv n xs) (hk : Held (fun k => wv.ownBlock = some k) w w') : w'.ownsRow w0.heap.size 9 1 wv n xs := own_kept h hk (fun _ e e' => e' e)
theorem SW.len {w0 w : World} {d b f : Nat} {W : List (List UInt8)} {F : Nat → Prop} (h : SW w0 w d b f W F) : W.length ≤ 1048576 := by
  obtain ⟨X, j, _, _, _, _, _, h5⟩ := h
  have := (Jn.form_len W).1
  omega
theorem swo_same {w0 w w1 : World} {d b f : Nat} {W : List (List UInt8)} {wv : Value} {a : Option Addr} {c : Nat} (h : SWO w0 w d b f W wv) (h1 : Hid (w1.ownsRow w.heap.size 9 1 (.slice a W.length c) W.length (strsV W) ∧ RowKit.Below w.heap.size w w1)) :
    Calls Tryz.prog 15 #[.slice a W.length c, wv] w1 fun e w' => e = .returned (.bool true) ∧ Hid (SWO w0 w' d b f W wv) := by
  have hl := h.1.len
  refine (sameT_true W _ _ w1 (SrcV.own (own_base h1.out.1)) ((SrcV.own (own_base h.2)).on h1.out.2) (by omega)).mono ?_
  rintro e w' ⟨rfl, hb⟩
  have hb2 : RowKit.Below w.heap.size w w' := h1.out.2.trans (hb.mono h1.out.2.size)
  exact ⟨rfl, h.1.below hb2 (fun _ e => Or.inl e), own_kept (S := fun _ => False) h.2 (Kept.below hb2) (fun _ _ e => e)⟩
theorem swo_crash {w0 w : World} {d b f : Nat} {W : List (List UInt8)} {wv : Value} (h : SWO w0 w d b f W wv) (hf : f < 15) {v : Value} {l : List Int} (hk : KeepIn w0 v l) :
    Calls Tryz.prog 18 #[.pointer (some ⟨d, 0, none⟩), v] w fun e w' => e = .returned (.tuple #[]) ∧ Hid (SWC w0 w' d f W wv) :=
  (sw_crash h.1 hf hk).mono fun _ _ ⟨he, g⟩ => ⟨he, g.out.1, own_held h.2 g.out.2⟩
theorem swc_start {w0 w : World} {d f : Nat} {W : List (List UInt8)} {wv : Value} (h : SWC w0 w d f W wv) (hf : f < 15) :
    Calls Tryz.prog 19 #[.pointer (some ⟨d, 0, none⟩)] w fun e w' => e = .returned (.tuple #[]) ∧ Hid (SWP w0 w' d f W wv) :=
  (swd_start h.1 hf).mono fun _ _ ⟨he, g⟩ => ⟨he, g.out.1, own_held h.2 g.out.2⟩
theorem swp_open {w0 w : World} {d f : Nat} {W : List (List UInt8)} {wv : Value} (ht : Tab w0) (hg : Good w0) (h : SWP w0 w d f W wv) (hf : f < 15) :
    Calls Tryz.prog 9 #[.pointer (some ⟨d, 0, none⟩), .int .i64 (f : Int)] w fun e w' => ∃ b, e = .returned (.tuple #[.pointer (some ⟨b, 0, none⟩), .int .i64 0]) ∧ Hid (SWO w0 w' d b f W wv) :=
  (swd_open ht hg h.1 hf).mono fun _ _ ⟨b, he, g⟩ => ⟨b, he, g.out.1, own_held h.2 g.out.2⟩

set_option maxHeartbeats 1000000 in
theorem jstays_out (v sv : Value) (l : List Op6) (s : List (List UInt8)) (a1 a2 : Option Addr) (n1 n2 c1 c2 : Nat) (w : World) (h : OpsIn6 w v l) (hs : SrcV w 1 sv s.length (strsV s)) (hsl : s.length ≤ 9223372036854775807) (hn1 : n1 ≤ 9223372036854775807) (hn2 : n2 ≤ 9223372036854775807) (ht : Tab w) (hg : Good w) (he : ¬ (few6 l = true ∧ textsM s = true ∧ n1 ≤ 50 ∧ n2 ≤ 50)) :
    Calls Tryz.prog 4 #[v, sv, .slice a1 n1 c1, .slice a2 n2 c2] w fun e w' => e = .returned (.bool true) ∧ RowKit.Below w.heap.size w w' := by
  have h0 := h
  obtain ⟨_, va, vc, rfl, _⟩ := h0
  have hs0 := hs
  obtain ⟨sa, sc, rfl, _⟩ := hs0
  have H := Lib.hid h
  have HS := Lib.hid hs
  clear h hs
  go_enter Tryz.func4, Tryz.ntmps4
  go_wp2_with fail
  refine (jsmall_c w ht hg).mono ?_
  rintro e w1 ⟨rfl, hb1⟩
  have Q1 := Lib.hid (few6_c _ l w1 (H.out.on hb1))
  have Q2 := Lib.hid (texts_c _ s w1 (HS.out.on hb1) hsl)
  have HB := Lib.hid hb1
  clear hb1
  cases hf : few6 l with
  | false =>
    rw [hf] at Q1
    clear he hf
    go_wp2_with (first | (go_at_call 7; refine Q1.out.mono ?_; rintro e w2 ⟨rfl, hw⟩; rw [hw]; clear hw) | (go_at_call 20; refine Q2.out.mono ?_; rintro e w2 ⟨rfl, hw⟩; rw [hw]; clear hw))
    go_ret
    exact ⟨rfl, HB.out⟩
  | true =>
    rw [hf] at Q1
    cases hx : textsM s with
    | false =>
      rw [hx] at Q2
      clear he hf hx
      go_wp2_with (first | (go_at_call 7; refine Q1.out.mono ?_; rintro e w2 ⟨rfl, hw⟩; rw [hw]; clear hw) | (go_at_call 20; refine Q2.out.mono ?_; rintro e w2 ⟨rfl, hw⟩; rw [hw]; clear hw))
      go_ret
      exact ⟨rfl, HB.out⟩
    | true =>
      rw [hx] at Q2
      by_cases h1 : 50 < n1
      · have h1' : (50 : Int) < (n1 : Int) := by omega
        clear he hf hx h1
        go_wp2_with (first | (go_at_call 7; refine Q1.out.mono ?_; rintro e w2 ⟨rfl, hw⟩; rw [hw]; clear hw) | (go_at_call 20; refine Q2.out.mono ?_; rintro e w2 ⟨rfl, hw⟩; rw [hw]; clear hw))
        go_ret
        exact ⟨rfl, HB.out⟩
      · by_cases h2 : 50 < n2
        · have h1' : ¬ (50 : Int) < (n1 : Int) := by omega
          have h2' : (50 : Int) < (n2 : Int) := by omega
          clear he hf hx h1 h2
          go_wp2_with (first | (go_at_call 7; refine Q1.out.mono ?_; rintro e w2 ⟨rfl, hw⟩; rw [hw]; clear hw) | (go_at_call 20; refine Q2.out.mono ?_; rintro e w2 ⟨rfl, hw⟩; rw [hw]; clear hw))
          go_ret
          exact ⟨rfl, HB.out⟩
        · exact absurd ⟨hf, hx, by omega, by omega⟩ he

set_option maxHeartbeats 4000000 in
theorem jstays_in (v sv : Value) (l : List Op6) (s : List (List UInt8)) (one two : List Int) (a1 a2 : Option Addr) (c1 c2 : Nat) (w : World) (h : OpsIn6 w v l) (hs : SrcV w 1 sv s.length (strsV s)) (ht : Tab w) (hg : Good w) (hf : few6 l = true) (hx : textsM s = true) (h1 : one.length ≤ 50) (h2 : two.length ≤ 50) (hk1 : KeepIn w (.slice a1 one.length c1) one) (hk2 : KeepIn w (.slice a2 two.length c2) two) :
    Calls Tryz.prog 4 #[v, sv, .slice a1 one.length c1, .slice a2 two.length c2] w fun e w' => e = .returned (.bool true) ∧ RowKit.Below w.heap.size w w' := by
  have h0 := h
  obtain ⟨hM, va, vc, rfl, hmc⟩ := h0
  have hs0 := hs
  obtain ⟨sa, sc, rfl, _⟩ := hs0
  obtain ⟨hl25, hfm⟩ := few6_out hf
  obtain ⟨hs8, hs200⟩ := textsM_out hx
  have H := Lib.hid h
  have HS := Lib.hid hs
  have MC := Lib.hid hmc
  have FM := Lib.hid hfm
  have S2 := Lib.hid hs200
  have K1 := Lib.hid hk1
  have K2 := Lib.hid hk2
  have T := Lib.hid ht
  have G := Lib.hid hg
  have h1' : ¬ (50 : Int) < (one.length : Int) := by omega
  have h2' : ¬ (50 : Int) < (two.length : Int) := by omega
  clear h hs hmc hfm hs200 hk1 hk2 ht hg
  go_enter Tryz.func4, Tryz.ntmps4
  go_wp2_with fail
  refine (jsmall_c w T.out G.out).mono ?_
  rintro e w1 ⟨rfl, hb1⟩
  have q1 := few6_c _ l w1 (H.out.on hb1)
  have q2 := texts_c _ s w1 (HS.out.on hb1) (by omega)
  rw [hf] at q1
  rw [hx] at q2
  have Q1 := Lib.hid q1
  have Q2 := Lib.hid q2
  have QN := Lib.hid (dd_new hb1)
  clear hb1 q1 q2 hf hx
  go_wp2_with (first | (go_at_call 7; refine Q1.out.mono ?_; rintro e w2 ⟨rfl, hw⟩; rw [hw]; clear hw) | (go_at_call 20; refine Q2.out.mono ?_; rintro e w2 ⟨rfl, hw⟩; rw [hw]; clear hw) | (go_at_call 8; refine QN.out.mono ?_; rintro e w2 ⟨d, rfl, g2⟩))
  have q3 := sd_open (f := 0) T.out G.out ⟨D.new, rfl, g2.out.toDF, _, _, Jn.Two.new⟩ (by omega)
  refine q3.mono ?_
  clear q3
  rintro e w3 ⟨jv, z0, rfl, g3⟩
  have G3 := Lib.hid g3.out.1
  clear g2 g3
  obtain ⟨L, hL⟩ : ∃ L, L = l.length := ⟨_, rfl⟩
  rw [← hL] at hM hl25 ⊢
  have HL := Lib.hid hL
  clear hL
  go_wp2_with fail
  go_loopw [11, 13] (fun v11 v13 wr => ∃ k : Nat, k ≤ L ∧ v13 = .int .i64 (k : Int) ∧ Hid (SJ w wr d 0 v11 (fun _ => False))) (fun _ v13 _ => L - (intOf v13).toNat)
  case atStart => exact ⟨0, Nat.zero_le _, rfl, G3⟩
  case round =>
    obtain ⟨k, hk, rfl, HJ⟩ := hrel
    clear G3
    have hb := HJ.out.base
    by_cases hkl : k < L
    · have hkl' : (k : Int) < (L : Int) := by omega
      obtain ⟨x, hx⟩ : ∃ x, l[k]? = some x := ⟨l[k]'(by have := HL.out; omega), List.getElem?_eq_getElem _⟩
      obtain ⟨g, off, lv, kv, rfl, hrow0⟩ := MC.out k x hx
      obtain ⟨hfx1, hfx2⟩ := FM.out x (List.mem_of_getElem? hx)
      obtain ⟨hx8, hx200⟩ := textsM_out hfx1
      have hrow : OpRow wr g (off + k * 4) x lv kv := hrow0.on hb
      have r0 := hrow.c0
      have r1 := hrow.c1
      have r2 := hrow.c2
      have r3 := hrow.c3
      have ha := ArgIn.came' hrow0.ls hb (fun _ => False)
      have hkp : KeepIn w kv x.keep := ⟨hrow0.ks, by omega, hrow0.fit.keepIn⟩
      obtain ⟨la, lc, rfl, _⟩ := hrow0.ls
      obtain ⟨ka, kc, rfl, _⟩ := hrow0.ks
      have hn := hrow0.fit.n
      have HA := Lib.hid ha
      have KP := Lib.hid hkp
      have X2 := Lib.hid hx200
      have HB := Lib.hid hb
      have gl : g < wr.heap.size := Lib.lt_of_cell r0
      obtain ⟨kd, hkd⟩ : ∃ kd, kd = x.kind := ⟨_, rfl⟩
      rw [← hkd] at r0
      clear hrow0 hrow ha hkp hx200 hx hfx1 hkd hb
      by_cases e0 : kd = 0
      · subst e0
        rcases HJ.out.val with rfl | ⟨b, rfl⟩
        · go_wp2_with fail
          go_roundw
          case rel => exact ⟨k + 1, by omega, by go_num, HJ⟩
          case measure => simp [intOf]; omega
        · have Q := Lib.hid (sj_append T.out G.out HJ.out (by omega) _ x.l HA.out (fun y hy => by have := X2.out y hy; omega) (by omega))
          go_wp2_with (go_at_call 12; refine Q.out.mono ?_; rintro e w4 ⟨z, rfl, hp⟩)
          go_roundw
          case rel => exact ⟨k + 1, by omega, by go_num, hp.out.1⟩
          case measure => simp [intOf]; omega
      · have b0 : (kd == 0) = false := by simpa using e0
        by_cases e1 : kd = 1
        · subst e1
          clear e0 b0
          rcases HJ.out.val with rfl | ⟨b, rfl⟩
          · go_wp2_with fail
            go_roundw
            case rel => exact ⟨k + 1, by omega, by go_num, HJ⟩
            case measure => simp [intOf]; omega
          · have Q := Lib.hid (sj_cut T.out G.out HJ.out (by omega) x.n)
            go_wp2_with (go_at_call 13; refine Q.out.mono ?_; rintro e w4 ⟨z, rfl, hp⟩)
            go_roundw
            case rel => exact ⟨k + 1, by omega, by go_num, hp.out.1⟩
            case measure => simp [intOf]; omega
        · have b1 : (kd == 1) = false := by simpa using e1
          by_cases e2 : kd = 2
          · subst e2
            clear e0 b0 e1 b1
            have Q := Lib.hid (sj_lose HJ.out x.n hn.2)
            go_wp2_with (go_at_call 10; refine Q.out.mono ?_; rintro e w4 ⟨rfl, hp⟩)
            go_roundw
            case rel => exact ⟨k + 1, by omega, by go_num, hp.out.1⟩
            case measure => simp [intOf]; omega
          · have b2 : (kd == 2) = false := by simpa using e2
            by_cases e4 : kd = 4
            · subst e4
              clear e0 b0 e1 b1 e2 b2
              have Q1 := Lib.hid (sd_crash HJ.out.disk (by omega) KP.out)
              have Q2 := Lib.hid (fun w4 (h4 : SD w w4 d 0 (fun _ => False)) => sd_start h4 (by omega))
              have Q3 := Lib.hid (fun w4 (h4 : SD w w4 d 0 (fun _ => False)) => sd_open T.out G.out h4 (by omega))
              go_wp2_with (first | (go_at_call 18; refine Q1.out.mono ?_; rintro e w4 ⟨rfl, hp⟩) | (go_at_call 19; refine (Q2.out _ hp.out.1).mono ?_; rintro e w5 ⟨rfl, hp5⟩) | (go_at_call 9; refine (Q3.out _ hp5.out.1).mono ?_; rintro e w6 ⟨jv', z, rfl, hp6⟩))
              go_roundw
              case rel => exact ⟨k + 1, by omega, by go_num, hp6.out.1⟩
              case measure => simp [intOf]; omega
            · have b4 : (kd == 4) = false := by simpa using e4
              clear e0 e1 e2 e4
              go_wp2_with fail
              go_roundw
              case rel => exact ⟨k + 1, by omega, by go_num, HJ⟩
              case measure => simp [intOf]; omega
    · have hkl' : ¬ (k : Int) < (L : Int) := by omega
      rcases HJ.out.val with rfl | ⟨b, rfl⟩
      · have HB := Lib.hid hb
        clear hb
        go_wp2_with fail
        go_ret
        exact ⟨rfl, HB.out⟩
      · obtain ⟨X, j, P, hX0, hJF, hJS, hjl⟩ := HJ.out.jf
        have hBl := (Jn.form_len j.l).1
        have qa := jall_c hJF (by omega)
        have HJF := Lib.hid hJF
        have HJS := Lib.hid hJS
        have QA := Lib.hid qa
        obtain ⟨B, hB⟩ : ∃ B, B = j.l := ⟨_, rfl⟩
        rw [← hB] at QA hjl hBl
        have hap := Jn.append_done (s := s) hJS (by omega)
        have hX1 := Jn.append_left hX0 0 j s
        have qp := fun w1 F (h1 : JF w w1 d b 0 X j F) (hA : ArgIn w w1 F (.slice sa s.length sc) s) => jappend_c (w := w1) T.out G.out h1 (by omega) (fun _ => by rw [← hB]; exact hjl) _ s hA (fun y hy => by have := S2.out y hy; omega) (by omega)
        obtain ⟨R, hR⟩ : ∃ R, Jn.appendJ X 0 j s = R := ⟨_, rfl⟩
        have hR' : Jn.appendJ X ((0 : Nat) : Int) j s = R := hR
        rw [hR'] at hap
        rw [hR] at hX1 qp
        obtain ⟨X', j', z⟩ := R
        dsimp only at hX1 qp
        have QP := Lib.hid qp
        have HAP := Lib.hid hap
        have HBB := Lib.hid hB
        clear hJF hJS qa qp hap hR hR' hb hB
        go_wp2_with fail
        refine QA.out.mono ?_
        rintro e w4 ⟨bv, rfl, hown4, hb4⟩
        obtain ⟨ba, bc, rfl, _⟩ := own_shape (own_base hown4)
        have hw4 : w.heap.size ≤ wr.heap.size := HJ.out.base.size
        have H4 := Lib.hid (HJF.out.below hb4 (G := fun k => (Value.slice ba B.length bc).ownBlock = some k) (fun k e => Or.inr (hown4.lt k e)))
        have O4 := Lib.hid (own_low hown4 hw4)
        clear hown4 hb4 QA
        go_wp2_with fail
        refine (QP.out _ _ H4.out (ArgIn.came' HS.out H4.out.base _)).mono ?_
        rintro e w5 ⟨rfl, g5⟩
        have O5 := Lib.hid (own_kept O4.out g5.out.2 (fun k e e' => e' e))
        by_cases hz : z = 0
        · subst hz
          obtain ⟨k1, k2, k3⟩ := HAP.out.good rfl
          dsimp only at k1 k2 k3
          have hfw := (k1.held (by omega) k3).2.2
          rw [k2, ← HBB.out] at hfw
          rw [← HBB.out] at k1 k2
          have hWl := (Jn.form_len (B ++ s)).1
          rw [List.length_append] at hWl
          obtain ⟨na, nc, N, w6, hN, hrun, hown6, hJ6⟩ := want_run g5.out.1 O5.out (HS.out.on g5.out.1.base) (by omega)
          have HRUN := Lib.hid hrun
          have H6 := Lib.hid hJ6
          have O6 := Lib.hid hown6
          obtain ⟨W, hW⟩ : ∃ W, W = B ++ s := ⟨_, rfl⟩
          rw [← hW] at k1 k2 hfw hN O6
          have C1 := Lib.hid k1
          have C2 := Lib.hid k2
          have C3 := Lib.hid hfw
          subst hN
          have QL := Lib.hid (hJ6.op (fun S g _ => lose_op 0 (by omega) S g))
          clear hrun hJ6 hown6 k1 k2 hfw hW HAP hWl
          go_wp2_with (at_builtin; refine Lib.wpList_append_run _ rfl _ _ _ _ rfl _ _ rfl rfl _ w6 HRUN.out ?_)
          refine QL.out.mono ?_
          rintro e w7 ⟨rfl, g7⟩
          have S7 := Lib.hid (show SWO w w7 d b 0 W (.slice na W.length nc) from ⟨⟨X'.lose 0, j', hX1, rfl, g7.out.1, C1.out.lose 0, C2.out, C3.out⟩, own_held O6.out g7.out.2⟩)
          clear g5 g7
          obtain ⟨wo, hwo⟩ : ∃ wo : World, wo = wr := ⟨_, rfl⟩
          subst hwo
          go_wp2_with fail
          go_loopw [11, 16] (fun v11 v16 wr => ∃ i b : Nat, i ≤ 2 ∧ v16 = .int .i64 (i : Int) ∧ v11 = .pointer (some ⟨b, 0, none⟩) ∧ Hid (SWO w wr d b 0 W (.slice na W.length nc))) (fun _ v16 _ => 2 - (intOf v16).toNat)
          case atStart => exact ⟨0, b, by omega, rfl, rfl, S7⟩
          case round =>
            obtain ⟨i, b', hi, rfl, rfl, HS7⟩ := hrel
            have QA := Lib.hid (sw_all HS7.out.1)
            have QT := Lib.hid (fun w8 a c h8 => swo_same (w1 := w8) (a := a) (c := c) HS7.out h8)
            have Q3 := Lib.hid (fun w8 (h8 : SWC w w8 d 0 W (.slice na W.length nc)) => swc_start h8 (by omega))
            have Q4 := Lib.hid (fun w8 (h8 : SWP w w8 d 0 W (.slice na W.length nc)) => swp_open T.out G.out h8 (by omega))
            have i3 : i = 0 ∨ i = 1 ∨ i = 2 := by omega
            rcases i3 with rfl | rfl | rfl
            · have Q2 := Lib.hid (fun w8 (h8 : SWO w w8 d b' 0 W (.slice na W.length nc)) => swo_crash h8 (by omega) K1.out)
              go_wp2_with (first | (go_at_call 16; refine QA.out.mono ?_; rintro e w8 ⟨a8, q8, rfl, h8⟩) | (go_at_call 15; refine (QT.out _ _ _ h8).mono ?_; rintro e w9 ⟨rfl, h9⟩) | (go_at_call 18; refine (Q2.out _ h9.out).mono ?_; rintro e w10 ⟨rfl, h10⟩) | (go_at_call 19; refine (Q3.out _ h10.out).mono ?_; rintro e w11 ⟨rfl, h11⟩) | (go_at_call 9; refine (Q4.out _ h11.out).mono ?_; rintro e w12 ⟨b2, rfl, h12⟩))
              go_roundw
              case rel => exact ⟨1, b2, by omega, rfl, rfl, h12⟩
              case measure => simp [intOf]
            · have Q2 := Lib.hid (fun w8 (h8 : SWO w w8 d b' 0 W (.slice na W.length nc)) => swo_crash h8 (by omega) K2.out)
              go_wp2_with (first | (go_at_call 16; refine QA.out.mono ?_; rintro e w8 ⟨a8, q8, rfl, h8⟩) | (go_at_call 15; refine (QT.out _ _ _ h8).mono ?_; rintro e w9 ⟨rfl, h9⟩) | (go_at_call 18; refine (Q2.out _ h9.out).mono ?_; rintro e w10 ⟨rfl, h10⟩) | (go_at_call 19; refine (Q3.out _ h10.out).mono ?_; rintro e w11 ⟨rfl, h11⟩) | (go_at_call 9; refine (Q4.out _ h11.out).mono ?_; rintro e w12 ⟨b2, rfl, h12⟩))
              go_roundw
              case rel => exact ⟨2, b2, by omega, rfl, rfl, h12⟩
              case measure => simp [intOf]
            · go_wp2_with (first | (go_at_call 16; refine QA.out.mono ?_; rintro e w8 ⟨a8, q8, rfl, h8⟩) | (go_at_call 15; refine (QT.out _ _ _ h8).mono ?_; rintro e w9 ⟨rfl, h9⟩))
              go_ret
              exact ⟨rfl, h9.out.1.base⟩
        · have hzb : (z != 0) = true := by simpa using hz
          have hl' : j'.l = B := by
            rcases HAP.out.code with e | e | e | e | e
            · exact absurd e hz
            · have := HAP.out.full (Or.inl e)
              injection this with _ this
              injection this with this _
              rw [this, HBB.out]
            · have := HAP.out.full (Or.inr e)
              injection this with _ this
              injection this with this _
              rw [this, HBB.out]
            · rw [(HAP.out.fail (Or.inl e)).2.1, HBB.out]
            · rw [(HAP.out.fail (Or.inr e)).2.1, HBB.out]
          have qa := jall_c g5.out.1 (by rw [hl']; omega)
          rw [hl'] at qa
          have QA := Lib.hid qa
          clear qa hl' hz
          go_wp2_with fail
          refine QA.out.mono ?_
          rintro e w6 ⟨v6, rfl, hown6, hb6⟩
          obtain ⟨qa6, qc6, rfl, _⟩ := own_shape (own_base hown6)
          have Q7 := Lib.hid (sameT_true B _ _ w6 (SrcV.own (own_base hown6)) ((SrcV.own (own_base O5.out)).on hb6) (by omega))
          have HB6 := Lib.hid (g5.out.1.base.trans (hb6.mono g5.out.1.base.size))
          clear hown6 hb6
          go_wp2_with fail
          refine Q7.out.mono ?_
          rintro e w7 ⟨rfl, hb7⟩
          have HB7 := Lib.hid (HB6.out.trans (hb7.mono HB6.out.size))
          clear hb7
          go_wp2_with fail
          go_ret
          exact ⟨rfl, HB7.out⟩

theorem jstays_law (v sv : Value) (l : List Op6) (s : List (List UInt8)) (one two : List Int) (h1 : one.length ≤ 9223372036854775807) (hi1 : ∀ k ∈ one, In64 k) (h2 : two.length ≤ 9223372036854775807) (hi2 : ∀ k ∈ two, In64 k) (a1 a2 : Option Addr) (c1 c2 : Nat) (w : World) (h : OpsIn6 w v l) (hs : SrcV w 1 sv s.length (strsV s)) (hsl : s.length ≤ 9223372036854775807)
    (hk1 : SrcV w 1 (.slice a1 one.length c1) one.length (intsV one)) (hk2 : SrcV w 1 (.slice a2 two.length c2) two.length (intsV two)) (hgt : Good w ∧ Tab w) :
    Calls Tryz.prog 4 #[v, sv, .slice a1 one.length c1, .slice a2 two.length c2] w fun e w' => e = .returned (.bool true) ∧ RowKit.Below w.heap.size w w' := by
  by_cases he : few6 l = true ∧ textsM s = true ∧ one.length ≤ 50 ∧ two.length ≤ 50
  · exact jstays_in v sv l s one two a1 a2 c1 c2 w h hs hgt.2 hgt.1 he.1 he.2.1 he.2.2.1 he.2.2.2 ⟨hk1, by omega, hi1⟩ ⟨hk2, by omega, hi2⟩
  · exact jstays_out v sv l s a1 a2 _ _ c1 c2 w h hs hsl h1 h2 hgt.2 hgt.1 he
end Go.Proofs.YtljgfnglknpfaaaGreatDoor
