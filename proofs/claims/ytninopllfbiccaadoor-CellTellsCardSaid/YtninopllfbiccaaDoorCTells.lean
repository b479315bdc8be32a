/-
  CellTells: the walk.
-/
import Derived.Test.YtninopllfbiccaaDoorCWith
namespace Go.Proofs.YtninopllfbiccaaDoor
set_option maxRecDepth 100000
open Go Go.RowKit Go.Maps Dk

set_option maxHeartbeats 1000000 in
set_option maxRecDepth 100000 in
theorem ctells_out (v : Value) (l : List Op5) (w : World) (h : OpsIn w v l) (ht : Tab w) (he : few5 l = false) :
    Calls Tryd.prog 3 #[v] w fun e w' => e = .returned (.bool true) ∧ Below w.heap.size w w' := by
  have h0 := h
  obtain ⟨_, va, vc, rfl, _⟩ := h0
  have H := Lib.hid h
  clear h
  go_enter Tryd.func3, Tryd.ntmps3
  go_wp2_with fail
  refine (cSmall_c w ht).mono ?_
  rintro e w1 ⟨rfl, hb1⟩
  go_wp2_with fail
  refine (cFew_c _ l w1 (H.out.on hb1)).mono ?_
  rintro e w2 ⟨rfl, h2⟩
  rw [h2, he]
  clear h2
  have HB := Lib.hid hb1
  clear hb1
  go_wp2_with fail
  go_ret
  exact ⟨rfl, HB.out⟩

/-- In the midst of a run: both cells, alike. -/
structure TL (w0 w : World) (d ba r bb : Nat) (Y : D) (c : Ck.C) : Prop where
  both : Both w0 w (PCa d ba 3 Y c) (RCa r bb 3 Y c)
  st : Ck.St Y 3 c (fun _ _ => True)
theorem keep_nil (w : World) : KeepIn w (.slice none 0 0) [] := ⟨nil_src w, by simp, fun k hk => by cases hk⟩

set_option maxHeartbeats 4000000 in
set_option maxRecDepth 100000 in
theorem ctells_in (v : Value) (l : List Op5) (w : World) (h : OpsIn w v l) (ht : Tab w) (hf : few5 l = true) :
    Calls Tryd.prog 3 #[v] w fun e w' => e = .returned (.bool true) ∧ Below w.heap.size w w' := by
  have h0 := h
  obtain ⟨hM, va, vc, rfl, hmc⟩ := h0
  have H := Lib.hid h
  have MC := Lib.hid hmc
  have FM := Lib.hid (few5_mem hf).2
  have T := Lib.hid ht
  clear h hmc ht
  go_enter Tryd.func3, Tryd.ntmps3
  go_wp2_with fail
  refine (cSmall_c w T.out).mono ?_
  rintro e w1 ⟨rfl, hb1⟩
  go_wp2_with fail
  refine (cFew_c _ l w1 (H.out.on hb1)).mono ?_
  rintro e w2 ⟨rfl, hw2⟩
  rw [hw2, hf]
  clear hw2 hf
  go_wp2_with fail
  refine (dd_new hb1).mono ?_
  rintro e w2 ⟨d, rfl, g2⟩
  clear hb1
  go_wp2_with fail
  refine (both_new g2.out.2 g2.out.1).mono ?_
  rintro e w3 ⟨r, rfl, g3⟩
  clear g2
  go_wp2_with fail
  refine ((g3.out).left (RDa.solid r D.new) (fun U hU _ hb => pd_open T.out hb hU in3 (Ck.St.new (i := 3)).1)).mono ?_
  rintro e w4 ⟨ba0, rfl, g4⟩
  clear g3
  go_wp2_with fail
  refine ((g4.out).right (PCa.solid d ba0 3 D.new _) (fun U hU _ _ => rd_open hU (Ck.St.new (i := 3)).1)).mono ?_
  rintro e w5 ⟨bb0, rfl, g5⟩
  clear g4
  have G := Lib.hid (show TL w w5 d ba0 r bb0 D.new ⟨0, [], false⟩ from ⟨g5.out, (Ck.St.new (i := 3)).2.mono (fun _ _ _ => trivial)⟩)
  clear g5
  obtain ⟨L, hL⟩ : ∃ L, L = l.length := ⟨_, rfl⟩
  rw [← hL] at hM ⊢
  have HL := Lib.hid hL
  clear hL
  go_wp2_with fail
  go_loopw [7, 8, 9, 10, 11, 12, 13, 14, 15, 16] (fun v7 _ v9 _ v11 _ _ _ _ _ wr => ∃ (k ba bb : Nat) (Y : D) (c : Ck.C), k ≤ L ∧ v11 = .int .i64 (k : Int) ∧ v7 = .pointer (some ⟨ba, 0, none⟩) ∧ v9 = .pointer (some ⟨bb, 0, none⟩) ∧ TL w wr d ba r bb Y c) (fun _ _ _ _ v11 _ _ _ _ _ _ => L - (intOf v11).toNat)
  case atStart => exact ⟨0, ba0, bb0, _, _, Nat.zero_le _, rfl, rfl, rfl, G.out⟩
  case round =>
    obtain ⟨k, ba, bb, Y, c, hk, rfl, rfl, rfl, hr⟩ := hrel
    by_cases hkl : k < L
    · have hkl' : (k : Int) < (L : Int) := by omega
      obtain ⟨x, hx⟩ : ∃ x, l[k]? = some x := ⟨l[k]'(by have := HL.out; omega), List.getElem?_eq_getElem _⟩
      obtain ⟨g, off, ya, yc, rfl, ⟨i0, i1, i2, i3⟩, hsrc, hok⟩ := MC.out k x hx
      have hfx := FM.out x (List.mem_of_getElem? hx)
      have hb := hr.both.base
      have hkc : ∀ {p : Addr} {v : Value}, w.cell? p = some v → wr.cell? p = some v := fun hp => (Kept.below (S := fun _ => False) hb).cell hp (fun e => e)
      have c0 := hkc i0
      have c1 := hkc i1
      have c2 := hkc i2
      have c3 := hkc i3
      have hgl : g < wr.heap.size := Lib.lt_of_cell c0
      obtain ⟨kd, hkd⟩ : ∃ kd, kd = x.kind := ⟨_, rfl⟩
      rw [← hkd] at c0
      have hkx : KeepIn w (.slice ya x.keep.length yc) x.keep := ⟨hsrc, by omega, hok.keepIn⟩
      have KX := Lib.hid hkx
      have hsl : x.s.length ≤ 65536 := by omega
      have hnl := hok.n.2
      have hm := with_made (PCa.solid d ba 3 Y c) (RCa.solid r bb 3 Y c) hr.both #[.int .i64 kd, .string ⟨x.s.toArray⟩, .int .i64 x.n, .slice ya x.keep.length yc]
      have HST := Lib.hid hr.st
      clear i0 i1 i2 i3 hkc hr hsrc hok hkx hfx hb hkd hx
      obtain ⟨OB, hOB⟩ : ∃ OB, OB = wr.heap.size := ⟨_, rfl⟩
      go_upto_region 15 with fail
      clear c0 c1 c2 c3
      obtain ⟨W1, hW1⟩ : ∃ W1, wr.alloc (.cells #[.int .i64 kd, .string ⟨x.s.toArray⟩, .int .i64 x.n, .slice ya x.keep.length yc] 38) = W1 := ⟨_, rfl⟩
      rw [hW1] at hm ⊢
      rw [← hOB] at hm ⊢
      have o0 : W1.cell? ⟨OB, 0, none⟩ = some (.int .i64 kd) := with_cell hm 0
      have o1 : W1.cell? ⟨OB, 1, none⟩ = some (.string ⟨x.s.toArray⟩) := with_cell hm 1
      have o2 : W1.cell? ⟨OB, 2, none⟩ = some (.int .i64 x.n) := with_cell hm 2
      have o3 : W1.cell? ⟨OB, 3, none⟩ = some (.slice ya x.keep.length yc) := with_cell hm 3
      clear hW1 hOB
      by_cases e0 : kd = 0
      · subst e0
        obtain ⟨z3, hz⟩ : ∃ z3, Ck.setM Y 3 c x.s = z3 := ⟨_, rfl⟩
        obtain ⟨Z, c', z⟩ := z3
        have hst : Ck.St Z 3 c' (fun _ _ => True) := by
          have := (Ck.setM_done HST.out (by omega) hsl).st
          rw [show Ck.setM Y ((3 : Nat) : Int) c x.s = (Z, c', z) from hz] at this
          exact this.mono (fun _ _ _ => trivial)
        have HS' := Lib.hid hst
        have hmD := hm.below (With.solid (PCa.solid d ba 3 Y c) OB _) (RCa.solid r bb 3 Y c) ((Below.refl _ W1).drew)
        have QA0 := Lib.hid (bset_p T.out (RCa.solid r bb 3 Y c) hmD in3 x.s hz)
        have QB0 := Lib.hid (bset_r (PCa.solid d ba 3 Y c) hmD in3 x.s hz)
        have QA1 := Lib.hid (fun W (hW : Both w W (With (PCa d ba 3 Y c) OB #[.int .i64 0, .string ⟨x.s.toArray⟩, .int .i64 x.n, .slice ya x.keep.length yc]) (RCa r bb 3 Z c')) => bset_p T.out (RCa.solid r bb 3 Z c') hW in3 x.s hz)
        have QB1 := Lib.hid (fun W (hW : Both w W (With (PCa d ba 3 Z c') OB #[.int .i64 0, .string ⟨x.s.toArray⟩, .int .i64 x.n, .slice ya x.keep.length yc]) (RCa r bb 3 Y c)) => bset_r (PCa.solid d ba 3 Z c') hW in3 x.s hz)
        clear hm hmD hst hz
        obtain ⟨bv, hbv⟩ : ∃ bv, (c'.slot != 0) = bv := ⟨_, rfl⟩
        have GP := Lib.hid (fun W bx by' (hW : Both w W (With (PCa d bx 3 Z c') OB #[.int .i64 0, .string ⟨x.s.toArray⟩, .int .i64 x.n, .slice ya x.keep.length yc]) (RCa r by' 3 Z c')) => show Calls Tryd.prog 23 #[.pointer (some ⟨bx, 0, none⟩)] W fun e w' => e = .returned (.tuple #[.string ⟨c'.val.toArray⟩, .bool bv]) ∧ Hid (Both w w' (PCa d bx 3 Z c') (RCa r by' 3 Z c')) from by
          have := both_get (RCa.solid r by' 3 Z c') (with_drop hW (fun h1 h2 => PCa.more h1 h2))
          rw [hbv] at this
          exact this)
        have GR := Lib.hid (fun W bx by' (hW : Both w W (PCa d bx 3 Z c') (RCa r by' 3 Z c')) => show Calls Tryd.prog 24 #[.pointer (some ⟨by', 0, none⟩)] W fun e w' => e = .returned (.tuple #[.string ⟨c'.val.toArray⟩, .bool bv]) ∧ Hid (Both w w' (PCa d bx 3 Z c') (RCa r by' 3 Z c')) from by
          have := both_rget (PCa.solid d bx 3 Z c') hW
          rw [hbv] at this
          exact this)
        obtain ⟨vs, hvs⟩ : ∃ vs, c'.val = vs := ⟨_, rfl⟩
        rw [hvs] at GP GR
        clear hbv hvs
        go_upto_region 17 with fail
        go_cut [80] (fun t80 wx => t80 = .bool false ∧ Hid (Both w wx (With (PCa d ba 3 Z c') OB #[.int .i64 0, .string ⟨x.s.toArray⟩, .int .i64 x.n, .slice ya x.keep.length yc]) (RCa r bb 3 Z c')))
        case first =>
          go_region_law (first
            | (go_simp; go_at_call 14; refine QA0.out.mono ?_; rintro e w4 ⟨rfl, oA', hpA⟩; have oA : w4.cell? ⟨OB, 1, none⟩ = some (.string ⟨x.s.toArray⟩) := oA'; clear oA')
            | (go_simp; go_at_call 15; refine QB0.out.mono ?_; rintro e w4 ⟨rfl, oB', hpB⟩; have oB : w4.cell? ⟨OB, 1, none⟩ = some (.string ⟨x.s.toArray⟩) := oB'; clear oB')
            | (go_simp; go_at_call 14; refine (QA1.out _ hpB.out).mono ?_; rintro e w5 ⟨rfl, _, hpF⟩)
            | (go_simp; go_at_call 15; refine (QB1.out _ hpA.out).mono ?_; rintro e w5 ⟨rfl, _, hpF⟩))
          all_goals
            go_wp2_with fail
            go_meet
            exact ⟨rfl, hpF⟩
        case rest =>
          obtain ⟨rfl, hpF⟩ := hcut
          go_wp2_with (first | (go_at_call 23; refine (GP.out _ _ _ hpF.out).mono ?_; rintro e w8 ⟨rfl, hp8⟩) | (go_at_call 24; with_reducible refine (GR.out _ _ _ hp8.out).mono ?_; rintro e w9 ⟨rfl, hp9⟩))
          go_roundw
          case rel => exact ⟨k + 1, ba, bb, Z, c', hkl, by go_num, rfl, rfl, hp9.out, HS'.out⟩
          case measure => simp [intOf]; omega
      · have b0' : (kd == 0) = false := by simpa using e0
        by_cases e1 : kd = 1
        · subst e1
          have hst := Lib.hid (HST.out.lose x.n)
          have P1 := Lib.hid (bop_p (RCa.solid r bb 3 Y c) hm (Y' := Y.lose x.n) (fun S k1 _ _ => lose_op x.n hnl S k1))
          have P2 := Lib.hid (fun W (hW : Both w W (With (PCa d ba 3 (Y.lose x.n) c) OB #[.int .i64 1, .string ⟨x.s.toArray⟩, .int .i64 x.n, .slice ya x.keep.length yc]) (RCa r bb 3 Y c)) => bop_r (With.solid (PCa.solid d ba 3 (Y.lose x.n) c) OB _) hW (Y' := Y.lose x.n) (fun S k1 _ _ => rd_lose x.n hnl k1))
          obtain ⟨Z, hZ⟩ : ∃ Z, Y.lose x.n = Z := ⟨_, rfl⟩
          rw [hZ] at hst P1 P2
          clear hm e0 b0' hZ
          obtain ⟨bv, hbv⟩ : ∃ bv, (c.slot != 0) = bv := ⟨_, rfl⟩
          have GP := Lib.hid (fun W bx by' (hW : Both w W (With (PCa d bx 3 Z c) OB #[.int .i64 1, .string ⟨x.s.toArray⟩, .int .i64 x.n, .slice ya x.keep.length yc]) (RCa r by' 3 Z c)) => show Calls Tryd.prog 23 #[.pointer (some ⟨bx, 0, none⟩)] W fun e w' => e = .returned (.tuple #[.string ⟨c.val.toArray⟩, .bool bv]) ∧ Hid (Both w w' (PCa d bx 3 Z c) (RCa r by' 3 Z c)) from by
            have := both_get (RCa.solid r by' 3 Z c) (with_drop hW (fun h1 h2 => PCa.more h1 h2))
            rw [hbv] at this
            exact this)
          have GR := Lib.hid (fun W bx by' (hW : Both w W (PCa d bx 3 Z c) (RCa r by' 3 Z c)) => show Calls Tryd.prog 24 #[.pointer (some ⟨by', 0, none⟩)] W fun e w' => e = .returned (.tuple #[.string ⟨c.val.toArray⟩, .bool bv]) ∧ Hid (Both w w' (PCa d bx 3 Z c) (RCa r by' 3 Z c)) from by
            have := both_rget (PCa.solid d bx 3 Z c) hW
            rw [hbv] at this
            exact this)
          obtain ⟨vs, hvs⟩ : ∃ vs, c.val = vs := ⟨_, rfl⟩
          rw [hvs] at GP GR
          clear hbv hvs
          go_wp2_with (first | (go_at_call 16; refine P1.out.mono ?_; rintro e w4 ⟨rfl, ⟨oA', _⟩, hpA⟩; have oA : w4.cell? ⟨OB, 2, none⟩ = some (.int .i64 x.n) := oA'; clear oA') | (go_at_call 17; with_reducible refine (P2.out _ hpA.out).mono ?_; rintro e w5 ⟨rfl, hpF⟩) | (go_at_call 23; with_reducible refine (GP.out _ _ _ hpF.out).mono ?_; rintro e w8 ⟨rfl, hp8⟩) | (go_at_call 24; with_reducible refine (GR.out _ _ _ hp8.out).mono ?_; rintro e w9 ⟨rfl, hp9⟩))
          go_roundw
          case rel => exact ⟨k + 1, ba, bb, Z, c, hkl, by go_num, rfl, rfl, hp9.out, hst.out⟩
          case measure => simp [intOf]; omega
        · have b1 : (kd == 1) = false := by simpa using e1
          by_cases e2 : kd = 2
          · subst e2
            have hst := Lib.hid (HST.out.arm x.n x.keep)
            have P1 := Lib.hid (bop_p (RCa.solid r bb 3 Y c) hm (Y' := Y.arm x.n x.keep) (fun S k1 k2 hb => KX.out.arm hb x.n hnl S k1 k2))
            have P2 := Lib.hid (fun W (hW : Both w W (With (PCa d ba 3 (Y.arm x.n x.keep) c) OB #[.int .i64 2, .string ⟨x.s.toArray⟩, .int .i64 x.n, .slice ya x.keep.length yc]) (RCa r bb 3 Y c)) => bop_r (With.solid (PCa.solid d ba 3 (Y.arm x.n x.keep) c) OB _) hW (Y' := Y.arm x.n x.keep) (fun S k1 k2 hb => rd_arm x.n hnl _ x.keep KX.out.len KX.out.int k1 (KX.out.src.keepAt hb k2)))
            obtain ⟨Z, hZ⟩ : ∃ Z, Y.arm x.n x.keep = Z := ⟨_, rfl⟩
            rw [hZ] at hst P1 P2
            clear hm e0 b0' e1 b1 hZ
            obtain ⟨bv, hbv⟩ : ∃ bv, (c.slot != 0) = bv := ⟨_, rfl⟩
            have GP := Lib.hid (fun W bx by' (hW : Both w W (With (PCa d bx 3 Z c) OB #[.int .i64 2, .string ⟨x.s.toArray⟩, .int .i64 x.n, .slice ya x.keep.length yc]) (RCa r by' 3 Z c)) => show Calls Tryd.prog 23 #[.pointer (some ⟨bx, 0, none⟩)] W fun e w' => e = .returned (.tuple #[.string ⟨c.val.toArray⟩, .bool bv]) ∧ Hid (Both w w' (PCa d bx 3 Z c) (RCa r by' 3 Z c)) from by
              have := both_get (RCa.solid r by' 3 Z c) (with_drop hW (fun h1 h2 => PCa.more h1 h2))
              rw [hbv] at this
              exact this)
            have GR := Lib.hid (fun W bx by' (hW : Both w W (PCa d bx 3 Z c) (RCa r by' 3 Z c)) => show Calls Tryd.prog 24 #[.pointer (some ⟨by', 0, none⟩)] W fun e w' => e = .returned (.tuple #[.string ⟨c.val.toArray⟩, .bool bv]) ∧ Hid (Both w w' (PCa d bx 3 Z c) (RCa r by' 3 Z c)) from by
              have := both_rget (PCa.solid d bx 3 Z c) hW
              rw [hbv] at this
              exact this)
            obtain ⟨vs, hvs⟩ : ∃ vs, c.val = vs := ⟨_, rfl⟩
            rw [hvs] at GP GR
            clear hbv hvs
            go_wp2_with (first | (go_at_call 18; refine P1.out.mono ?_; rintro e w4 ⟨rfl, ⟨oA', oC'⟩, hpA⟩; have oA : w4.cell? ⟨OB, 2, none⟩ = some (.int .i64 x.n) := oA'; have oC : w4.cell? ⟨OB, 3, none⟩ = some (.slice ya x.keep.length yc) := oC'; clear oA' oC') | (go_at_call 19; with_reducible refine (P2.out _ hpA.out).mono ?_; rintro e w5 ⟨rfl, hpF⟩) | (go_at_call 23; with_reducible refine (GP.out _ _ _ hpF.out).mono ?_; rintro e w8 ⟨rfl, hp8⟩) | (go_at_call 24; with_reducible refine (GR.out _ _ _ hp8.out).mono ?_; rintro e w9 ⟨rfl, hp9⟩))
            go_roundw
            case rel => exact ⟨k + 1, ba, bb, Z, c, hkl, by go_num, rfl, rfl, hp9.out, hst.out⟩
            case measure => simp [intOf]; omega
          · have b2 : (kd == 2) = false := by simpa using e2
            by_cases e3 : kd = 3
            · subst e3
              obtain ⟨k', s', ho, _, _, hst'⟩ := HST.out.again (by omega) x.keep
              have hst := Lib.hid (hst'.mono (Q := fun _ _ => True) (fun _ _ _ => trivial))
              obtain ⟨c', hc'⟩ : ∃ c' : Ck.C, c' = ⟨k', s', false⟩ := ⟨_, rfl⟩
              rw [← hc'] at ho hst
              have P1 := Lib.hid (bagain T.out (RCa.solid r bb 3 Y c) hm _ _ KX.out ho)
              obtain ⟨X1, hX1⟩ : ∃ X1, Y.crash x.keep = X1 := ⟨_, rfl⟩
              rw [hX1] at ho hst P1
              obtain ⟨Z, hZ⟩ : ∃ Z, X1.start = Z := ⟨_, rfl⟩
              have P2 := Lib.hid (fun W b' (hW : Both w W (With (PCa d b' 3 Z c') OB #[.int .i64 3, .string ⟨x.s.toArray⟩, .int .i64 x.n, .slice ya x.keep.length yc]) (RCa r bb 3 Y c)) => bop_r (With.solid (PCa.solid d b' 3 Z c') OB _) hW (Y' := X1) (fun S k1 k2 hb => by
                rw [← hX1]
                exact rd_crash _ x.keep KX.out.len k1 (KX.out.src.keepAt hb k2)))
              have P3 := Lib.hid (fun W b' (hW : Both w W (With (PCa d b' 3 Z c') OB #[.int .i64 3, .string ⟨x.s.toArray⟩, .int .i64 x.n, .slice ya x.keep.length yc]) (RCa r bb 3 X1 c)) => bop_r (With.solid (PCa.solid d b' 3 Z c') OB _) hW (Y' := Z) (fun S k1 _ _ => by
                rw [← hZ]
                exact rd_start k1))
              rw [hZ] at ho hst P1
              have P4 := Lib.hid (fun W b' (hW : Both w W (With (PCa d b' 3 Z c') OB #[.int .i64 3, .string ⟨x.s.toArray⟩, .int .i64 x.n, .slice ya x.keep.length yc]) (RCa r bb 3 Z c)) => hW.right (With.solid (PCa.solid d b' 3 Z c') OB _) (β := Nat) (R := fun q e => e = .returned (.tuple #[.pointer (some ⟨q, 0, none⟩), .int .i64 0])) (B' := fun q => RCa r q 3 Z c') (fun U hU _ _ => rd_open (RCa.rd U hU) ho))
              clear hm e0 b0' e1 b1 e2 b2 ho hc' hst' hX1 hZ
              obtain ⟨bv, hbv⟩ : ∃ bv, (c'.slot != 0) = bv := ⟨_, rfl⟩
              have GP := Lib.hid (fun W bx by' (hW : Both w W (With (PCa d bx 3 Z c') OB #[.int .i64 3, .string ⟨x.s.toArray⟩, .int .i64 x.n, .slice ya x.keep.length yc]) (RCa r by' 3 Z c')) => show Calls Tryd.prog 23 #[.pointer (some ⟨bx, 0, none⟩)] W fun e w' => e = .returned (.tuple #[.string ⟨c'.val.toArray⟩, .bool bv]) ∧ Hid (Both w w' (PCa d bx 3 Z c') (RCa r by' 3 Z c')) from by
                have := both_get (RCa.solid r by' 3 Z c') (with_drop hW (fun h1 h2 => PCa.more h1 h2))
                rw [hbv] at this
                exact this)
              have GR := Lib.hid (fun W bx by' (hW : Both w W (PCa d bx 3 Z c') (RCa r by' 3 Z c')) => show Calls Tryd.prog 24 #[.pointer (some ⟨by', 0, none⟩)] W fun e w' => e = .returned (.tuple #[.string ⟨c'.val.toArray⟩, .bool bv]) ∧ Hid (Both w w' (PCa d bx 3 Z c') (RCa r by' 3 Z c')) from by
                have := both_rget (PCa.solid d bx 3 Z c') hW
                rw [hbv] at this
                exact this)
              obtain ⟨vs, hvs⟩ : ∃ vs, c'.val = vs := ⟨_, rfl⟩
              rw [hvs] at GP GR
              clear hbv hvs
              go_wp2_with (first | (go_at_call 20; refine P1.out.mono ?_; rintro e w4 ⟨ba', rfl, oA', hpA⟩; have oA : w4.cell? ⟨OB, 3, none⟩ = some (.slice ya x.keep.length yc) := oA'; clear oA') | (go_at_call 21; with_reducible refine (P2.out _ _ hpA.out).mono ?_; rintro e w5 ⟨rfl, hpB⟩) | (go_at_call 22; with_reducible refine (P3.out _ _ hpB.out).mono ?_; rintro e w6 ⟨rfl, hpC⟩) | (go_at_call 13; with_reducible refine (P4.out _ _ hpC.out).mono ?_; rintro e w7 ⟨bb', rfl, hpF⟩) | (go_at_call 23; with_reducible refine (GP.out _ _ _ hpF.out).mono ?_; rintro e w8 ⟨rfl, hp8⟩) | (go_at_call 24; with_reducible refine (GR.out _ _ _ hp8.out).mono ?_; rintro e w9 ⟨rfl, hp9⟩))
              go_roundw
              case rel => exact ⟨k + 1, ba', bb', Z, c', hkl, by go_num, rfl, rfl, hp9.out, hst.out⟩
              case measure => simp [intOf]; omega
            · have b3 : (kd == 3) = false := by simpa using e3
              have hmF := Lib.hid hm
              clear hm e0 e1 e2 e3
              obtain ⟨bv, hbv⟩ : ∃ bv, (c.slot != 0) = bv := ⟨_, rfl⟩
              have GP := Lib.hid (fun W bx by' (hW : Both w W (With (PCa d bx 3 Y c) OB #[.int .i64 kd, .string ⟨x.s.toArray⟩, .int .i64 x.n, .slice ya x.keep.length yc]) (RCa r by' 3 Y c)) => show Calls Tryd.prog 23 #[.pointer (some ⟨bx, 0, none⟩)] W fun e w' => e = .returned (.tuple #[.string ⟨c.val.toArray⟩, .bool bv]) ∧ Hid (Both w w' (PCa d bx 3 Y c) (RCa r by' 3 Y c)) from by
                have := both_get (RCa.solid r by' 3 Y c) (with_drop hW (fun h1 h2 => PCa.more h1 h2))
                rw [hbv] at this
                exact this)
              have GR := Lib.hid (fun W bx by' (hW : Both w W (PCa d bx 3 Y c) (RCa r by' 3 Y c)) => show Calls Tryd.prog 24 #[.pointer (some ⟨by', 0, none⟩)] W fun e w' => e = .returned (.tuple #[.string ⟨c.val.toArray⟩, .bool bv]) ∧ Hid (Both w w' (PCa d bx 3 Y c) (RCa r by' 3 Y c)) from by
                have := both_rget (PCa.solid d bx 3 Y c) hW
                rw [hbv] at this
                exact this)
              obtain ⟨vs, hvs⟩ : ∃ vs, c.val = vs := ⟨_, rfl⟩
              rw [hvs] at GP GR
              clear hbv hvs
              go_wp2_with (first | (go_at_call 23; refine (GP.out _ _ _ hmF.out).mono ?_; rintro e w8 ⟨rfl, hp8⟩) | (go_at_call 24; with_reducible refine (GR.out _ _ _ hp8.out).mono ?_; rintro e w9 ⟨rfl, hp9⟩))
              go_roundw
              case rel => exact ⟨k + 1, ba, bb, Y, c, hkl, by go_num, rfl, rfl, hp9.out, HST.out⟩
              case measure => simp [intOf]; omega
    · have hkl' : ¬ (k : Int) < (L : Int) := by omega
      have hB : Both w wr (PDa d Y) (RDa r Y) := (hr.both.mapL (fun U h => PCa.pd U h)).mapR (fun U h => RCa.rd U h)
      have KN := keep_nil w
      obtain ⟨X1, hX1⟩ : ∃ X1, Y.crash [] = X1 := ⟨_, rfl⟩
      obtain ⟨Z, hZ⟩ : ∃ Z, X1.start = Z := ⟨_, rfl⟩
      have hinv : Z.Inv := by
        obtain ⟨_, _, _, _, _, hst'⟩ := hr.st.again (by omega) []
        have := hst'.inv
        rw [hX1, hZ] at this
        exact this
      have F1 := Lib.hid (dop_p (RDa.solid r Y) hB (Y' := X1) (fun S k1 k2 hb => by
        rw [← hX1]
        exact KN.crash hb S k1 k2))
      have F2 := Lib.hid (fun W (hW : Both w W (PDa d X1) (RDa r Y)) => dop_p (RDa.solid r Y) hW (Y' := Z) (fun S k1 _ _ => by
        rw [← hZ]
        exact start_op S k1))
      have F3 := Lib.hid (fun W (hW : Both w W (PDa d Z) (RDa r Y)) => dop_r (PDa.solid d Z) hW (Y' := X1) (fun S k1 k2 hb => by
        rw [← hX1]
        exact rd_crash _ [] KN.len k1 (KN.src.keepAt hb k2)))
      have F4 := Lib.hid (fun W (hW : Both w W (PDa d Z) (RDa r X1)) => dop_r (PDa.solid d Z) hW (Y' := Z) (fun S k1 _ _ => by
        rw [← hZ]
        exact rd_start k1))
      have hsz : ((Z.size 3 : Nat) : Int) ≤ 16777216 := by
        have h3 := (hinv.file 3 (by omega)).small
        have e3 := size_good (X := Z) (i := 3) (by omega)
        rw [show ((3 : Nat) : Int) = 3 from rfl] at e3
        rw [e3]
        omega
      obtain ⟨nn, hnn⟩ : ∃ nn : Int, ((Z.size 3 : Nat) : Int) = nn := ⟨_, rfl⟩
      obtain ⟨rd, hrd⟩ : ∃ rd, Z.read 3 0 nn = rd := ⟨_, rfl⟩
      rw [hnn] at hsz
      have F5 := Lib.hid (fun W (hW : Both w W (PDa d Z) (RDa r Z)) => show Calls Tryd.prog 27 #[.pointer (some ⟨d, 0, none⟩), .int .i64 3] W fun e w' => e = .returned (.int .i64 nn) ∧ w' = W from by
        obtain ⟨U, V, g1, _⟩ := hW
        have := size_c d U Z 3 in3 W g1
        rw [hnn] at this
        exact this)
      have F6 := Lib.hid (fun W (hW : Both w W (PDa d Z) (RDa r Z)) => show Calls Tryd.prog 28 #[.pointer (some ⟨d, 0, none⟩), .int .i64 3, .int .i64 0, .int .i64 nn] W fun e w' => e = .returned (.tuple #[.string ⟨rd.1.toArray⟩, .int .i64 rd.2]) ∧ w' = W from by
        obtain ⟨U, V, g1, _⟩ := hW
        have := read_c d U Z 3 0 nn in3 (by omega) (by omega) W g1
        rw [hrd] at this
        exact this)
      have F7 := Lib.hid (fun W (hW : Both w W (PDa d Z) (RDa r Z)) => show Calls Tryd.prog 29 #[.pointer (some ⟨r, 0, none⟩), .int .i64 3, .int .i64 0, .int .i64 nn] W fun e w' => e = .returned (.tuple #[.string ⟨rd.1.toArray⟩, .int .i64 rd.2]) ∧ Hid (Both w w' (PDa d Z) (RDa r Z)) from by
        have hW' := hW
        obtain ⟨U, V, _, g2, _⟩ := hW
        have := rd_read 3 0 nn (by omega) g2
        rw [hrd] at this
        refine this.mono ?_
        rintro e w' ⟨he, hb⟩
        exact ⟨he, hW'.below (PDa.solid d Z) (RDa.solid r Z) hb⟩)
      have F8 := Lib.hid (fun W (hW : Both w W (PDa d Z) (RDa r Z)) => show Calls Tryd.prog 30 #[.pointer (some ⟨r, 0, none⟩), .int .i64 3] W fun e w' => e = .returned (.int .i64 nn) ∧ Hid (Below w.heap.size w w') from by
        have hW' := hW
        obtain ⟨U, V, _, g2, _⟩ := hW
        have := rd_size 3 g2
        rw [hnn] at this
        refine this.mono ?_
        rintro e w' ⟨he, hb⟩
        exact ⟨he, hW'.base.trans (hb.mono hW'.base.size)⟩)
      clear hr hB KN hinv hX1 hZ hnn hrd
      obtain ⟨rs, re⟩ := rd
      go_wp2_with (first | (go_at_call 25; refine F1.out.mono ?_; rintro e w4 ⟨rfl, q1⟩) | (go_at_call 26; with_reducible refine (F2.out _ q1.out).mono ?_; rintro e w5 ⟨rfl, q2⟩) | (go_at_call 21; with_reducible refine (F3.out _ q2.out).mono ?_; rintro e w6 ⟨rfl, q3⟩) | (go_at_call 22; with_reducible refine (F4.out _ q3.out).mono ?_; rintro e w7 ⟨rfl, q4⟩) | (go_at_call 27; with_reducible refine (F5.out _ q4.out).mono ?_; rintro e w8 ⟨rfl, hw⟩; rw [hw]; clear hw) | (go_at_call 28; with_reducible refine (F6.out _ q4.out).mono ?_; rintro e w8 ⟨rfl, hw⟩; rw [hw]; clear hw) | (go_at_call 29; with_reducible refine (F7.out _ q4.out).mono ?_; rintro e w9 ⟨rfl, q5⟩) | (go_at_call 30; with_reducible refine (F8.out _ q5.out).mono ?_; rintro e w10 ⟨rfl, q6⟩))
      go_ret
      exact ⟨rfl, q6.out⟩

theorem tells_law (v : Value) (l : List Op5) (w : World) (h : OpsIn w v l) (ht : Tab w) :
    Calls Tryd.prog 3 #[v] w fun e w' => e = .returned (.bool true) ∧ Below w.heap.size w w' := by
  cases he : few5 l with
  | true => exact ctells_in v l w h ht he
  | false => exact ctells_out v l w h ht he
end Go.Proofs.YtninopllfbiccaaDoor
