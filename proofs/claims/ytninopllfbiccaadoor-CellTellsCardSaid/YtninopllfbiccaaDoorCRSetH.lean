/-
  The reference's Set is what the model says.
-/
import Derived.Test.YtninopllfbiccaaDoorCRBase
namespace Go.Proofs.YtninopllfbiccaaDoor
set_option maxRecDepth 100000
open Go Go.RowKit Go.Maps Dk

theorem rProd3 {α β γ : Type} {a a' : α} {b b' : β} {c c' : γ} (h : (a, b, c) = (a', b', c')) : a = a' ∧ b = b' ∧ c = c' := by
  injection h with h1 h2
  injection h2 with h2 h3
  exact ⟨h1, h2, h3⟩
theorem other_one {k : Nat} (h : k = 1) : Ck.other k = 2 := by subst h; rfl
theorem other_not {k : Nat} (h : k ≠ 1) : Ck.other k = 1 := by unfold Ck.other; rw [if_neg h]
/-- What is asked ahead of Set. -/
structure RSetOk (w : World) (r b : Nat) (f : Int) (S : Nat → Prop) (Y : D) (c : Ck.C) : Prop where
  disk : RD w r S Y
  cell : RCellAt w b r f c
  apart : ¬ S b
  file : In64 f
/-- What the three stores leave. -/
theorem RCStep.store {w w1 : World} {r b : Nat} {f : Int} {S : Nat → Prop} {Y : D} {c : Ck.C} (h : RCStep w w1 r b f S Y c) (hb : ¬ S b) (hbl : b < w.heap.size) (k : Nat) (s : List UInt8) :
    RCStep w (((w1.setCell ⟨b, 2, none⟩ (.int .i64 (k : Int))).setCell ⟨b, 3, none⟩ (.string ⟨s.toArray⟩)).setCell ⟨b, 4, none⟩ (.bool false)) r b f S Y ⟨k, s, false⟩ := by
  have h2 := h.2.1
  have g1 := RCStep.set (c' := ⟨k, c.val, c.sure⟩) h hb hbl 2 (.int .i64 (k : Int)) (cells5_set h2 2 _ (by omega))
  have g2 := RCStep.set (c' := ⟨k, s, c.sure⟩) g1 hb hbl 3 (.string ⟨s.toArray⟩) (cells5_set g1.2.1 3 _ (by omega))
  exact RCStep.set (c' := ⟨k, s, false⟩) g2 hb hbl 4 (.bool false) (cells5_set g2.2.1 4 _ (by omega))
/-- The five bytes, as the reference makes them. -/
theorem rform (k n : Nat) (hk : k ≤ 2) (hn : n ≤ 65536) (w : World) (T : TypeId) (j : Nat) (u : Value) (hu : (bytesV (Ck.header k n))[j]? = some u) :
    (w.alloc (.cells #[.int .u8 (k : Int), .int .u8 ((n : Int) % 256), .int .u8 ((n : Int) / 256 % 256), .int .u8 ((n : Int) / 65536), .int .u8 0] T)).cell? ⟨w.heap.size, 0 + j, none⟩ = some u := by
  have e0 : ((UInt8.ofNat k).toNat : Int) = k := by show ((k % 256 : Nat) : Int) = k; omega
  have e1 : ((UInt8.ofNat n).toNat : Int) = (n : Int) % 256 := by show ((n % 256 : Nat) : Int) = _; omega
  have e2 : ((UInt8.ofNat (n / 256)).toNat : Int) = (n : Int) / 256 % 256 := by show ((n / 256 % 256 : Nat) : Int) = _; omega
  have e3 : ((UInt8.ofNat (n / 65536)).toNat : Int) = (n : Int) / 65536 := by show ((n / 65536 % 256 : Nat) : Int) = _; omega
  have e4 : ((UInt8.ofNat (n / 16777216)).toNat : Int) = 0 := by show ((n / 16777216 % 256 : Nat) : Int) = _; omega
  have hc := Lib.cell_of_heap (heap_alloc_new w (.cells #[.int .u8 (k : Int), .int .u8 ((n : Int) % 256), .int .u8 ((n : Int) / 256 % 256), .int .u8 ((n : Int) / 65536), .int .u8 0] T)) (0 + j)
  rw [hc, ← hu]
  unfold bytesV Ck.header
  simp only [List.map_cons, List.map_nil, e0, e1, e2, e3, e4, Nat.zero_add]
  exact (List.getElem?_toArray).trans rfl

set_option maxRecDepth 100000 in
theorem rset_long (b r : Nat) (f : Int) (c : Ck.C) (S : Nat → Prop) (Y : D) (s : List UInt8) (hs : 65536 < s.length) (w : World) (h : RSetOk w r b f S Y c) :
    Calls Tryd.prog 15 #[.pointer (some ⟨b, 0, none⟩), .string ⟨s.toArray⟩] w fun e w' => e = .returned (.int .i64 6) ∧ RCStep w w' r b f S Y c := by
  have H := Lib.hid (RCStep.start h.disk h.cell)
  have hs' : (65536 : Int) < (s.length : Int) := by omega
  clear h hs
  go_enter Tryd.func15, Tryd.ntmps15
  go_wp2_with fail
  go_ret
  exact ⟨rfl, H.out⟩

set_option maxRecDepth 100000 in
theorem rset_first (b r : Nat) (f : Int) (c : Ck.C) (S : Nat → Prop) (X : D) (s : List UInt8) (hs : s.length ≤ 65536) (w : World) (h : RSetOk w r b f S X c) (h0 : c.slot ≠ 0) (h4 : c.sure = false) (hr : (X.sync f).2 ≠ 0) : Calls Tryd.prog 15 #[.pointer (some ⟨b, 0, none⟩), .string ⟨s.toArray⟩] w fun e w' => e = .returned (.int .i64 (X.sync f).2) ∧ RCStep w w' r b f S (X.sync f).1 c := by
  have F := (RCStep.start h.disk h.cell).facts
  have k0 := F.c0
  have k1 := F.c1
  have k2 := F.c2
  have k4 := F.c4
  rw [h4] at k4
  obtain ⟨Y1, hY1⟩ : ∃ Y1, X.sync f = Y1 := ⟨_, rfl⟩
  have W0 := Lib.hid (fun w1 (hp : RCStep w w1 r b f S X c) => show Calls Tryd.prog 42 #[.pointer (some ⟨r, 0, none⟩), .int .i64 f] w1.drew fun e w2 => e = .returned (.int .i64 Y1.2) ∧ Hid (RCStep w w2 r b f S Y1.1 c) from by
    have := rstep_sync hp.drew h.file h.apart h.cell.lt
    rw [hY1] at this
    exact this)
  have hp := Lib.hid (RCStep.start h.disk h.cell)
  rw [hY1] at hr ⊢
  obtain ⟨Z1, r1⟩ := Y1
  dsimp only at W0 hr ⊢
  have hrb : (r1 != 0) = true := by simpa using hr
  obtain ⟨m, hm⟩ : ∃ m : Int, m = (c.slot : Int) := ⟨_, rfl⟩
  have hmb : (m != 0) = true := by simp; omega
  rw [← hm] at k2
  have hs' : ¬ (65536 : Int) < (s.length : Int) := by omega
  clear h h0 h4 hr hY1 hm F hs
  go_enter Tryd.func15, Tryd.ntmps15
  go_upto_region 4 with fail
  go_region_law (go_simp; go_at_call 42; refine (W0.out _ hp.out).mono ?_; rintro e w1 ⟨rfl, hp1⟩)
  all_goals
    go_wp2_with fail
    go_ret
    exact ⟨rfl, hp1.out⟩

set_option maxHeartbeats 2000000 in
set_option maxRecDepth 100000 in
theorem rset_A (b r : Nat) (f : Int) (c : Ck.C) (S : Nat → Prop) (X : D) (s : List UInt8) (hs : s.length ≤ 65536) (w : World) (h : RSetOk w r b f S X c) (h0 : c.slot = 0) (h4 : c.sure = false) : Calls Tryd.prog 15 #[.pointer (some ⟨b, 0, none⟩), .string ⟨s.toArray⟩] w fun e w' => e = .returned (.int .i64 (Ck.setB X f c s).2.2) ∧ RCStep w w' r b f S (Ck.setB X f c s).1 (Ck.setB X f c s).2.1 := by
  have hk : Ck.other c.slot = 1 := other_not (by rw [h0]; omega)
  obtain ⟨a, ha⟩ : ∃ a, a = Ck.start 1 := ⟨_, rfl⟩
  have hal : a ≤ 131072 := by rw [ha]; exact (Ck.start_le 1).2
  obtain ⟨Y1, hY1⟩ : ∃ Y1, X.write f (a : Nat) s = Y1 := ⟨_, rfl⟩
  obtain ⟨Y2, hY2⟩ : ∃ Y2, Y1.1.sync f = Y2 := ⟨_, rfl⟩
  obtain ⟨Y3, hY3⟩ : ∃ Y3, Y2.1.write f 0 (Ck.header 1 s.length) = Y3 := ⟨_, rfl⟩
  obtain ⟨Y4, hY4⟩ : ∃ Y4, Y3.1.sync f = Y4 := ⟨_, rfl⟩
  obtain ⟨YE, hYE⟩ : ∃ YE, Ck.setB X f c s = YE := ⟨_, rfl⟩
  have E1 : Y1.2 ≠ 0 → YE = (Y1.1, c, Y1.2) := fun h1 => by
    rw [← hYE]
    unfold Ck.setB
    dsimp only
    rw [hk, ← ha, hY1, if_pos h1]
  have E2 : Y1.2 = 0 → Y2.2 ≠ 0 → YE = (Y2.1, c, Y2.2) := fun h1 h2 => by
    rw [← hYE]
    unfold Ck.setB
    dsimp only
    rw [hk, ← ha, hY1, if_neg (fun e => e h1), hY2, if_pos h2]
  have E3 : Y1.2 = 0 → Y2.2 = 0 → Y3.2 ≠ 0 → YE = (Y3.1, c, Y3.2) := fun h1 h2 h3 => by
    rw [← hYE]
    unfold Ck.setB
    dsimp only
    rw [hk, ← ha, hY1, if_neg (fun e => e h1), hY2, if_neg (fun e => e h2), hY3, if_pos h3]
  have E4 : Y1.2 = 0 → Y2.2 = 0 → Y3.2 = 0 → YE = (Y4.1, ⟨1, s, Y4.2 == 0⟩, Y4.2) := fun h1 h2 h3 => by
    rw [← hYE]
    unfold Ck.setB
    dsimp only
    rw [hk, ← ha, hY1, if_neg (fun e => e h1), hY2, if_neg (fun e => e h2), hY3, if_neg (fun e => e h3), hY4]
  rw [hYE]
  have BG := Lib.hid (fun w1 => show Calls Tryd.prog 37 #[.int .i64 1] w1 fun e w2 => e = .returned (.int .i64 (a : Int)) ∧ w2 = w1 from by
    have := rbegin_c 1 (by omega) w1
    rw [← ha] at this
    exact this)
  have W1 := Lib.hid (fun w1 (hp : RCStep w w1 r b f S X c) => show Calls Tryd.prog 32 #[.pointer (some ⟨r, 0, none⟩), .int .i64 f, .int .i64 (a : Int), .string ⟨s.toArray⟩] w1.drew fun e w2 => e = .returned (.int .i64 Y1.2) ∧ Hid (RCStep w w2 r b f S Y1.1 c) from by
    have := rstep_write hp.drew h.file h.apart h.cell.lt a hal s hs
    rw [hY1] at this
    exact this)
  have W2 := Lib.hid (fun w1 (hp : RCStep w w1 r b f S Y1.1 c) => show Calls Tryd.prog 42 #[.pointer (some ⟨r, 0, none⟩), .int .i64 f] w1.drew fun e w2 => e = .returned (.int .i64 Y2.2) ∧ Hid (RCStep w w2 r b f S Y2.1 c) from by
    have := rstep_sync hp.drew h.file h.apart h.cell.lt
    rw [hY2] at this
    exact this)
  have W3 := Lib.hid (fun w1 (hp : RCStep w w1 r b f S Y2.1 c) => show Calls Tryd.prog 32 #[.pointer (some ⟨r, 0, none⟩), .int .i64 f, .int .i64 0, .string ⟨(Ck.header 1 s.length).toArray⟩] w1 fun e w2 => e = .returned (.int .i64 Y3.2) ∧ Hid (RCStep w w2 r b f S Y3.1 c) from by
    have := rstep_write hp h.file h.apart h.cell.lt 0 (by omega) (Ck.header 1 s.length) (by rw [Ck.header_length]; omega)
    rw [show ((0 : Nat) : Int) = 0 from rfl, hY3] at this
    exact this)
  have ST := Lib.hid (fun w1 (hp : RCStep w w1 r b f S Y3.1 c) => show RCStep w (((w1.setCell ⟨b, 2, none⟩ (.int .i64 1)).setCell ⟨b, 3, none⟩ (.string ⟨s.toArray⟩)).setCell ⟨b, 4, none⟩ (.bool false)) r b f S Y3.1 ⟨1, s, false⟩ from hp.store h.apart h.cell.lt 1 s)
  have W4 := Lib.hid (fun w1 (hp : RCStep w w1 r b f S Y3.1 ⟨1, s, false⟩) => show Calls Tryd.prog 42 #[.pointer (some ⟨r, 0, none⟩), .int .i64 f] w1.drew fun e w2 => e = .returned (.int .i64 Y4.2) ∧ Hid (RCStep w w2 r b f S Y4.1 ⟨1, s, false⟩) from by
    have := rstep_sync hp.drew h.file h.apart h.cell.lt
    rw [hY4] at this
    exact this)
  have FS := Lib.hid (fun w1 (hp : RCStep w w1 r b f S Y4.1 ⟨1, s, false⟩) (v : Bool) => RCStep.set (c' := ⟨1, s, v⟩) hp h.apart h.cell.lt 4 (.bool v) (cells5_set hp.2.1 4 _ (by omega)))
  have F := (RCStep.start h.disk h.cell).facts
  have k0 := F.c0
  have k1 := F.c1
  have k2 := F.c2
  have k4 := F.c4
  have hp := Lib.hid (RCStep.start h.disk h.cell)
  have hbl := h.cell.lt
  rw [h4] at k4
  rw [h0] at k2
  rw [show ((0 : Nat) : Int) = 0 from rfl] at k2
  obtain ⟨n, hn⟩ : ∃ n, n = s.length := ⟨_, rfl⟩
  obtain ⟨Z1, r1⟩ := Y1
  obtain ⟨Z2, r2⟩ := Y2
  obtain ⟨Z3, r3⟩ := Y3
  obtain ⟨Z4, r4⟩ := Y4
  obtain ⟨ZE, cE, rE⟩ := YE
  dsimp only at E1 E2 E3 E4 W1 W2 W3 W4 ST FS ⊢
  have G1 := Lib.hid E1
  have G2 := Lib.hid E2
  have G3 := Lib.hid E3
  have G4 := Lib.hid E4
  rw [← hn] at W3 hs
  have hs' : ¬ (65536 : Int) < (n : Int) := by omega
  have hLN : (s.length : Int) = (n : Int) := by omega
  clear h F hn hk ha hal E1 E2 E3 E4 hYE hY1 hY2 hY3 hY4 h0 h4
  go_enter Tryd.func15, Tryd.ntmps15
  go_upto_region 11 with fail
  go_cut [7] (fun t7 wx => t7 = .int .i64 r1 ∧ Hid (RCStep w wx r b f S Z1 c))
  case first =>
    go_region_law (first | (go_simp; go_at_call 37; refine (BG.out _).mono ?_; rintro e w2 ⟨rfl, hw2⟩; rw [hw2]; clear hw2) | (go_simp; go_at_call 32; refine (W1.out _ hp.out).mono ?_; rintro e w3 ⟨rfl, hp3⟩))
    all_goals
      go_wp2_with fail
      go_meet
      exact ⟨rfl, hp3⟩
  case rest =>
    obtain ⟨rfl, hp3⟩ := hcut
    have i0 := hp3.out.facts.c0
    have i1 := hp3.out.facts.c1
    by_cases h1 : r1 = 0
    · subst h1
      go_upto_region 14 with fail
      go_cut [7] (fun t7 wx => t7 = .int .i64 r2 ∧ Hid (RCStep w wx r b f S Z2 c))
      case first =>
        go_region_law (go_simp; go_at_call 42; refine (W2.out _ hp3.out).mono ?_; rintro e w4 ⟨rfl, hp4⟩)
        all_goals
          go_wp2_with fail
          go_meet
          exact ⟨rfl, hp4⟩
      case rest =>
        obtain ⟨rfl, hp4⟩ := hcut
        have i0 := hp4.out.facts.c0
        have i1 := hp4.out.facts.c1
        by_cases h2 : r2 = 0
        · subst h2
          go_upto_region 18 with fail
          obtain ⟨q1, hq1⟩ : ∃ q1 : Int, (n : Int).tmod 256 = q1 := ⟨_, rfl⟩
          obtain ⟨d2, hd2⟩ : ∃ d2 : Int, IntKind.i64.wrap ((n : Int) / 256) = d2 := ⟨_, rfl⟩
          obtain ⟨q2, hq2⟩ : ∃ q2 : Int, d2.tmod 256 = q2 := ⟨_, rfl⟩
          obtain ⟨d3, hd3⟩ : ∃ d3 : Int, IntKind.i64.wrap ((n : Int) / 65536) = d3 := ⟨_, rfl⟩
          have eq1 : q1 = (n : Int) % 256 := by rw [← hq1]; exact Int.tmod_eq_emod_of_nonneg (by omega)
          have ed2 : d2 = (n : Int) / 256 := by rw [← hd2, IntKind.wrap_i64]; omega
          have eq2 : q2 = (n : Int) / 256 % 256 := by rw [← hq2, ed2]; exact Int.tmod_eq_emod_of_nonneg (by omega)
          have ed3 : d3 = (n : Int) / 65536 := by rw [← hd3, IntKind.wrap_i64]; omega
          have w1 : IntKind.u8.wrap q1 = q1 := by rw [IntKind.wrap_u8]; omega
          have w2 : IntKind.u8.wrap q2 = q2 := by rw [IntKind.wrap_u8]; omega
          have w3 : IntKind.u8.wrap d3 = d3 := by rw [IntKind.wrap_u8]; omega
          have w0 : IntKind.u8.wrap 1 = 1 := by decide
          have HPA := Lib.hid (((hp4.out).below ((Below.refl _ _).alloc (Nat.le_refl _) (.cells #[.int .u8 1, .int .u8 q1, .int .u8 q2, .int .u8 d3, .int .u8 0] 5))).drew)
          have hbw : b < wc.heap.size := RCellAt.lt hp4.out.2.1
          have hcv := conv_src (some ⟨wc.heap.size, 0, none⟩) 5 (Ck.header 1 n) (wc.alloc (.cells #[.int .u8 1, .int .u8 q1, .int .u8 q2, .int .u8 d3, .int .u8 0] 5)).drew (fun _ => ⟨_, 0, rfl, fun j u hu => by
            have := rform 1 n (by omega) hs wc 5 j u hu
            rw [← eq2, ← eq1, ← ed3] at this
            exact this⟩)
          rw [Ck.header_length] at hcv
          clear eq1 ed2 eq2 ed3 BG W1 W2 hp3
          have x0 := HPA.out.facts.c0
          have x1 := HPA.out.facts.c1
          go_cut [7] (fun t7 wx => t7 = .int .i64 r3 ∧ Hid (RCStep w wx r b f S Z3 c))
          case first =>
            go_region_law (go_simp; go_at_call 32; with_reducible refine (W3.out _ HPA.out).mono ?_; rintro e w6 ⟨rfl, hp6⟩)
            all_goals
              go_wp2_with fail
              go_meet
              exact ⟨rfl, hp6⟩
          case rest =>
            obtain ⟨rfl, hp6⟩ := hcut
            have i0 := hp6.out.facts.c0
            have i1 := hp6.out.facts.c1
            have lc2 := hp6.out.facts.c2
            have lc3 := hp6.out.facts.c3
            have lc4 := hp6.out.facts.c4
            have lz2 := hp6.out.facts.z2
            have lz3 := hp6.out.facts.z3
            have lz4 := hp6.out.facts.z4
            by_cases h3 : r3 = 0
            · subst h3
              have HPS := Lib.hid (ST.out _ hp6.out)
              have y0 := HPS.out.facts.c0
              have y1 := HPS.out.facts.c1
              go_upto_region 24 with fail
              go_cut [7] (fun t7 wx => t7 = .int .i64 r4 ∧ Hid (RCStep w wx r b f S Z4 ⟨1, s, false⟩))
              case first =>
                go_region_law (go_simp; go_at_call 42; with_reducible refine (W4.out _ HPS.out).mono ?_; rintro e w7 ⟨rfl, hp7⟩)
                all_goals
                  go_wp2_with fail
                  go_meet
                  exact ⟨rfl, hp7⟩
              case rest =>
                obtain ⟨rfl, hp7⟩ := hcut
                have i0 := hp7.out.facts.c0
                have i1 := hp7.out.facts.c1
                have lc2 := hp7.out.facts.c2
                have lc3 := hp7.out.facts.c3
                have lc4 := hp7.out.facts.c4
                have lz2 := hp7.out.facts.z2
                have lz3 := hp7.out.facts.z3
                have lz4 := hp7.out.facts.z4
                go_wp2_with fail
                go_ret
                obtain ⟨rfl, rfl, rfl⟩ := rProd3 (G4.out (by first | rfl | trivial) (by first | rfl | trivial) (by first | rfl | trivial))
                exact ⟨rfl, FS.out _ hp7.out _⟩
            · have hrb : (r3 != 0) = true := by simpa using h3
              have hrn := Lib.hid h3
              clear h3
              go_wp2_with fail
              go_ret
              obtain ⟨rfl, rfl, rfl⟩ := rProd3 (G3.out (by first | rfl | trivial) (by first | rfl | trivial) hrn.out)
              exact ⟨rfl, hp6.out⟩
        · have hrb : (r2 != 0) = true := by simpa using h2
          have hrn := Lib.hid h2
          clear h2
          go_wp2_with fail
          go_ret
          obtain ⟨rfl, rfl, rfl⟩ := rProd3 (G2.out (by first | rfl | trivial) hrn.out)
          exact ⟨rfl, hp4.out⟩
    · have hrb : (r1 != 0) = true := by simpa using h1
      have hrn := Lib.hid h1
      clear h1
      go_wp2_with fail
      go_ret
      obtain ⟨rfl, rfl, rfl⟩ := rProd3 (G1.out hrn.out)
      exact ⟨rfl, hp3.out⟩
end Go.Proofs.YtninopllfbiccaaDoor
