/-
  cell.Set: the whole method is what the model says.
-/
import Derived.Test.YtljgfnglknpfaaaGreatDoorCForm
namespace Go.Proofs.YtljgfnglknpfaaaGreatDoor
set_option maxRecDepth 100000
open Go Go.RowKit Go.Maps Dk

theorem CStep.store {w w1 : World} {d b : Nat} {f : Int} {S : Nat → Prop} {X : D} {c : Ck.C} (h : CStep w w1 d b f S X c) (hb : ¬ S b) (hbl : b < w.heap.size) (k : Nat) (s : List UInt8) :
    CStep w (((w1.setCell ⟨b, 2, none⟩ (.int .i64 (k : Int))).setCell ⟨b, 3, none⟩ (.string ⟨s.toArray⟩)).setCell ⟨b, 4, none⟩ (.bool false)) d b f S X ⟨k, s, false⟩ := by
  have hb' : ¬ After S w b := fun e => e.elim hb (fun e => absurd hbl (Nat.not_lt.2 e))
  obtain ⟨h1, h2, h3⟩ := h
  refine ⟨((h1.setCell hb').setCell hb').setCell hb', ?_, ((h3.trans (Kept.set b 2 _ _) (fun _ _ e => Or.inr e)).trans (Kept.set b 3 _ _) (fun _ _ e => Or.inr e)).trans (Kept.set b 4 _ _) (fun _ _ e => Or.inr e)⟩
  exact cells5_set (cells5_set (cells5_set h2 2 (.int .i64 (k : Int)) (by omega)) 3 (.string ⟨s.toArray⟩) (by omega)) 4 (.bool false) (by omega)

/-- What is asked ahead of Set. -/
structure SetOk (w : World) (d b : Nat) (f : Int) (S : Nat → Prop) (X : D) (c : Ck.C) : Prop where
  disk : DiskIn w d S X
  cell : CellAt w b d f c
  apart : ¬ S b
  tab : Tab w
  g1 : ¬ S 0
  g2 : b ≠ 0
  file : -9223372036854775808 ≤ f ∧ f ≤ 9223372036854775807

theorem Prod3 {α β γ : Type} {a a' : α} {b b' : β} {c c' : γ} (h : (a, b, c) = (a', b', c')) : a = a' ∧ b = b' ∧ c = c' := by
  injection h with h1 h2
  injection h2 with h2 h3
  exact ⟨h1, h2, h3⟩
theorem other_le (k : Nat) : Ck.other k = 1 ∨ Ck.other k = 2 := by unfold Ck.other; split <;> omega

set_option maxRecDepth 100000 in
theorem set_long (b d : Nat) (f : Int) (c : Ck.C) (S : Nat → Prop) (X : D) (s : List UInt8) (hs : 65536 < s.length) (w : World) (h : SetOk w d b f S X c) :
    Calls Tryz.prog 48 #[.pointer (some ⟨b, 0, none⟩), .string ⟨s.toArray⟩] w fun e w' => e = .returned (.int .i64 6) ∧ CStep w w' d b f S X c := by
  have H := Lib.hid (CStep.start h.disk h.cell)
  have hs' : (65536 : Int) < (s.length : Int) := by omega
  clear h hs
  go_enter Tryz.func48, Tryz.ntmps48
  go_wp2_with fail
  go_ret
  exact ⟨rfl, H.out⟩

set_option maxRecDepth 100000 in
theorem set_first (b d : Nat) (f : Int) (c : Ck.C) (S : Nat → Prop) (X : D) (s : List UInt8) (hs : s.length ≤ 65536) (w : World) (h : SetOk w d b f S X c) (h0 : c.slot ≠ 0) (h4 : c.sure = false) (hr : (X.sync f).2 ≠ 0) : Calls Tryz.prog 48 #[.pointer (some ⟨b, 0, none⟩), .string ⟨s.toArray⟩] w fun e w' => e = .returned (.int .i64 (X.sync f).2) ∧ CStep w w' d b f S (X.sync f).1 c := by
  have F := (CStep.start h.disk h.cell).facts
  have k2 := F.c2
  have k4 := F.c4
  rw [h4] at k4
  have SC := step_secure (CStep.start h.disk h.cell) h.file h.apart h.cell.lt
  have ec : ({ c with sure := (X.sync f).2 == 0 } : Ck.C) = c := by
    obtain ⟨k, v, u⟩ := c
    simp only at h4
    subst h4
    simp [hr]
  rw [ec] at SC
  obtain ⟨X1, hX1⟩ : ∃ X1, X1 = (X.sync f).1 := ⟨_, rfl⟩
  obtain ⟨r, hr1⟩ : ∃ r, r = (X.sync f).2 := ⟨_, rfl⟩
  rw [← hX1, ← hr1] at SC ⊢
  rw [← hr1] at hr
  have hrb : (r != 0) = true := by simpa using hr
  obtain ⟨m, hm⟩ : ∃ m : Int, m = (c.slot : Int) := ⟨_, rfl⟩
  have hmb : (m != 0) = true := by simp; omega
  rw [← hm] at k2
  have SC' := Lib.hid SC
  have hs' : ¬ (65536 : Int) < (s.length : Int) := by omega
  clear h h0 h4 hr SC ec hX1 hr1 hm F hs
  go_enter Tryz.func48, Tryz.ntmps48
  go_wp2_with (go_at_call 60; refine SC'.out.mono ?_; rintro e w1 ⟨rfl, hp⟩)
  go_ret
  exact ⟨rfl, hp.out⟩

set_option maxHeartbeats 1000000 in
set_option maxRecDepth 100000 in
theorem set_A (b d : Nat) (f : Int) (c : Ck.C) (S : Nat → Prop) (X : D) (s : List UInt8) (hs : s.length ≤ 65536) (w : World) (h : SetOk w d b f S X c) (h0 : c.slot = 0) : Calls Tryz.prog 48 #[.pointer (some ⟨b, 0, none⟩), .string ⟨s.toArray⟩] w fun e w' => e = .returned (.int .i64 (Ck.setB X f c s).2.2) ∧ CStep w w' d b f S (Ck.setB X f c s).1 (Ck.setB X f c s).2.1 := by
  obtain ⟨Y1, hY1⟩ : ∃ Y1, X.write f (Ck.start (Ck.other c.slot) : Nat) s = Y1 := ⟨_, rfl⟩
  obtain ⟨Y2, hY2⟩ : ∃ Y2, Y1.1.sync f = Y2 := ⟨_, rfl⟩
  obtain ⟨Y3, hY3⟩ : ∃ Y3, Y2.1.write f 0 (Ck.header (Ck.other c.slot) s.length) = Y3 := ⟨_, rfl⟩
  obtain ⟨Y4, hY4⟩ : ∃ Y4, Y3.1.sync f = Y4 := ⟨_, rfl⟩
  obtain ⟨YE, hYE⟩ : ∃ YE, Ck.setB X f c s = YE := ⟨_, rfl⟩
  have E1 : Y1.2 ≠ 0 → YE = (Y1.1, c, Y1.2) := fun h1 => by
    rw [← hYE]
    unfold Ck.setB
    dsimp only
    rw [hY1, if_pos h1]
  have E2 : Y1.2 = 0 → Y2.2 ≠ 0 → YE = (Y2.1, c, Y2.2) := fun h1 h2 => by
    rw [← hYE]
    unfold Ck.setB
    dsimp only
    rw [hY1, if_neg (fun e => e h1), hY2, if_pos h2]
  have E3 : Y1.2 = 0 → Y2.2 = 0 → Y3.2 ≠ 0 → YE = (Y3.1, c, Y3.2) := fun h1 h2 h3 => by
    rw [← hYE]
    unfold Ck.setB
    dsimp only
    rw [hY1, if_neg (fun e => e h1), hY2, if_neg (fun e => e h2), hY3, if_pos h3]
  have E4 : Y1.2 = 0 → Y2.2 = 0 → Y3.2 = 0 → YE = (Y4.1, ⟨Ck.other c.slot, s, Y4.2 == 0⟩, Y4.2) := fun h1 h2 h3 => by
    rw [← hYE]
    unfold Ck.setB
    dsimp only
    rw [hY1, if_neg (fun e => e h1), hY2, if_neg (fun e => e h2), hY3, if_neg (fun e => e h3), hY4]
  rw [hYE]
  obtain ⟨k, hk⟩ : ∃ k, k = Ck.other c.slot := ⟨_, rfl⟩
  have hk12 : k = 1 ∨ k = 2 := by rw [hk]; exact other_le _
  obtain ⟨a, ha⟩ : ∃ a, a = Ck.start k := ⟨_, rfl⟩
  have hal : a ≤ 131072 := by rw [ha]; exact (Ck.start_le k).2
  have OT := Lib.hid (fun w1 (hp : CStep w w1 d b f S X c) => show Calls Tryz.prog 61 #[.pointer (some ⟨b, 0, none⟩)] w1 fun e w2 => e = .returned (.int .i64 (k : Int)) ∧ w2 = w1 from by
    have := step_other hp
    rw [← hk] at this
    exact this)
  have BG := Lib.hid (fun w1 (hp : CStep w w1 d b f S X c) => show Calls Tryz.prog 55 #[.int .i64 (k : Int)] w1.drew fun e w2 => e = .returned (.int .i64 (a : Int)) ∧ w2 = w1.drew from by
    have := begin_c k hk12 w1.drew (hp.drew.tab h.tab h.g1 h.g2)
    rw [← ha] at this
    exact this)
  have W1 := Lib.hid (fun w1 (hp : CStep w w1 d b f S X c) => show Calls Tryz.prog 47 #[.pointer (some ⟨d, 0, none⟩), .int .i64 f, .int .i64 (a : Int), .string ⟨s.toArray⟩] w1.drew fun e w2 => e = .returned (.int .i64 Y1.2) ∧ Hid (CStep w w2 d b f S Y1.1 c) from by
    have := step_write hp.drew h.file h.apart h.cell.lt a hal s hs
    rw [ha, hk, hY1] at this
    rw [ha, hk]
    exact this)
  have W2 := Lib.hid (fun w1 (hp : CStep w w1 d b f S Y1.1 c) => show Calls Tryz.prog 35 #[.pointer (some ⟨d, 0, none⟩), .int .i64 f] w1.drew fun e w2 => e = .returned (.int .i64 Y2.2) ∧ Hid (CStep w w2 d b f S Y2.1 c) from by
    have := step_sync hp.drew h.file h.apart h.cell.lt
    rw [hY2] at this
    exact this)
  have FO := Lib.hid (fun w1 (hp : CStep w w1 d b f S Y2.1 c) => show Calls Tryz.prog 62 #[.int .i64 (k : Int), .int .i64 (s.length : Int)] w1.drew fun e w2 => e = .returned (.string ⟨(Ck.header k s.length).toArray⟩) ∧ w2.cell? ⟨b, 0, none⟩ = some (.pointer (some ⟨d, 0, none⟩)) ∧ w2.cell? ⟨b, 1, none⟩ = some (.int .i64 f) ∧ Hid (CStep w w2 d b f S Y2.1 c) from
    step_form hp.drew k s.length (by omega) hs)
  have W3 := Lib.hid (fun w1 (hp : CStep w w1 d b f S Y2.1 c) => show Calls Tryz.prog 47 #[.pointer (some ⟨d, 0, none⟩), .int .i64 f, .int .i64 0, .string ⟨(Ck.header k s.length).toArray⟩] w1 fun e w2 => e = .returned (.int .i64 Y3.2) ∧ Hid (CStep w w2 d b f S Y3.1 c) from by
    have := step_write hp h.file h.apart h.cell.lt 0 (by omega) (Ck.header k s.length) (by rw [Ck.header_length]; omega)
    rw [show ((0 : Nat) : Int) = 0 from rfl, hk, hY3] at this
    rw [hk]
    exact this)
  have W4 := Lib.hid (fun w1 (hp : CStep w w1 d b f S Y3.1 c) => show Calls Tryz.prog 60 #[.pointer (some ⟨b, 0, none⟩)] (((w1.setCell ⟨b, 2, none⟩ (.int .i64 (k : Int))).setCell ⟨b, 3, none⟩ (.string ⟨s.toArray⟩)).setCell ⟨b, 4, none⟩ (.bool false)) fun e w2 => e = .returned (.int .i64 Y4.2) ∧ Hid (CStep w w2 d b f S Y4.1 ⟨k, s, Y4.2 == 0⟩) from by
    have := step_secure (hp.store h.apart h.cell.lt k s) h.file h.apart h.cell.lt
    rw [hY4] at this
    exact this)
  have F := (CStep.start h.disk h.cell).facts
  have k2 := F.c2
  have k4 := F.c4
  have j0 := F.c0
  have j1 := F.c1
  have hp := Lib.hid (CStep.start h.disk h.cell)
  rw [h0] at k2
  rw [show ((0 : Nat) : Int) = 0 from rfl] at k2
  rw [← hk] at E4
  obtain ⟨Z1, r1⟩ := Y1
  obtain ⟨Z2, r2⟩ := Y2
  obtain ⟨Z3, r3⟩ := Y3
  obtain ⟨Z4, r4⟩ := Y4
  obtain ⟨ZE, cE, rE⟩ := YE
  dsimp only at E1 E2 E3 E4 W1 W2 W3 W4 FO ⊢
  have G1 := Lib.hid E1
  have G2 := Lib.hid E2
  have G3 := Lib.hid E3
  have G4 := Lib.hid E4
  have hs' : ¬ (65536 : Int) < (s.length : Int) := by omega
  clear h F hs h0 hk ha hk12 hal E1 E2 E3 E4 hYE hY1 hY2 hY3 hY4
  go_enter Tryz.func48, Tryz.ntmps48
  go_upto_region 8 with (go_at_call 61; refine (OT.out _ hp.out).mono ?_; rintro e w2 ⟨rfl, hw2⟩; rw [hw2]; clear hw2)
  go_cut [7] (fun t7 wx => t7 = .int .i64 r1 ∧ Hid (CStep w wx d b f S Z1 c))
  case first =>
    go_region_law (first | (go_simp; go_at_call 55; refine (BG.out _ hp.out).mono ?_; rintro e w2 ⟨rfl, hw2⟩; rw [hw2]; clear hw2) | (go_simp; go_at_call 47; refine (W1.out _ hp.out).mono ?_; rintro e w3 ⟨rfl, hp3⟩))
    all_goals
      go_wp2_with fail
      go_meet
      exact ⟨rfl, hp3⟩
  case rest =>
    obtain ⟨rfl, hp3⟩ := hcut
    have i0 := hp3.out.facts.c0
    have i1 := hp3.out.facts.c1
    by_cases h1 : r1 = 0
    · subst h1
      go_upto_region 11 with fail
      go_cut [8] (fun t8 wx => t8 = .int .i64 r2 ∧ Hid (CStep w wx d b f S Z2 c))
      case first =>
        go_region_law (go_simp; go_at_call 35; refine (W2.out _ hp3.out).mono ?_; rintro e w4 ⟨rfl, hp4⟩)
        all_goals
          go_wp2_with fail
          go_meet
          exact ⟨rfl, hp4⟩
      case rest =>
        obtain ⟨rfl, hp4⟩ := hcut
        have i0 := hp4.out.facts.c0
        have i1 := hp4.out.facts.c1
        by_cases h2 : r2 = 0
        · subst h2
          go_upto_region 14 with fail
          go_cut [9] (fun t9 wx => t9 = .int .i64 r3 ∧ Hid (CStep w wx d b f S Z3 c))
          case first =>
            go_region_law (first | (go_simp; go_at_call 62; refine (FO.out _ hp4.out).mono ?_; rintro e w5 ⟨rfl, i0, i1, hp5⟩) | (go_simp; go_at_call 47; refine (W3.out _ hp5.out).mono ?_; rintro e w6 ⟨rfl, hp6⟩))
            all_goals
              go_wp2_with fail
              go_meet
              exact ⟨rfl, hp6⟩
          case rest =>
            obtain ⟨rfl, hp6⟩ := hcut
            have i0 := hp6.out.facts.c0
            have i1 := hp6.out.facts.c1
            have lc2 := hp6.out.facts.c2
            have lc3 := hp6.out.facts.c3
            have lc4 := hp6.out.facts.c4
            have lz2 := hp6.out.facts.z2
            have lz3 := hp6.out.facts.z3
            have lz4 := hp6.out.facts.z4
            by_cases h3 : r3 = 0
            · subst h3
              go_wp2_with (go_at_call 60; refine (W4.out _ hp6.out).mono ?_; rintro e w7 ⟨rfl, hp7⟩)
              go_ret
              obtain ⟨rfl, rfl, rfl⟩ := Prod3 (G4.out (by first | rfl | trivial) (by first | rfl | trivial) (by first | rfl | trivial))
              exact ⟨rfl, hp7.out⟩
            · have hrb : (r3 != 0) = true := by simpa using h3
              have hrn := Lib.hid h3
              clear h3
              go_wp2_with fail
              go_ret
              obtain ⟨rfl, rfl, rfl⟩ := Prod3 (G3.out (by first | rfl | trivial) (by first | rfl | trivial) hrn.out)
              exact ⟨rfl, hp6.out⟩
        · have hrb : (r2 != 0) = true := by simpa using h2
          have hrn := Lib.hid h2
          clear h2
          go_wp2_with fail
          go_ret
          obtain ⟨rfl, rfl, rfl⟩ := Prod3 (G2.out (by first | rfl | trivial) hrn.out)
          exact ⟨rfl, hp4.out⟩
    · have hrb : (r1 != 0) = true := by simpa using h1
      have hrn := Lib.hid h1
      clear h1
      go_wp2_with fail
      go_ret
      obtain ⟨rfl, rfl, rfl⟩ := Prod3 (G1.out hrn.out)
      exact ⟨rfl, hp3.out⟩

set_option maxHeartbeats 1000000 in
set_option maxRecDepth 100000 in
theorem set_B (b d : Nat) (f : Int) (c : Ck.C) (S : Nat → Prop) (X : D) (s : List UInt8) (hs : s.length ≤ 65536) (w : World) (h : SetOk w d b f S X c) (h0 : c.slot ≠ 0) (h4 : c.sure = true) : Calls Tryz.prog 48 #[.pointer (some ⟨b, 0, none⟩), .string ⟨s.toArray⟩] w fun e w' => e = .returned (.int .i64 (Ck.setB X f c s).2.2) ∧ CStep w w' d b f S (Ck.setB X f c s).1 (Ck.setB X f c s).2.1 := by
  obtain ⟨Y1, hY1⟩ : ∃ Y1, X.write f (Ck.start (Ck.other c.slot) : Nat) s = Y1 := ⟨_, rfl⟩
  obtain ⟨Y2, hY2⟩ : ∃ Y2, Y1.1.sync f = Y2 := ⟨_, rfl⟩
  obtain ⟨Y3, hY3⟩ : ∃ Y3, Y2.1.write f 0 (Ck.header (Ck.other c.slot) s.length) = Y3 := ⟨_, rfl⟩
  obtain ⟨Y4, hY4⟩ : ∃ Y4, Y3.1.sync f = Y4 := ⟨_, rfl⟩
  obtain ⟨YE, hYE⟩ : ∃ YE, Ck.setB X f c s = YE := ⟨_, rfl⟩
  have E1 : Y1.2 ≠ 0 → YE = (Y1.1, c, Y1.2) := fun h1 => by
    rw [← hYE]
    unfold Ck.setB
    dsimp only
    rw [hY1, if_pos h1]
  have E2 : Y1.2 = 0 → Y2.2 ≠ 0 → YE = (Y2.1, c, Y2.2) := fun h1 h2 => by
    rw [← hYE]
    unfold Ck.setB
    dsimp only
    rw [hY1, if_neg (fun e => e h1), hY2, if_pos h2]
  have E3 : Y1.2 = 0 → Y2.2 = 0 → Y3.2 ≠ 0 → YE = (Y3.1, c, Y3.2) := fun h1 h2 h3 => by
    rw [← hYE]
    unfold Ck.setB
    dsimp only
    rw [hY1, if_neg (fun e => e h1), hY2, if_neg (fun e => e h2), hY3, if_pos h3]
  have E4 : Y1.2 = 0 → Y2.2 = 0 → Y3.2 = 0 → YE = (Y4.1, ⟨Ck.other c.slot, s, Y4.2 == 0⟩, Y4.2) := fun h1 h2 h3 => by
    rw [← hYE]
    unfold Ck.setB
    dsimp only
    rw [hY1, if_neg (fun e => e h1), hY2, if_neg (fun e => e h2), hY3, if_neg (fun e => e h3), hY4]
  rw [hYE]
  obtain ⟨k, hk⟩ : ∃ k, k = Ck.other c.slot := ⟨_, rfl⟩
  have hk12 : k = 1 ∨ k = 2 := by rw [hk]; exact other_le _
  obtain ⟨a, ha⟩ : ∃ a, a = Ck.start k := ⟨_, rfl⟩
  have hal : a ≤ 131072 := by rw [ha]; exact (Ck.start_le k).2
  have OT := Lib.hid (fun w1 (hp : CStep w w1 d b f S X c) => show Calls Tryz.prog 61 #[.pointer (some ⟨b, 0, none⟩)] w1 fun e w2 => e = .returned (.int .i64 (k : Int)) ∧ w2 = w1 from by
    have := step_other hp
    rw [← hk] at this
    exact this)
  have BG := Lib.hid (fun w1 (hp : CStep w w1 d b f S X c) => show Calls Tryz.prog 55 #[.int .i64 (k : Int)] w1.drew fun e w2 => e = .returned (.int .i64 (a : Int)) ∧ w2 = w1.drew from by
    have := begin_c k hk12 w1.drew (hp.drew.tab h.tab h.g1 h.g2)
    rw [← ha] at this
    exact this)
  have W1 := Lib.hid (fun w1 (hp : CStep w w1 d b f S X c) => show Calls Tryz.prog 47 #[.pointer (some ⟨d, 0, none⟩), .int .i64 f, .int .i64 (a : Int), .string ⟨s.toArray⟩] w1.drew fun e w2 => e = .returned (.int .i64 Y1.2) ∧ Hid (CStep w w2 d b f S Y1.1 c) from by
    have := step_write hp.drew h.file h.apart h.cell.lt a hal s hs
    rw [ha, hk, hY1] at this
    rw [ha, hk]
    exact this)
  have W2 := Lib.hid (fun w1 (hp : CStep w w1 d b f S Y1.1 c) => show Calls Tryz.prog 35 #[.pointer (some ⟨d, 0, none⟩), .int .i64 f] w1.drew fun e w2 => e = .returned (.int .i64 Y2.2) ∧ Hid (CStep w w2 d b f S Y2.1 c) from by
    have := step_sync hp.drew h.file h.apart h.cell.lt
    rw [hY2] at this
    exact this)
  have FO := Lib.hid (fun w1 (hp : CStep w w1 d b f S Y2.1 c) => show Calls Tryz.prog 62 #[.int .i64 (k : Int), .int .i64 (s.length : Int)] w1.drew fun e w2 => e = .returned (.string ⟨(Ck.header k s.length).toArray⟩) ∧ w2.cell? ⟨b, 0, none⟩ = some (.pointer (some ⟨d, 0, none⟩)) ∧ w2.cell? ⟨b, 1, none⟩ = some (.int .i64 f) ∧ Hid (CStep w w2 d b f S Y2.1 c) from
    step_form hp.drew k s.length (by omega) hs)
  have W3 := Lib.hid (fun w1 (hp : CStep w w1 d b f S Y2.1 c) => show Calls Tryz.prog 47 #[.pointer (some ⟨d, 0, none⟩), .int .i64 f, .int .i64 0, .string ⟨(Ck.header k s.length).toArray⟩] w1 fun e w2 => e = .returned (.int .i64 Y3.2) ∧ Hid (CStep w w2 d b f S Y3.1 c) from by
    have := step_write hp h.file h.apart h.cell.lt 0 (by omega) (Ck.header k s.length) (by rw [Ck.header_length]; omega)
    rw [show ((0 : Nat) : Int) = 0 from rfl, hk, hY3] at this
    rw [hk]
    exact this)
  have W4 := Lib.hid (fun w1 (hp : CStep w w1 d b f S Y3.1 c) => show Calls Tryz.prog 60 #[.pointer (some ⟨b, 0, none⟩)] (((w1.setCell ⟨b, 2, none⟩ (.int .i64 (k : Int))).setCell ⟨b, 3, none⟩ (.string ⟨s.toArray⟩)).setCell ⟨b, 4, none⟩ (.bool false)) fun e w2 => e = .returned (.int .i64 Y4.2) ∧ Hid (CStep w w2 d b f S Y4.1 ⟨k, s, Y4.2 == 0⟩) from by
    have := step_secure (hp.store h.apart h.cell.lt k s) h.file h.apart h.cell.lt
    rw [hY4] at this
    exact this)
  have F := (CStep.start h.disk h.cell).facts
  have k2 := F.c2
  have k4 := F.c4
  have j0 := F.c0
  have j1 := F.c1
  have hp := Lib.hid (CStep.start h.disk h.cell)
  rw [h4] at k4
  obtain ⟨m, hm⟩ : ∃ m : Int, m = (c.slot : Int) := ⟨_, rfl⟩
  have hmb : (m != 0) = true := by simp; omega
  rw [← hm] at k2
  rw [← hk] at E4
  obtain ⟨Z1, r1⟩ := Y1
  obtain ⟨Z2, r2⟩ := Y2
  obtain ⟨Z3, r3⟩ := Y3
  obtain ⟨Z4, r4⟩ := Y4
  obtain ⟨ZE, cE, rE⟩ := YE
  dsimp only at E1 E2 E3 E4 W1 W2 W3 W4 FO ⊢
  have G1 := Lib.hid E1
  have G2 := Lib.hid E2
  have G3 := Lib.hid E3
  have G4 := Lib.hid E4
  have hs' : ¬ (65536 : Int) < (s.length : Int) := by omega
  clear h F hs h0 hk ha hk12 hal E1 E2 E3 E4 hYE h4 hm hY1 hY2 hY3 hY4
  go_enter Tryz.func48, Tryz.ntmps48
  go_upto_region 8 with (go_at_call 61; refine (OT.out _ hp.out).mono ?_; rintro e w2 ⟨rfl, hw2⟩; rw [hw2]; clear hw2)
  go_cut [7] (fun t7 wx => t7 = .int .i64 r1 ∧ Hid (CStep w wx d b f S Z1 c))
  case first =>
    go_region_law (first | (go_simp; go_at_call 55; refine (BG.out _ hp.out).mono ?_; rintro e w2 ⟨rfl, hw2⟩; rw [hw2]; clear hw2) | (go_simp; go_at_call 47; refine (W1.out _ hp.out).mono ?_; rintro e w3 ⟨rfl, hp3⟩))
    all_goals
      go_wp2_with fail
      go_meet
      exact ⟨rfl, hp3⟩
  case rest =>
    obtain ⟨rfl, hp3⟩ := hcut
    have i0 := hp3.out.facts.c0
    have i1 := hp3.out.facts.c1
    by_cases h1 : r1 = 0
    · subst h1
      go_upto_region 11 with fail
      go_cut [8] (fun t8 wx => t8 = .int .i64 r2 ∧ Hid (CStep w wx d b f S Z2 c))
      case first =>
        go_region_law (go_simp; go_at_call 35; refine (W2.out _ hp3.out).mono ?_; rintro e w4 ⟨rfl, hp4⟩)
        all_goals
          go_wp2_with fail
          go_meet
          exact ⟨rfl, hp4⟩
      case rest =>
        obtain ⟨rfl, hp4⟩ := hcut
        have i0 := hp4.out.facts.c0
        have i1 := hp4.out.facts.c1
        by_cases h2 : r2 = 0
        · subst h2
          go_upto_region 14 with fail
          go_cut [9] (fun t9 wx => t9 = .int .i64 r3 ∧ Hid (CStep w wx d b f S Z3 c))
          case first =>
            go_region_law (first | (go_simp; go_at_call 62; refine (FO.out _ hp4.out).mono ?_; rintro e w5 ⟨rfl, i0, i1, hp5⟩) | (go_simp; go_at_call 47; refine (W3.out _ hp5.out).mono ?_; rintro e w6 ⟨rfl, hp6⟩))
            all_goals
              go_wp2_with fail
              go_meet
              exact ⟨rfl, hp6⟩
          case rest =>
            obtain ⟨rfl, hp6⟩ := hcut
            have i0 := hp6.out.facts.c0
            have i1 := hp6.out.facts.c1
            have lc2 := hp6.out.facts.c2
            have lc3 := hp6.out.facts.c3
            have lc4 := hp6.out.facts.c4
            have lz2 := hp6.out.facts.z2
            have lz3 := hp6.out.facts.z3
            have lz4 := hp6.out.facts.z4
            by_cases h3 : r3 = 0
            · subst h3
              go_wp2_with (go_at_call 60; refine (W4.out _ hp6.out).mono ?_; rintro e w7 ⟨rfl, hp7⟩)
              go_ret
              obtain ⟨rfl, rfl, rfl⟩ := Prod3 (G4.out (by first | rfl | trivial) (by first | rfl | trivial) (by first | rfl | trivial))
              exact ⟨rfl, hp7.out⟩
            · have hrb : (r3 != 0) = true := by simpa using h3
              have hrn := Lib.hid h3
              clear h3
              go_wp2_with fail
              go_ret
              obtain ⟨rfl, rfl, rfl⟩ := Prod3 (G3.out (by first | rfl | trivial) (by first | rfl | trivial) hrn.out)
              exact ⟨rfl, hp6.out⟩
        · have hrb : (r2 != 0) = true := by simpa using h2
          have hrn := Lib.hid h2
          clear h2
          go_wp2_with fail
          go_ret
          obtain ⟨rfl, rfl, rfl⟩ := Prod3 (G2.out (by first | rfl | trivial) hrn.out)
          exact ⟨rfl, hp4.out⟩
    · have hrb : (r1 != 0) = true := by simpa using h1
      have hrn := Lib.hid h1
      clear h1
      go_wp2_with fail
      go_ret
      obtain ⟨rfl, rfl, rfl⟩ := Prod3 (G1.out hrn.out)
      exact ⟨rfl, hp3.out⟩

set_option maxHeartbeats 1000000 in
set_option maxRecDepth 100000 in
theorem set_C (b d : Nat) (f : Int) (c : Ck.C) (S : Nat → Prop) (X : D) (s : List UInt8) (hs : s.length ≤ 65536) (w : World) (h : SetOk w d b f S X c) (h0 : c.slot ≠ 0) (h4 : c.sure = false) (X0 : D) (c0 : Ck.C) (hX0 : X.sync f = (X0, 0)) (hc0 : c0 = { c with sure := true }) : Calls Tryz.prog 48 #[.pointer (some ⟨b, 0, none⟩), .string ⟨s.toArray⟩] w fun e w' => e = .returned (.int .i64 (Ck.setB X0 f c0 s).2.2) ∧ CStep w w' d b f S (Ck.setB X0 f c0 s).1 (Ck.setB X0 f c0 s).2.1 := by
  obtain ⟨Y1, hY1⟩ : ∃ Y1, X0.write f (Ck.start (Ck.other c0.slot) : Nat) s = Y1 := ⟨_, rfl⟩
  obtain ⟨Y2, hY2⟩ : ∃ Y2, Y1.1.sync f = Y2 := ⟨_, rfl⟩
  obtain ⟨Y3, hY3⟩ : ∃ Y3, Y2.1.write f 0 (Ck.header (Ck.other c0.slot) s.length) = Y3 := ⟨_, rfl⟩
  obtain ⟨Y4, hY4⟩ : ∃ Y4, Y3.1.sync f = Y4 := ⟨_, rfl⟩
  obtain ⟨YE, hYE⟩ : ∃ YE, Ck.setB X0 f c0 s = YE := ⟨_, rfl⟩
  have E1 : Y1.2 ≠ 0 → YE = (Y1.1, c0, Y1.2) := fun h1 => by
    rw [← hYE]
    unfold Ck.setB
    dsimp only
    rw [hY1, if_pos h1]
  have E2 : Y1.2 = 0 → Y2.2 ≠ 0 → YE = (Y2.1, c0, Y2.2) := fun h1 h2 => by
    rw [← hYE]
    unfold Ck.setB
    dsimp only
    rw [hY1, if_neg (fun e => e h1), hY2, if_pos h2]
  have E3 : Y1.2 = 0 → Y2.2 = 0 → Y3.2 ≠ 0 → YE = (Y3.1, c0, Y3.2) := fun h1 h2 h3 => by
    rw [← hYE]
    unfold Ck.setB
    dsimp only
    rw [hY1, if_neg (fun e => e h1), hY2, if_neg (fun e => e h2), hY3, if_pos h3]
  have E4 : Y1.2 = 0 → Y2.2 = 0 → Y3.2 = 0 → YE = (Y4.1, ⟨Ck.other c0.slot, s, Y4.2 == 0⟩, Y4.2) := fun h1 h2 h3 => by
    rw [← hYE]
    unfold Ck.setB
    dsimp only
    rw [hY1, if_neg (fun e => e h1), hY2, if_neg (fun e => e h2), hY3, if_neg (fun e => e h3), hY4]
  rw [hYE]
  have SC := step_secure (CStep.start h.disk h.cell) h.file h.apart h.cell.lt
  rw [hX0] at SC
  have SC' := Lib.hid (show Calls Tryz.prog 60 #[.pointer (some ⟨b, 0, none⟩)] w fun e w2 => e = .returned (.int .i64 0) ∧ Hid (CStep w w2 d b f S X0 c0) from by
    rw [hc0]
    exact SC)
  obtain ⟨k, hk⟩ : ∃ k, k = Ck.other c0.slot := ⟨_, rfl⟩
  have hk12 : k = 1 ∨ k = 2 := by rw [hk]; exact other_le _
  obtain ⟨a, ha⟩ : ∃ a, a = Ck.start k := ⟨_, rfl⟩
  have hal : a ≤ 131072 := by rw [ha]; exact (Ck.start_le k).2
  have OT := Lib.hid (fun w1 (hp : CStep w w1 d b f S X0 c0) => show Calls Tryz.prog 61 #[.pointer (some ⟨b, 0, none⟩)] w1 fun e w2 => e = .returned (.int .i64 (k : Int)) ∧ w2 = w1 from by
    have := step_other hp
    rw [← hk] at this
    exact this)
  have BG := Lib.hid (fun w1 (hp : CStep w w1 d b f S X0 c0) => show Calls Tryz.prog 55 #[.int .i64 (k : Int)] w1.drew fun e w2 => e = .returned (.int .i64 (a : Int)) ∧ w2 = w1.drew from by
    have := begin_c k hk12 w1.drew (hp.drew.tab h.tab h.g1 h.g2)
    rw [← ha] at this
    exact this)
  have W1 := Lib.hid (fun w1 (hp : CStep w w1 d b f S X0 c0) => show Calls Tryz.prog 47 #[.pointer (some ⟨d, 0, none⟩), .int .i64 f, .int .i64 (a : Int), .string ⟨s.toArray⟩] w1.drew fun e w2 => e = .returned (.int .i64 Y1.2) ∧ Hid (CStep w w2 d b f S Y1.1 c0) from by
    have := step_write hp.drew h.file h.apart h.cell.lt a hal s hs
    rw [ha, hk, hY1] at this
    rw [ha, hk]
    exact this)
  have W2 := Lib.hid (fun w1 (hp : CStep w w1 d b f S Y1.1 c0) => show Calls Tryz.prog 35 #[.pointer (some ⟨d, 0, none⟩), .int .i64 f] w1.drew fun e w2 => e = .returned (.int .i64 Y2.2) ∧ Hid (CStep w w2 d b f S Y2.1 c0) from by
    have := step_sync hp.drew h.file h.apart h.cell.lt
    rw [hY2] at this
    exact this)
  have FO := Lib.hid (fun w1 (hp : CStep w w1 d b f S Y2.1 c0) => show Calls Tryz.prog 62 #[.int .i64 (k : Int), .int .i64 (s.length : Int)] w1.drew fun e w2 => e = .returned (.string ⟨(Ck.header k s.length).toArray⟩) ∧ w2.cell? ⟨b, 0, none⟩ = some (.pointer (some ⟨d, 0, none⟩)) ∧ w2.cell? ⟨b, 1, none⟩ = some (.int .i64 f) ∧ Hid (CStep w w2 d b f S Y2.1 c0) from
    step_form hp.drew k s.length (by omega) hs)
  have W3 := Lib.hid (fun w1 (hp : CStep w w1 d b f S Y2.1 c0) => show Calls Tryz.prog 47 #[.pointer (some ⟨d, 0, none⟩), .int .i64 f, .int .i64 0, .string ⟨(Ck.header k s.length).toArray⟩] w1 fun e w2 => e = .returned (.int .i64 Y3.2) ∧ Hid (CStep w w2 d b f S Y3.1 c0) from by
    have := step_write hp h.file h.apart h.cell.lt 0 (by omega) (Ck.header k s.length) (by rw [Ck.header_length]; omega)
    rw [show ((0 : Nat) : Int) = 0 from rfl, hk, hY3] at this
    rw [hk]
    exact this)
  have W4 := Lib.hid (fun w1 (hp : CStep w w1 d b f S Y3.1 c0) => show Calls Tryz.prog 60 #[.pointer (some ⟨b, 0, none⟩)] (((w1.setCell ⟨b, 2, none⟩ (.int .i64 (k : Int))).setCell ⟨b, 3, none⟩ (.string ⟨s.toArray⟩)).setCell ⟨b, 4, none⟩ (.bool false)) fun e w2 => e = .returned (.int .i64 Y4.2) ∧ Hid (CStep w w2 d b f S Y4.1 ⟨k, s, Y4.2 == 0⟩) from by
    have := step_secure (hp.store h.apart h.cell.lt k s) h.file h.apart h.cell.lt
    rw [hY4] at this
    exact this)
  have F := (CStep.start h.disk h.cell).facts
  have k2 := F.c2
  have k4 := F.c4
  rw [h4] at k4
  obtain ⟨m, hm⟩ : ∃ m : Int, m = (c.slot : Int) := ⟨_, rfl⟩
  have hmb : (m != 0) = true := by simp; omega
  rw [← hm] at k2
  rw [← hk] at E4
  obtain ⟨Z1, r1⟩ := Y1
  obtain ⟨Z2, r2⟩ := Y2
  obtain ⟨Z3, r3⟩ := Y3
  obtain ⟨Z4, r4⟩ := Y4
  obtain ⟨ZE, cE, rE⟩ := YE
  dsimp only at E1 E2 E3 E4 W1 W2 W3 W4 FO ⊢
  have G1 := Lib.hid E1
  have G2 := Lib.hid E2
  have G3 := Lib.hid E3
  have G4 := Lib.hid E4
  have hs' : ¬ (65536 : Int) < (s.length : Int) := by omega
  clear h F hs h0 hk ha hk12 hal E1 E2 E3 E4 hYE h4 hm SC hX0 hc0 hY1 hY2 hY3 hY4
  go_enter Tryz.func48, Tryz.ntmps48
  go_upto_region 8 with (first | (go_at_call 60; refine SC'.out.mono ?_; rintro e w1 ⟨rfl, hp⟩; have j0 := hp.out.facts.c0; have j1 := hp.out.facts.c1) | (go_at_call 61; refine (OT.out _ hp.out).mono ?_; rintro e w2 ⟨rfl, hw2⟩; rw [hw2]; clear hw2))
  go_cut [7] (fun t7 wx => t7 = .int .i64 r1 ∧ Hid (CStep w wx d b f S Z1 c0))
  case first =>
    go_region_law (first | (go_simp; go_at_call 55; refine (BG.out _ hp.out).mono ?_; rintro e w2 ⟨rfl, hw2⟩; rw [hw2]; clear hw2) | (go_simp; go_at_call 47; refine (W1.out _ hp.out).mono ?_; rintro e w3 ⟨rfl, hp3⟩))
    all_goals
      go_wp2_with fail
      go_meet
      exact ⟨rfl, hp3⟩
  case rest =>
    obtain ⟨rfl, hp3⟩ := hcut
    have i0 := hp3.out.facts.c0
    have i1 := hp3.out.facts.c1
    by_cases h1 : r1 = 0
    · subst h1
      go_upto_region 11 with fail
      go_cut [8] (fun t8 wx => t8 = .int .i64 r2 ∧ Hid (CStep w wx d b f S Z2 c0))
      case first =>
        go_region_law (go_simp; go_at_call 35; refine (W2.out _ hp3.out).mono ?_; rintro e w4 ⟨rfl, hp4⟩)
        all_goals
          go_wp2_with fail
          go_meet
          exact ⟨rfl, hp4⟩
      case rest =>
        obtain ⟨rfl, hp4⟩ := hcut
        have i0 := hp4.out.facts.c0
        have i1 := hp4.out.facts.c1
        by_cases h2 : r2 = 0
        · subst h2
          go_upto_region 14 with fail
          go_cut [9] (fun t9 wx => t9 = .int .i64 r3 ∧ Hid (CStep w wx d b f S Z3 c0))
          case first =>
            go_region_law (first | (go_simp; go_at_call 62; refine (FO.out _ hp4.out).mono ?_; rintro e w5 ⟨rfl, i0, i1, hp5⟩) | (go_simp; go_at_call 47; refine (W3.out _ hp5.out).mono ?_; rintro e w6 ⟨rfl, hp6⟩))
            all_goals
              go_wp2_with fail
              go_meet
              exact ⟨rfl, hp6⟩
          case rest =>
            obtain ⟨rfl, hp6⟩ := hcut
            have i0 := hp6.out.facts.c0
            have i1 := hp6.out.facts.c1
            have lc2 := hp6.out.facts.c2
            have lc3 := hp6.out.facts.c3
            have lc4 := hp6.out.facts.c4
            have lz2 := hp6.out.facts.z2
            have lz3 := hp6.out.facts.z3
            have lz4 := hp6.out.facts.z4
            by_cases h3 : r3 = 0
            · subst h3
              go_wp2_with (go_at_call 60; refine (W4.out _ hp6.out).mono ?_; rintro e w7 ⟨rfl, hp7⟩)
              go_ret
              obtain ⟨rfl, rfl, rfl⟩ := Prod3 (G4.out (by first | rfl | trivial) (by first | rfl | trivial) (by first | rfl | trivial))
              exact ⟨rfl, hp7.out⟩
            · have hrb : (r3 != 0) = true := by simpa using h3
              have hrn := Lib.hid h3
              clear h3
              go_wp2_with fail
              go_ret
              obtain ⟨rfl, rfl, rfl⟩ := Prod3 (G3.out (by first | rfl | trivial) (by first | rfl | trivial) hrn.out)
              exact ⟨rfl, hp6.out⟩
        · have hrb : (r2 != 0) = true := by simpa using h2
          have hrn := Lib.hid h2
          clear h2
          go_wp2_with fail
          go_ret
          obtain ⟨rfl, rfl, rfl⟩ := Prod3 (G2.out (by first | rfl | trivial) hrn.out)
          exact ⟨rfl, hp4.out⟩
    · have hrb : (r1 != 0) = true := by simpa using h1
      have hrn := Lib.hid h1
      clear h1
      go_wp2_with fail
      go_ret
      obtain ⟨rfl, rfl, rfl⟩ := Prod3 (G1.out hrn.out)
      exact ⟨rfl, hp3.out⟩

/-- Set is what the model says. -/
theorem set_c (b d : Nat) (f : Int) (c : Ck.C) (S : Nat → Prop) (X : D) (s : List UInt8) (w : World) (h : SetOk w d b f S X c) :
    Calls Tryz.prog 48 #[.pointer (some ⟨b, 0, none⟩), .string ⟨s.toArray⟩] w fun e w' => e = .returned (.int .i64 (Ck.setM X f c s).2.2) ∧ CStep w w' d b f S (Ck.setM X f c s).1 (Ck.setM X f c s).2.1 := by
  by_cases hl : 65536 < s.length
  · have e : Ck.setM X f c s = (X, c, 6) := by unfold Ck.setM; rw [if_pos hl]
    rw [e]
    exact set_long b d f c S X s hl w h
  · have hs : s.length ≤ 65536 := by omega
    unfold Ck.setM
    rw [if_neg hl]
    by_cases hc : c.sure = false ∧ c.slot ≠ 0
    · rw [if_pos hc]
      dsimp only
      by_cases hr : (X.sync f).2 = 0
      · rw [if_neg (fun e => e hr)]
        exact set_C b d f c S X s hs w h hc.2 hc.1 _ _ (Prod.ext rfl hr) rfl
      · rw [if_pos hr]
        exact set_first b d f c S X s hs w h hc.2 hc.1 hr
    · rw [if_neg hc]
      by_cases h0 : c.slot = 0
      · exact set_A b d f c S X s hs w h h0
      · have h4 : c.sure = true := by
          cases e : c.sure with
          | true => rfl
          | false => exact absurd ⟨e, h0⟩ hc
        exact set_B b d f c S X s hs w h h0 h4
end Go.Proofs.YtljgfnglknpfaaaGreatDoor
