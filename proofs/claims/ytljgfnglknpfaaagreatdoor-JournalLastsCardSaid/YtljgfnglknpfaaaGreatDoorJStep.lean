/-
  journal: the methods write and note.
-/
import Derived.Test.YtljgfnglknpfaaaGreatDoorJOpen
namespace Go.Proofs.YtljgfnglknpfaaaGreatDoor
set_option maxRecDepth 100000
open Go Go.RowKit Go.Maps Dk

/-- In the midst of a method: the journal's parts, and what the law keeps. -/
structure JP (w0 w : World) (d b cb : Nat) (f : Int) (lv : Value) (F : Nat → Prop) (X : D) (j : Jn.J) (w1 : World) : Prop where
  at' : JF' w0 w1 d b cb f X lv j F
  kept : Held F w w1
theorem JF'.jp {w0 w : World} {d b cb : Nat} {f : Int} {X : D} {lv : Value} {j : Jn.J} {F : Nat → Prop} (h : JF' w0 w d b cb f X lv j F) : JP w0 w d b cb f lv F X j w := ⟨h, Held.refl _ _⟩
theorem JP.next {w0 w w1 w2 : World} {d b cb : Nat} {f : Int} {X X' : D} {lv : Value} {j j' : Jn.J} {F : Nat → Prop} (h : JP w0 w d b cb f lv F X j w1) (h2 : JF' w0 w2 d b cb f X' lv j' F) (hk : Held F w1 w2) : JP w0 w d b cb f lv F X' j' w2 := ⟨h2, h.kept.trans hk⟩
theorem JP.below {w0 w w1 w2 : World} {d b cb : Nat} {f : Int} {X : D} {lv : Value} {j : Jn.J} {F : Nat → Prop} (h : JP w0 w d b cb f lv F X j w1) (hb : RowKit.Below w1.heap.size w1 w2) : JP w0 w d b cb f lv F X j w2 := h.next (h.at'.below hb (fun _ e => Or.inl e)) (Kept.below hb)
theorem JP.drew {w0 w w1 : World} {d b cb : Nat} {f : Int} {X : D} {lv : Value} {j : Jn.J} {F : Nat → Prop} (h : JP w0 w d b cb f lv F X j w1) : JP w0 w d b cb f lv F X j w1.drew := h.below ⟨rfl, rfl, rfl, Nat.le_refl _, fun _ _ => rfl⟩
theorem JP.mark {w0 w w1 : World} {d b cb : Nat} {f : Int} {X : D} {lv : Value} {j : Jn.J} {F : Nat → Prop} (h : JP w0 w d b cb f lv F X j w1) (x : Bool) : JP w0 w d b cb f lv F X ⟨j.c, j.l, x⟩ (w1.setCell ⟨b, 5, none⟩ (.bool x)) := h.next (h.at'.mark x).1 (h.at'.mark x).2
theorem JP.c0 {w0 w w1 : World} {d b cb : Nat} {f : Int} {X : D} {lv : Value} {j : Jn.J} {F : Nat → Prop} (h : JP w0 w d b cb f lv F X j w1) : w1.cell? ⟨b, 0, none⟩ = some (.pointer (some ⟨d, 0, none⟩)) := h.at'.jb.c0
theorem JP.c1 {w0 w w1 : World} {d b cb : Nat} {f : Int} {X : D} {lv : Value} {j : Jn.J} {F : Nat → Prop} (h : JP w0 w d b cb f lv F X j w1) : w1.cell? ⟨b, 1, none⟩ = some (.int .i64 f) := h.at'.jb.c1
theorem JP.c2 {w0 w w1 : World} {d b cb : Nat} {f : Int} {X : D} {lv : Value} {j : Jn.J} {F : Nat → Prop} (h : JP w0 w d b cb f lv F X j w1) : w1.cell? ⟨b, 2, none⟩ = some (.pointer (some ⟨cb, 0, none⟩)) := h.at'.jb.c2
theorem JP.c3 {w0 w w1 : World} {d b cb : Nat} {f : Int} {X : D} {lv : Value} {j : Jn.J} {F : Nat → Prop} (h : JP w0 w d b cb f lv F X j w1) : w1.cell? ⟨b, 3, none⟩ = some lv := h.at'.jb.c3
theorem JP.c4 {w0 w w1 : World} {d b cb : Nat} {f : Int} {X : D} {lv : Value} {j : Jn.J} {F : Nat → Prop} (h : JP w0 w d b cb f lv F X j w1) : w1.cell? ⟨b, 4, none⟩ = some (.int .i64 ((Jn.form j.l).length : Int)) := h.at'.jb.c4
theorem JP.c5 {w0 w w1 : World} {d b cb : Nat} {f : Int} {X : D} {lv : Value} {j : Jn.J} {F : Nat → Prop} (h : JP w0 w d b cb f lv F X j w1) : w1.cell? ⟨b, 5, none⟩ = some (.bool j.bad) := h.at'.jb.c5
theorem JP.z {w0 w w1 : World} {d b cb : Nat} {f : Int} {X : D} {lv : Value} {j : Jn.J} {F : Nat → Prop} (h : JP w0 w d b cb f lv F X j w1) (o : Nat) : w1.frozen? ⟨b, o, none⟩ = false := h.at'.jb.z o
theorem jp_op {w0 w w1 : World} {d b cb : Nat} {f : Int} {X X' : D} {lv : Value} {j : Jn.J} {F : Nat → Prop} (h : JP w0 w d b cb f lv F X j w1) {g : FuncId} {args : Array Value} {r : Ending}
    (hop : ∀ S, DiskIn w1 d S X → (∀ k, S k → w0.heap.size ≤ k) → Calls Tryz.prog g args w1 fun e w' => e = r ∧ DiskIn w' d (After S w1) X' ∧ Kept S w1 w') : Calls Tryz.prog g args w1 fun e w' => e = r ∧ Hid (JP w0 w d b cb f lv F X' j w') := by
  refine (h.at'.op hop).mono ?_
  rintro e w' ⟨rfl, g⟩
  exact ⟨rfl, h.next g.out.1 g.out.2⟩
theorem jp_set {w0 w w1 : World} {d b cb : Nat} {f : Int} {X : D} {lv : Value} {j : Jn.J} {F : Nat → Prop} (ht : Tab w0) (h : JP w0 w d b cb f lv F X j w1) (hf : 0 ≤ f ∧ f ≤ 14) (v : List UInt8) :
    Calls Tryz.prog 48 #[.pointer (some ⟨cb, 0, none⟩), .string ⟨v.toArray⟩] w1 fun e w' => e = .returned (.int .i64 (Ck.setM X (f + 1) j.c v).2.2) ∧ Hid (JP w0 w d b cb f lv F (Ck.setM X (f + 1) j.c v).1 ⟨(Ck.setM X (f + 1) j.c v).2.1, j.l, j.bad⟩ w') := by
  refine (cf_set ht h.at'.cf (by omega) v).mono ?_
  rintro e w' ⟨rfl, g⟩
  have := h.at'.after g.out.1 g.out.2
  exact ⟨rfl, h.next this.1 this.2⟩

def writeJ (X : D) (f : Int) (j : Jn.J) (s : List UInt8) : D × Jn.J × Int :=
  let a := X.write f ((Jn.form j.l).length : Nat) s
  if a.2 ≠ 0 then (a.1, ⟨j.c, j.l, true⟩, a.2) else
  let z := a.1.sync f
  (z.1, ⟨j.c, j.l, z.2 != 0⟩, z.2)
def putJ (X : D) (f : Int) (j : Jn.J) (v : List UInt8) : D × Jn.J × Int :=
  let z := Ck.setM X (f + 1) j.c v
  (z.1, ⟨z.2.1, j.l, z.2.2 != 0⟩, z.2.2)

set_option maxHeartbeats 1000000 in
theorem jwrite_c {w0 w : World} {d b cb : Nat} {f : Int} {X : D} {lv : Value} {j : Jn.J} {F : Nat → Prop} (h : JF' w0 w d b cb f X lv j F) (hf : 0 ≤ f ∧ f ≤ 14) (s : List UInt8) (hs : s.length ≤ 9223372036854775807) (hj : (Jn.form j.l).length ≤ 1048576) :
    Calls Tryz.prog 29 #[.pointer (some ⟨b, 0, none⟩), .string ⟨s.toArray⟩] w fun e w' => e = .returned (.int .i64 (writeJ X f j s).2.2) ∧ Hid (JP w0 w d b cb f lv F (writeJ X f j s).1 (writeJ X f j s).2.1 w') := by
  obtain ⟨L, hL⟩ : ∃ L, L = (Jn.form j.l).length := ⟨_, rfl⟩
  have q1 := fun w1 (hp : JP w0 w d b cb f lv F X j w1) => jp_op hp.drew (fun S g _ => write_c d S X f (L : Nat) s (by omega) (by omega) hs w1.drew g)
  obtain ⟨Y1, hY1⟩ : ∃ Y, Y = X.write f (L : Nat) s := ⟨_, rfl⟩
  rw [← hY1] at q1
  have q2 := fun w1 (hp : JP w0 w d b cb f lv F Y1.1 j w1) => jp_op hp.drew (fun S g _ => sync_c d S Y1.1 f (by omega) w1.drew g)
  obtain ⟨Y2, hY2⟩ : ∃ Y, Y = Y1.1.sync f := ⟨_, rfl⟩
  rw [← hY2] at q2
  have hW : writeJ X f j s = if Y1.2 ≠ 0 then (Y1.1, ⟨j.c, j.l, true⟩, Y1.2) else (Y2.1, ⟨j.c, j.l, Y2.2 != 0⟩, Y2.2) := by
    unfold writeJ
    dsimp only
    rw [← hL, ← hY1, ← hY2]
  rw [hW]
  clear hW hY1 hY2
  obtain ⟨Z1, r1⟩ := Y1
  obtain ⟨Z2, r2⟩ := Y2
  dsimp only at q1 q2 ⊢
  have Q1 := Lib.hid q1
  have Q2 := Lib.hid q2
  have hp := Lib.hid h.jp
  have k0 := hp.out.c0
  have k1 := hp.out.c1
  have k4 := hp.out.c4
  rw [← hL] at k4
  clear q1 q2 h hL hj
  go_enter Tryz.func29, Tryz.ntmps29
  go_upto_region 1 with fail
  go_cut [5] (fun t5 wx => t5 = .int .i64 r1 ∧ Hid (JP w0 w d b cb f lv F Z1 j wx))
  case first =>
    go_region_law (go_simp; go_at_call 47; refine (Q1.out _ hp.out).mono ?_; rintro e w3 ⟨rfl, hp3⟩)
    all_goals
      go_wp2_with fail
      go_meet
      exact ⟨rfl, hp3⟩
  case rest =>
    obtain ⟨rfl, hp3⟩ := hcut
    have i0 := hp3.out.c0
    have i1 := hp3.out.c1
    have i5 := hp3.out.c5
    have z5 := hp3.out.z 5
    by_cases h1 : r1 = 0
    · subst h1
      go_upto_region 3 with fail
      go_cut [5] (fun t5 wx => t5 = .int .i64 r2 ∧ Hid (JP w0 w d b cb f lv F Z2 j wx))
      case first =>
        go_region_law (go_simp; go_at_call 35; refine (Q2.out _ hp3.out).mono ?_; rintro e w4 ⟨rfl, hp4⟩)
        all_goals
          go_wp2_with fail
          go_meet
          exact ⟨rfl, hp4⟩
      case rest =>
        obtain ⟨rfl, hp4⟩ := hcut
        have l5 := hp4.out.c5
        have y5 := hp4.out.z 5
        obtain ⟨x2, hx2⟩ : ∃ x2 : Bool, (r2 != 0) = x2 := ⟨_, rfl⟩
        go_wp2_with fail
        go_ret
        exact ⟨rfl, Lib.hid (by simpa [hx2] using hp4.out.mark x2)⟩
    · have hb1 : (r1 == 0) = false := by simpa using h1
      have hn1 : (r1 != 0) = true := by simpa using h1
      have H1 := Lib.hid h1
      clear h1
      go_wp2_with fail
      go_ret
      exact ⟨by simp, Lib.hid (by simpa [H1.out] using hp3.out.mark true)⟩

set_option maxHeartbeats 1000000 in
theorem jnote_c {w0 w : World} {d b cb : Nat} {f : Int} {X : D} {lv : Value} {j : Jn.J} {F : Nat → Prop} (ht : Tab w0) (hg : Good w0) (h : JF' w0 w d b cb f X lv j F) (hf : 0 ≤ f ∧ f ≤ 14) (n m : Int) (hn : Wire.InR n) (hm : Wire.InR m) :
    Calls Tryz.prog 30 #[.pointer (some ⟨b, 0, none⟩), .int .i64 n, .int .i64 m] w fun e w' => e = .returned (.int .i64 (putJ X f j (Wire.eInt n ++ Wire.eInt m)).2.2) ∧ Hid (JP w0 w d b cb f lv F (putJ X f j (Wire.eInt n ++ Wire.eInt m)).1 (putJ X f j (Wire.eInt n ++ Wire.eInt m)).2.1 w') := by
  have qi := fun w1 (hp : JP w0 w d b cb f lv F X j w1) (k : Int) (hk : Wire.InR k) => (wInt_c k hk w1 (hg.on hp.at'.base)).mono (R' := fun e w2 => e = .returned (.string ⟨(Wire.eInt k).toArray⟩) ∧ w2.cell? ⟨b, 2, none⟩ = some (.pointer (some ⟨cb, 0, none⟩)) ∧ Hid (JP w0 w d b cb f lv F X j w2)) (fun e w2 ⟨he, hb⟩ => ⟨he, (hp.below hb).c2, hp.below hb⟩)
  have qs := fun w1 (hp : JP w0 w d b cb f lv F X j w1) => jp_set ht hp hf (Wire.eInt n ++ Wire.eInt m)
  have hl1 : (Wire.eInt n).length ≤ 21 := by
    have h1 := Wire.itoa_len n hn
    unfold Wire.eInt
    simp only [List.length_append, List.length_singleton]
    omega
  have hl2 : (Wire.eInt m).length ≤ 21 := by
    have h1 := Wire.itoa_len m hm
    unfold Wire.eInt
    simp only [List.length_append, List.length_singleton]
    omega
  have hcat : ¬ 9223372036854775807 < (Wire.eInt n).length + (Wire.eInt m).length := by omega
  clear hl1 hl2
  obtain ⟨Y, hY⟩ : ∃ Y, Y = Ck.setM X (f + 1) j.c (Wire.eInt n ++ Wire.eInt m) := ⟨_, rfl⟩
  have hW : putJ X f j (Wire.eInt n ++ Wire.eInt m) = (Y.1, ⟨Y.2.1, j.l, Y.2.2 != 0⟩, Y.2.2) := by unfold putJ; rw [← hY]
  rw [hW]
  rw [← hY] at qs
  clear hW hY
  obtain ⟨Z, c', r⟩ := Y
  dsimp only at qs ⊢
  have QI := Lib.hid qi
  have QS := Lib.hid qs
  have hp := Lib.hid h.jp
  have k2 := hp.out.c2
  have HN := Lib.hid hn
  have HM := Lib.hid hm
  clear qi qs h hn hm
  go_enter Tryz.func30, Tryz.ntmps30
  go_upto_region 1 with fail
  go_cut [7] (fun t7 wx => t7 = .int .i64 r ∧ Hid (JP w0 w d b cb f lv F Z ⟨c', j.l, j.bad⟩ wx))
  case first =>
    go_region_law (first
      | (go_simp; go_at_call 49; refine (QI.out _ hp.out.drew n HN.out).mono ?_; rintro e w3 ⟨rfl, k3, hp3⟩)
      | (go_simp; go_at_call 49; refine (QI.out _ hp3.out m HM.out).mono ?_; rintro e w4 ⟨rfl, k4, hp4⟩)
      | (go_simp; go_at_call 48; rw [str_add]; refine (QS.out _ hp4.out).mono ?_; rintro e w5 ⟨rfl, hp5⟩))
    all_goals
      go_wp2_with fail
      go_meet
      exact ⟨rfl, hp5⟩
  case rest =>
    obtain ⟨rfl, hp3⟩ := hcut
    have i5 := hp3.out.c5
    have z5 := hp3.out.z 5
    obtain ⟨x2, hx2⟩ : ∃ x2 : Bool, (r != 0) = x2 := ⟨_, rfl⟩
    go_wp2_with fail
    go_ret
    exact ⟨rfl, Lib.hid (by simpa [hx2] using hp3.out.mark x2)⟩
end Go.Proofs.YtljgfnglknpfaaaGreatDoor
