/-
  The reference of layer 3: Read and ReadRow: each returns what chapter 3 says; of what was there nothing has turned.
-/
import Derived.Test.YthibikdnoogfoaaGreatDoorVRefB
import Derived.Test.YthibikdnoogfoaaGreatDoorVRead
import Derived.Test.YthibikdnoogfoaaGreatDoorRefReadC
namespace Go.Proofs.YthibikdnoogfoaaGreatDoor
open Go Go.RowKit Go.Sort Wire Txt Vl

theorem Qd.only {w w' : World} {b c : Nat} {r : List UInt8} {f : Bool} (h : Qd w b r f) (ho : Only c w w') (hne : b ≠ c) : Qd w' b r f := (ho.block b h.lt (by intro e; injection e with e; exact hne e)).trans h
theorem Box.put0 {w : World} {b : Nat} {k n : Int} {s : List UInt8} (h : Box w b ⟨k, n, s⟩) (k' : Int) : ∃ w', w.setCell ⟨b, 0, none⟩ (.int .i64 k') = w' ∧ Box w' b ⟨k', n, s⟩ ∧ Only b w w' := by
  refine ⟨_, rfl, ?_, Only.set b 0 w _⟩
  unfold Box at *
  simp [World.setCell, Array.getElem?_modify, h]
theorem Box.put1 {w : World} {b : Nat} {k n : Int} {s : List UInt8} (h : Box w b ⟨k, n, s⟩) (n' : Int) : ∃ w', w.setCell ⟨b, 1, none⟩ (.int .i64 n') = w' ∧ Box w' b ⟨k, n', s⟩ ∧ Only b w w' := by
  refine ⟨_, rfl, ?_, Only.set b 1 w _⟩
  unfold Box at *
  simp [World.setCell, Array.getElem?_modify, h]
theorem Box.put2 {w : World} {b : Nat} {k n : Int} {s : List UInt8} (h : Box w b ⟨k, n, s⟩) (s' : List UInt8) : ∃ w', w.setCell ⟨b, 2, none⟩ (.string ⟨s'.toArray⟩) = w' ∧ Box w' b ⟨k, n, s'⟩ ∧ Only b w w' := by
  refine ⟨_, rfl, ?_, Only.set b 2 w _⟩
  unfold Box at *
  simp [World.setCell, Array.getElem?_modify, h]
def IntPostQ (b : Nat) (r : List UInt8) (f : Bool) (w : World) (e : Ending) (w' : World) : Prop :=
  ∃ (n : Int) (r' : List UInt8) (f' : Bool), e = .returned (.int .i64 n) ∧ Qd w' b r' f' ∧ Only b w w' ∧ ((rInt 59 r = some (n, r') ∧ f' = f) ∨ (rInt 59 r = none ∧ r' = [] ∧ f' = true))
theorem intQ_c (b : Nat) (r : List UInt8) (f : Bool) (hlen : r.length < 4294967281) (w : World) (h : Qd w b r f) :
    Calls Tryz.prog 59 #[.pointer (some ⟨b, 0, none⟩)] w (IntPostQ b r f w) := by
  cases hr : rInt 59 r with
  | some p =>
    obtain ⟨n, r'⟩ := p
    exact (qIntM_ok b r f n r' hr hlen w h).mono fun e w' ⟨he, h1, h2⟩ => ⟨n, r', f, he, h1, h2, Or.inl ⟨hr, rfl⟩⟩
  | none => exact (qIntM_no b r f hr hlen w h).mono fun e w' ⟨he, h1, h2⟩ => ⟨0, [], true, he, h1, h2, Or.inr ⟨hr, rfl, rfl⟩⟩
def TextPostQ (b : Nat) (r : List UInt8) (f : Bool) (w : World) (e : Ending) (w' : World) : Prop :=
  ∃ (s r' : List UInt8) (f' : Bool), e = .returned (.string ⟨s.toArray⟩) ∧ Qd w' b r' f' ∧ Only b w w' ∧ ((rText r = some (s, r') ∧ f' = f) ∨ (rText r = none ∧ r' = [] ∧ f' = true))
theorem textQ_c (b : Nat) (r : List UInt8) (f : Bool) (hf : f = true → r = []) (hlen : r.length < 4294967281) (w : World) (h : Qd w b r f) :
    Calls Tryz.prog 60 #[.pointer (some ⟨b, 0, none⟩)] w (TextPostQ b r f w) := by
  cases hr : rText r with
  | some p =>
    obtain ⟨t, r'⟩ := p
    have hff : f = false := by
      cases f with
      | false => rfl
      | true => rw [hf rfl, rText_nil] at hr; cases hr
    subst hff
    exact (qTextM_ok b r t r' hr hlen w h).mono fun e w' ⟨he, h1, h2⟩ => ⟨t, r', false, he, h1, h2, Or.inl ⟨hr, rfl⟩⟩
  | none => exact (qTextM_no b r f hf hr hlen w h).mono fun e w' ⟨he, h1, h2⟩ => ⟨[], [], true, he, h1, h2, Or.inr ⟨hr, rfl, rfl⟩⟩
theorem int_dead {r r' : List UInt8} {f f' : Bool} {n : Int} (hf : f = true → r = []) (h : (rInt 59 r = some (n, r') ∧ f' = f) ∨ (rInt 59 r = none ∧ r' = [] ∧ f' = true)) : f' = true → r' = [] := by
  intro ht
  rcases h with ⟨h, rfl⟩ | ⟨_, h, _⟩
  · rw [hf ht, rInt_nil] at h; cases h
  · exact h
theorem q_ne {B b : Nat} {sv : Value} {l : List V} {w : World} {r : List UInt8} {f : Bool} (h : Own B sv l w) (hr : Qd w b r f) : some b ≠ sv.ownBlock := own_ne h hr (by decide)

set_option maxHeartbeats 1000000 in
set_option maxRecDepth 100000 in
theorem refRead_c (s : List UInt8) (hs : s.length ≤ 10000000) (w : World) : Calls Tryz.prog 25 #[.string ⟨s.toArray⟩] w fun e w' => e = .returned (readP s) ∧ Below w.heap.size w w' := by
  obtain ⟨w1, e1, hx1, hb1⟩ := box_new w ⟨0, 0, []⟩
  simp only at e1
  have hwz : w.heap.size < w1.heap.size := by rw [← e1]; simp
  go_enter Tryz.func25, Tryz.ntmps25
  go_wp2_with fail
  refine (qOpen_c s _).mono ?_
  rintro e w2 ⟨rfl, hr2, hb2⟩
  have hx2 := hx1.on hb2
  have hbb2 := chain hb1 hb2
  have hz2 := hr2.lt
  clear e1
  go_wp2_with fail
  obtain ⟨w3, e3, hy3, hb3⟩ := box_new w2 ⟨0, 0, []⟩
  simp only at e3
  rw [e3]
  clear e3
  have hr3 := hr2.on hb3
  have hx3 := hx2.on hb3
  have hbb3 := chain hbb2 hb3
  refine (intQ_c w1.heap.size s false (by omega) _ hr3).mono ?_
  rintro e w4 ⟨k, r4, f4, rfl, hr4, ho4, hc4⟩
  have hl4 := int_short hc4
  have hd4 := int_dead (by simp) hc4
  have hy4 := hy3.only ho4 (by omega)
  have hx4 := hx3.only ho4 (by omega)
  have hbb4 := hbb3.trans (ho4.below (by omega) hbb3.size)
  have H4 := Lib.hid hc4
  clear hc4 ho4 hr3 hx3 hy3 hbb3 hb3
  have c0 := hy4.c0
  have z0 := hy4.z 0
  go_wp2_with fail
  obtain ⟨w5, e5, hy5, ho5⟩ := hy4.put0 k
  rw [e5]
  clear e5 c0 z0
  have hr5 := hr4.only ho5 (by omega)
  have hx5 := hx4.only ho5 (by omega)
  have hbb5 := hbb4.trans (ho5.below (by omega) hbb4.size)
  clear ho5 hr4 hx4 hy4 hbb4
  refine (intQ_c w1.heap.size r4 f4 (by omega) _ hr5).mono ?_
  rintro e w6 ⟨n, r6, f6, rfl, hr6, ho6, hc6⟩
  have hl6 := int_short hc6
  have hd6 := int_dead hd4 hc6
  have hy6 := hy5.only ho6 (by omega)
  have hx6 := hx5.only ho6 (by omega)
  have hbb6 := hbb5.trans (ho6.below (by omega) hbb5.size)
  have H6 := Lib.hid hc6
  clear hc6 ho6 hr5 hx5 hy5 hbb5
  have c1 := hy6.c1
  have z1 := hy6.z 1
  go_wp2_with fail
  obtain ⟨w7, e7, hy7, ho7⟩ := hy6.put1 n
  rw [e7]
  clear e7 c1 z1
  have hr7 := hr6.only ho7 (by omega)
  have hx7 := hx6.only ho7 (by omega)
  have hbb7 := hbb6.trans (ho7.below (by omega) hbb6.size)
  clear ho7 hr6 hx6 hy6 hbb6
  refine (textQ_c w1.heap.size r6 f6 hd6 (by omega) _ hr7).mono ?_
  rintro e w8 ⟨t, r8, f8, rfl, hr8, ho8, hc8⟩
  have hy8 := hy7.only ho8 (by omega)
  have hx8 := hx7.only ho8 (by omega)
  have hbb8 := hbb7.trans (ho8.below (by omega) hbb7.size)
  have hc := take_case H4.out H6.out hc8
  clear hc8 ho8 hr7 hx7 hy7 hbb7 H4 H6 hd4 hd6
  have c2 := hy8.c2
  have z2 := hy8.z 2
  have HC := Lib.hid hc
  clear hc
  go_wp2_with fail
  obtain ⟨w9, e9, hy9, ho9⟩ := hy8.put2 t
  rw [e9]
  clear e9 c2 z2
  have hr9 := hr8.only ho9 (by omega)
  have hx9 := hx8.only ho9 (by omega)
  have hbb9 := hbb8.trans (ho9.below (by omega) hbb8.size)
  clear ho9 hr8 hx8 hy8 hbb8
  have c0 := hx9.c0
  have c1 := hx9.c1
  have c2 := hx9.c2
  have z0 := hx9.z 0
  have z1 := hx9.z 1
  have z2 := hx9.z 2
  have y0 := hy9.c0
  have y1 := hy9.c1
  have y2 := hy9.c2
  have HS := Lib.hid (show ∀ x y z : Value, Below w.heap.size w (((w9.setCell ⟨w.heap.size, 0, none⟩ x).setCell ⟨w.heap.size, 1, none⟩ y).setCell ⟨w.heap.size, 2, none⟩ z) from fun x y z => ((hbb9.setCell (p := ⟨w.heap.size, 0, none⟩) (Nat.le_refl _) _).setCell (p := ⟨w.heap.size, 1, none⟩) (Nat.le_refl _) _).setCell (p := ⟨w.heap.size, 2, none⟩) (Nat.le_refl _) _)
  rcases HC.out with ⟨r', hv, rfl, rfl⟩ | ⟨hv, rfl, rfl⟩
  · cases r8 with
    | nil =>
      have HR := Lib.hid (show readV s = some ⟨k, n, t⟩ by unfold readV; rw [hv]; rfl)
      clear hv HC
      refine (qDone_c _ _ _ _ hr9).mono ?_
      rintro e w10 ⟨rfl, rfl⟩
      go_wp2_with fail
      (try simp only [Exit.inBlock, Exit.then])
      refine bodyPost_ret (ret_box rfl _ _ w.heap.size ⟨k, n, t⟩ rfl (hx9.set3 k n t)) rfl ?_
      exact ⟨by rw [readP_some HR.out]; rfl, HS.out _ _ _⟩
    | cons x r' =>
      have HR := Lib.hid (show readV s = none by unfold readV; rw [hv]; rfl)
      clear hv HC
      refine (qDone_c _ _ _ _ hr9).mono ?_
      rintro e w10 ⟨rfl, rfl⟩
      go_wp2_with fail
      (try simp only [Exit.inBlock, Exit.then])
      refine bodyPost_ret (ret_box rfl _ _ w.heap.size ⟨0, 0, []⟩ rfl (hx9.set3 0 0 [])) rfl ?_
      exact ⟨by rw [readP_none HR.out]; rfl, HS.out _ _ _⟩
  · have HR := Lib.hid (show readV s = none by unfold readV; rw [hv]; rfl)
    clear hv HC
    refine (qDone_c _ _ _ _ hr9).mono ?_
    rintro e w10 ⟨rfl, rfl⟩
    go_wp2_with fail
    (try simp only [Exit.inBlock, Exit.then])
    refine bodyPost_ret (ret_box rfl _ _ w.heap.size ⟨0, 0, []⟩ rfl (hx9.set3 0 0 [])) rfl ?_
    exact ⟨by rw [readP_none HR.out]; rfl, HS.out _ _ _⟩
end Go.Proofs.YthibikdnoogfoaaGreatDoor
