/-
  The reference's disk: Write, Sync, Truncate.
-/
import Derived.Test.YtninopllfbiccaaDoorDGi
namespace Go.Proofs.YtninopllfbiccaaDoor
set_option maxRecDepth 100000
open Go Go.RowKit Go.Maps Dk

def writeR (X : R) (f a : Int) (s : List UInt8) : R × Int :=
  if mayM (comesR X f a s).down f ≠ 0 then (comesR X f a s, mayM (comesR X f a s).down f) else if a < 0 then (comesR X f a s, 1) else if fitsM a s then (addR (comesR X f a s) f.toNat a.toNat s, 0) else (comesR X f a s, 6)
def syncR (X : R) (f : Int) : R × Int :=
  if mayM (comesR X 0 0 []).down f ≠ 0 then (comesR X 0 0 [], mayM (comesR X 0 0 []).down f) else if 0 < (comesR X 0 0 []).lost then ({ comesR X 0 0 [] with lost := (comesR X 0 0 []).lost - 1 }, 10) else (settleR (comesR X 0 0 []) f (getR (comesR X 0 0 []).fs f).now, 0)
def truncR (X : R) (f z : Int) : R × Int :=
  if mayM (comesR X 0 0 []).down f ≠ 0 then (comesR X 0 0 [], mayM (comesR X 0 0 []).down f) else if z < 0 ∨ ((getR (comesR X 0 0 []).fs f).now.length : Int) < z then (comesR X 0 0 [], 1) else (settleR (comesR X 0 0 []) f ((getR (comesR X 0 0 []).fs f).now.take z.toNat), 0)

/-- A step in hand: the disk behind it, and how a further step goes on. -/
theorem RStep.open {w w1 : World} {r : Nat} {fv qv kv : Value} {Y : R} (h : RStep w w1 r fv qv kv Y) : ∃ fv1 qv1, RAt w1 r fv1 qv1 kv Y ∧ ∀ w2 Z, RStep w1 w2 r fv1 qv1 kv Z → RStep w w2 r fv qv kv Z := by
  obtain ⟨fv1, qv1, a0, a1, a2, ak⟩ := h
  exact ⟨fv1, qv1, a0, fun w2 Z h2 => RStep.trans a0 a1 a2 ak h2⟩
theorem comes_open (r : Nat) (fv qv kv : Value) (X : R) (hX : X.Ok) (f a : Int) (s : List UInt8) (g : Int) (hf : In64 f) (ha : In64 a) (hs : s.length ≤ 1000000) (hA : ok f = true → fitsM a s = true → (addR (lessR X) f.toNat a.toNat s).Ok) (w : World) (h : RAt w r fv qv kv X) :
    Calls Tryd.prog 52 #[.pointer (some ⟨r, 0, none⟩), .int .i64 f, .int .i64 a, .string ⟨s.toArray⟩] w fun e w1 => e = .returned (.tuple #[]) ∧ ∃ fv1 qv1, Hid (RAt w1 r fv1 qv1 kv (comesR X f a s)) ∧ Hid (∀ w2 Z, RStep w1 w2 r fv1 qv1 kv Z → RStep w w2 r fv qv kv Z) ∧
      Hid (Calls Tryd.prog 48 #[.pointer (some ⟨r, 0, none⟩), .int .i64 g] w1 fun e w' => e = .returned (.int .i64 (mayM (comesR X f a s).down g)) ∧ w' = w1) := by
  refine (rcomes_c r fv qv kv X hX f a s hf ha hs hA w h).mono ?_
  rintro e w1 ⟨rfl, hst⟩
  obtain ⟨fv1, qv1, b0, b1⟩ := hst.open
  exact ⟨rfl, fv1, qv1, Lib.hid b0, Lib.hid b1, Lib.hid (rmay_c r fv1 qv1 kv _ g w1 b0)⟩
theorem mayM_zero {d : Bool} {f : Int} (h : ¬ mayM d f ≠ 0) : d = false ∧ ok f = true := by
  unfold mayM at h
  cases d with
  | true => exact absurd (by simp) h
  | false =>
    cases ho : ok f with
    | true => exact ⟨rfl, rfl⟩
    | false => rw [ho] at h; exact absurd (by simp) h

set_option maxHeartbeats 4000000 in
set_option maxRecDepth 100000 in
theorem rwrite_c (r : Nat) (fv qv kv : Value) (X : R) (hX : X.Ok) (f a : Int) (s : List UInt8) (hf : In64 f) (ha : In64 a) (hs : s.length ≤ 1000000) (hA : ok f = true → fitsM a s = true → (addR (lessR X) f.toNat a.toNat s).Ok) (hC : (comesR X f a s).Ok) (w : World) (h : RAt w r fv qv kv X) :
    Calls Tryd.prog 32 #[.pointer (some ⟨r, 0, none⟩), .int .i64 f, .int .i64 a, .string ⟨s.toArray⟩] w fun e w' => e = .returned (.int .i64 (writeR X f a s).2) ∧ RStep w w' r fv qv kv (writeR X f a s).1 := by
  have Q1 := Lib.hid (comes_open r fv qv kv X hX f a s f hf ha hs hA w h)
  unfold writeR
  obtain ⟨Y, hY⟩ : ∃ Y, Y = comesR X f a s := ⟨_, rfl⟩
  rw [← hY] at Q1 hC ⊢
  have FI := Lib.hid (fun wx => rfits_c a s hs wx)
  obtain ⟨m, hm⟩ : ∃ m, m = mayM Y.down f := ⟨_, rfl⟩
  have hmz : mayM Y.down f = m := hm.symm
  clear h hA hY
  by_cases hmn : mayM Y.down f ≠ 0
  · rw [if_pos hmn, hmz]
    rw [hmz] at hmn
    clear hm
    go_enter Tryd.func32, Tryd.ntmps32
    go_wp2_with (first | (go_at_call 52; refine Q1.out.mono ?_; rintro e w1 ⟨rfl, fv1, qv1, HR, HT, HM⟩) | (go_at_call 48; refine HM.out.mono ?_; rintro e wm ⟨rfl, hwm⟩; rw [hwm, hmz]; clear hwm))
    go_ret
    exact ⟨rfl, HT.out _ _ (RStep.below HR.out (Below.refl _ _))⟩
  · rw [if_neg hmn]
    obtain ⟨hd, hok⟩ := mayM_zero hmn
    have hm0 : m = 0 := by rw [hm]; exact Classical.byContradiction hmn
    subst hm0
    unfold ok at hok
    rw [decide_eq_true_eq] at hok
    clear hm hmn
    by_cases ha0 : a < 0
    · rw [if_pos ha0]
      go_enter Tryd.func32, Tryd.ntmps32
      go_wp2_with (first | (go_at_call 52; refine Q1.out.mono ?_; rintro e w1 ⟨rfl, fv1, qv1, HR, HT, HM⟩) | (go_at_call 48; refine HM.out.mono ?_; rintro e wm ⟨rfl, hwm⟩; rw [hwm, hmz]; clear hwm))
      go_ret
      exact ⟨rfl, HT.out _ _ (RStep.below HR.out (Below.refl _ _))⟩
    · rw [if_neg ha0]
      cases hfi : fitsM a s with
      | false =>
        have FI := Lib.hid (fun wx => by have := FI.out wx; rw [hfi] at this; exact this)
        rw [if_neg (by simp)]
        go_enter Tryd.func32, Tryd.ntmps32
        go_wp2_with (first | (go_at_call 52; refine Q1.out.mono ?_; rintro e w1 ⟨rfl, fv1, qv1, HR, HT, HM⟩) | (go_at_call 48; refine HM.out.mono ?_; rintro e wm ⟨rfl, hwm⟩; rw [hwm, hmz]; clear hwm) | (go_at_call 53; refine (FI.out _).mono ?_; rintro e w2 ⟨rfl, h2⟩; rw [h2]; clear h2))
        go_ret
        exact ⟨rfl, HT.out _ _ (RStep.below HR.out (Below.refl _ _))⟩
      | true =>
        have FI := Lib.hid (fun wx => by have := FI.out wx; rw [hfi] at this; exact this)
        rw [if_pos rfl]
        unfold fitsM at hfi
        rw [Bool.and_eq_true, decide_eq_true_eq, decide_eq_true_eq] at hfi
        obtain ⟨i, rfl⟩ := Int.eq_ofNat_of_zero_le hok.1
        obtain ⟨n, rfl⟩ := Int.eq_ofNat_of_zero_le hfi.1
        simp only [Int.toNat_natCast]
        have AD := Lib.hid (fun fv1 qv1 w1 (hr : RAt w1 r fv1 qv1 kv Y) => radd_c r fv1 qv1 kv Y hC i n (by omega) s (by omega) w1 hr)
        clear hfi
        go_enter Tryd.func32, Tryd.ntmps32
        go_wp2_with (first | (go_at_call 52; refine Q1.out.mono ?_; rintro e w1 ⟨rfl, fv1, qv1, HR, HT, HM⟩) | (go_at_call 48; refine HM.out.mono ?_; rintro e wm ⟨rfl, hwm⟩; rw [hwm, hmz]; clear hwm) | (go_at_call 53; refine (FI.out _).mono ?_; rintro e w2 ⟨rfl, h2⟩; rw [h2]; clear h2) | (go_at_call 54; refine (AD.out _ _ _ HR.out).mono ?_; rintro e w3 ⟨rfl, hs3⟩))
        go_ret
        exact ⟨rfl, HT.out _ _ hs3⟩

set_option maxHeartbeats 4000000 in
set_option maxRecDepth 100000 in
theorem rsync_c (r : Nat) (fv qv kv : Value) (X : R) (hX : X.Ok) (f : Int) (_ : In64 f) (hA : (addR (lessR X) 0 0 []).Ok) (hC : (comesR X 0 0 []).Ok) (w : World) (h : RAt w r fv qv kv X) :
    Calls Tryd.prog 42 #[.pointer (some ⟨r, 0, none⟩), .int .i64 f] w fun e w' => e = .returned (.int .i64 (syncR X f).2) ∧ RStep w w' r fv qv kv (syncR X f).1 := by
  have Q1 := Lib.hid (comes_open r fv qv kv X hX 0 0 [] f (by unfold In64; omega) (by unfold In64; omega) (by simp) (fun _ _ => hA) w h)
  unfold syncR
  obtain ⟨Y, hY⟩ : ∃ Y, Y = comesR X 0 0 [] := ⟨_, rfl⟩
  rw [← hY] at Q1 hC ⊢
  obtain ⟨m, hm⟩ : ∃ m, m = mayM Y.down f := ⟨_, rfl⟩
  have hmz : mayM Y.down f = m := hm.symm
  clear h hA hY
  by_cases hmn : mayM Y.down f ≠ 0
  · rw [if_pos hmn, hmz]
    rw [hmz] at hmn
    clear hm
    go_enter Tryd.func42, Tryd.ntmps42
    go_wp2_with (first | (go_at_call 52; refine Q1.out.mono ?_; rintro e w1 ⟨rfl, fv1, qv1, HR, HT, HM⟩) | (go_at_call 48; refine HM.out.mono ?_; rintro e wm ⟨rfl, hwm⟩; rw [hwm, hmz]; clear hwm))
    go_ret
    exact ⟨rfl, HT.out _ _ (RStep.below HR.out (Below.refl _ _))⟩
  · rw [if_neg hmn]
    have hm0 : m = 0 := by rw [hm]; exact Classical.byContradiction hmn
    subst hm0
    clear hm hmn
    obtain ⟨L, hL⟩ : ∃ L, L = Y.lost := ⟨_, rfl⟩
    have hLb : (L : Int) ≤ 9223372036854775807 := by rw [hL]; exact hC.lost
    rw [← hL]
    by_cases hl : 0 < L
    · rw [if_pos hl]
      have hl' : (0 : Int) < (L : Int) := by omega
      obtain ⟨M, hM⟩ : ∃ M, M = L - 1 := ⟨_, rfl⟩
      have hM1 : (L : Int) - 1 = (M : Int) := by omega
      rw [← hM]
      have HLE := Lib.hid hL
      clear hL hM
      go_enter Tryd.func42, Tryd.ntmps42
      go_wp2_with (first | (go_at_call 52; refine Q1.out.mono ?_; rintro e w1 ⟨rfl, fv1, qv1, HR, HT, HM⟩) | (go_at_call 48; refine HM.out.mono ?_; rintro e wm ⟨rfl, hwm⟩; rw [hwm, hmz]; clear hwm; have j2 := HR.out.c2; have z2 := HR.out.z 2; rw [← HLE.out] at j2))
      go_ret
      have hk := Kept.set r 2 w1 (.int .i64 (M : Int))
      exact ⟨rfl, HT.out _ _ (RStep.mk (HR.out.recell hk M Y.left Y.down (cells6_set HR.out.cell 2 (.int .i64 (M : Int)) (by omega))) (fun k e => Or.inl e) (fun k e => Or.inl e) (hk.mono (fun k _ e => Or.inl e)))⟩
    · rw [if_neg hl]
      have hl' : ¬ (0 : Int) < (L : Int) := by omega
      have hfew := hC.few
      obtain ⟨x, hx⟩ : ∃ x, x = getR Y.fs f := ⟨_, rfl⟩
      rw [← hx]
      have GE := Lib.hid (fun fv1 qv1 w1 (hr : RAt w1 r fv1 qv1 kv Y) => show Calls Tryd.prog 49 #[.pointer (some ⟨r, 0, none⟩), .int .i64 f] w1 fun e w2 => e = .returned (.agg #[.int .i64 x.num, .string ⟨x.now.toArray⟩, .string ⟨x.dur.toArray⟩]) ∧ Below w1.heap.size w1 w2 from by
        have := rget_c r fv1 qv1 kv Y f w1 hr (by omega)
        rw [← hx] at this
        exact this)
      have SE := Lib.hid (fun fv1 qv1 w1 (hr : RAt w1 r fv1 qv1 kv Y) => rsettle_c r fv1 qv1 kv Y hC f x.now w1 hr)
      have hfd := rf_now
      have HLE := Lib.hid hL
      clear hL hx hfew
      go_enter Tryd.func42, Tryd.ntmps42
      go_wp2_with (first | (go_at_call 52; refine Q1.out.mono ?_; rintro e w1 ⟨rfl, fv1, qv1, HR, HT, HM⟩) | (go_at_call 48; refine HM.out.mono ?_; rintro e wm ⟨rfl, hwm⟩; rw [hwm, hmz]; clear hwm; have j2 := HR.out.c2; rw [← HLE.out] at j2) | (go_at_call 49; refine (GE.out _ _ _ HR.out).mono ?_; rintro e w2 ⟨rfl, hb2⟩) | (go_at_call 56; refine (SE.out _ _ _ (HR.out.on hb2)).mono ?_; rintro e w3 ⟨rfl, hs3⟩))
      go_ret
      exact ⟨rfl, HT.out _ _ (RStep.trans (HR.out.on hb2) (fun k e => Or.inl e) (fun k e => Or.inl e) (Kept.below hb2) hs3)⟩

/-- A new disk of the reference. -/
theorem rnew_c (w : World) : Calls Tryd.prog 11 #[] w fun e w' => ∃ r, e = .returned (.pointer (some ⟨r, 0, none⟩)) ∧ w.heap.size ≤ r ∧ RAt w' r (.slice none 0 0) (.slice none 0 0) (.slice none 0 0) ⟨[], [], 0, false, 0, []⟩ ∧ Below w.heap.size w w' := by
  obtain ⟨W1, hW1⟩ : ∃ W1, W1 = w.alloc (.cells #[.slice none 0 0, .slice none 0 0, .int .i64 0, .bool false, .int .i64 0, .slice none 0 0] 66) := ⟨_, rfl⟩
  have hb : Below w.heap.size w W1 := by rw [hW1]; exact (Below.refl _ _).alloc (Nat.le_refl _) _
  have hc : W1.heap[w.heap.size]? = some (.cells #[.slice none 0 0, .slice none 0 0, .int .i64 0, .bool false, .int .i64 0, .slice none 0 0] 66 (0, 0)) := by rw [hW1]; exact heap_alloc_new w _
  have H : RAt W1 w.heap.size (.slice none 0 0) (.slice none 0 0) (.slice none 0 0) ⟨[], [], 0, false, 0, []⟩ :=
    { cell := hc, files := World.ownsRow_nil _ _ _ _, queue := World.ownsRow_nil _ _ _ _, keep := World.ownsRow_nil _ _ _ _
      nf := fun e => by cases e
      nq := fun e => by cases e
      nk := fun e => by cases e
      fq := fun _ e => by cases e
      fk := fun _ e => by cases e
      qk := fun _ e => by cases e }
  go_enter Tryd.func11, Tryd.ntmps11
  go_wp2_with fail
  go_ret
  rw [← hW1]
  exact ⟨_, rfl, Nat.le_refl _, H, hb⟩
end Go.Proofs.YtninopllfbiccaaDoor
