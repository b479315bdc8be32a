/-
  The reference's disk: Down, Size, may, fits, pending, Read, Start, Lose.
-/
import Derived.Test.YthibikdnoogfoaaDGa
namespace Go.Proofs.Ythibikdnoogfoaa
open Go Go.RowKit Go.Maps Dk

theorem rf_now (a b c : Value) (w : World) : (Instr.field 69 (.agg #[a, b, c]) 1).run Try.prog w = .ok b w := by kernel_rfl
theorem rdown_c (r : Nat) (fv qv kv : Value) (X : R) (w : World) (h : RAt w r fv qv kv X) : Calls Try.prog 15 #[.pointer (some ⟨r, 0, none⟩)] w fun e w' => e = .returned (.bool X.down) ∧ w' = w := by
  have c3 := h.c3
  clear h
  go_enter Try.func15, Try.ntmps15
  go_wp2_with fail
  go_ret
  exact ⟨rfl, rfl⟩
theorem rsize_c (r : Nat) (fv qv kv : Value) (X : R) (f : Int) (w : World) (h : RAt w r fv qv kv X) (hl : X.fs.length ≤ 9223372036854775807) :
    Calls Try.prog 17 #[.pointer (some ⟨r, 0, none⟩), .int .i64 f] w fun e w' => e = .returned (.int .i64 ((getR X.fs f).now.length : Int)) ∧ Below w.heap.size w w' := by
  have q := rget_c r fv qv kv X f w h hl
  obtain ⟨x, hx⟩ : ∃ x, x = getR X.fs f := ⟨_, rfl⟩
  rw [← hx] at q ⊢
  unfold rfV at q
  have Q := Lib.hid q
  have hfd := rf_now
  clear h q hx
  go_enter Try.func17, Try.ntmps17
  go_wp2_with (go_at_call 40; refine Q.out.mono ?_; rintro e w2 ⟨rfl, hb⟩)
  go_ret
  exact ⟨rfl, hb⟩
def mayM (down : Bool) (f : Int) : Int := if down then 9 else if ok f then 0 else 1
theorem rmay_c (r : Nat) (fv qv kv : Value) (X : R) (f : Int) (w : World) (h : RAt w r fv qv kv X) : Calls Try.prog 48 #[.pointer (some ⟨r, 0, none⟩), .int .i64 f] w fun e w' => e = .returned (.int .i64 (mayM X.down f)) ∧ w' = w := by
  have c3 := h.c3
  clear h
  go_enter Try.func48, Try.ntmps48
  unfold mayM ok
  cases hd : X.down with
  | true =>
    rw [hd] at c3
    go_wp2_with fail
    go_ret
    first | exact ⟨rfl, rfl⟩ | simp
  | false =>
    rw [hd] at c3
    by_cases h0 : f < 0
    · have e : decide (0 ≤ f ∧ f < 16) = false := by simp; omega
      rw [e]
      clear e
      go_wp2_with fail
      go_ret
      first | exact ⟨rfl, rfl⟩ | simp
    · by_cases h15 : 15 < f
      · have e : decide (0 ≤ f ∧ f < 16) = false := by simp; omega
        rw [e]
        clear e
        go_wp2_with fail
        go_ret
        first | exact ⟨rfl, rfl⟩ | simp
      · have e : decide (0 ≤ f ∧ f < 16) = true := by simp; omega
        rw [e]
        clear e
        go_wp2_with fail
        go_ret
        first | exact ⟨rfl, rfl⟩ | simp
def fitsM (a : Int) (s : List UInt8) : Bool := decide (0 ≤ a) && decide (a + s.length ≤ 16777216)
theorem rfits_c (a : Int) (s : List UInt8) (hs : s.length ≤ 1000000) (w : World) : Calls Try.prog 56 #[.int .i64 a, .string ⟨s.toArray⟩] w fun e w' => e = .returned (.bool (fitsM a s)) ∧ w' = w := by
  go_enter Try.func56, Try.ntmps56
  by_cases h0 : 0 ≤ a
  · by_cases h1 : a ≤ 16777216
    · have e : fitsM a s = decide (a + (s.length : Int) ≤ 16777216) := by unfold fitsM; rw [decide_eq_true h0, Bool.true_and]
      rw [e]
      clear e
      go_wp2_with fail
      go_ret
      first | exact ⟨rfl, rfl⟩ | simp
    · have e : fitsM a s = false := by unfold fitsM; rw [decide_eq_true h0, Bool.true_and]; simp; omega
      rw [e]
      clear e
      go_wp2_with fail
      go_ret
      first | exact ⟨rfl, rfl⟩ | simp
  · have e : fitsM a s = false := by unfold fitsM; rw [decide_eq_false h0]; rfl
    rw [e]
    clear e
    go_wp2_with fail
    go_ret
    first | exact ⟨rfl, rfl⟩ | simp

def pendR (q : List (Nat × Nat)) (f n : Int) : Bool := q.any fun p => (p.1 : Int) == f && (p.2 : Int) == n
set_option maxHeartbeats 1000000 in
set_option maxRecDepth 100000 in
theorem rpending_c (r : Nat) (fv qv kv : Value) (X : R) (f n : Int) (w : World) (h : RAt w r fv qv kv X) (hl : X.q.length ≤ 9223372036854775807) :
    Calls Try.prog 68 #[.pointer (some ⟨r, 0, none⟩), .int .i64 f, .int .i64 n] w fun e w' => e = .returned (.bool (pendR X.q f n)) ∧ w' = w := by
  obtain ⟨qa, qc, rfl, _⟩ := own_shape h.queue
  obtain ⟨L, hL⟩ : ∃ L, L = X.q.length := ⟨_, rfl⟩
  have hfl := h.queue
  rw [← hL] at h hl hfl
  have c1 := h.c1
  have HL := Lib.hid hL
  have HF := Lib.hid hfl
  clear h hfl hL
  go_enter Try.func68, Try.ntmps68
  go_wp2_with fail
  go_loopw [7] (fun v7 wr => ∃ k : Nat, k ≤ L ∧ v7 = .int .i64 (k : Int) ∧ Hid (pendR (X.q.take k) f n = false) ∧ wr = w) (fun v7 _ => L - (intOf v7).toNat)
  case atStart => exact ⟨0, Nat.zero_le _, rfl, Lib.hid rfl, rfl⟩
  case round =>
    obtain ⟨k, hk, rfl, HN, hwr⟩ := hrel
    rw [hwr]
    clear hwr
    by_cases hkl : k < L
    · have hkl' : (k : Int) < (L : Int) := by omega
      obtain ⟨p, hp⟩ : ∃ p, X.q[k]? = some p := ⟨X.q[k]'(by have := HL.out; omega), List.getElem?_eq_getElem _⟩
      obtain ⟨g, rfl, _, d0, d1⟩ := secs_cells (by rw [← HL.out]; exact HF.out) hp
      have HP := Lib.hid hp
      clear hp
      have hnext : ∀ b : Bool, ((p.1 : Int) == f && (p.2 : Int) == n) = b → Hid (pendR (X.q.take (k + 1)) f n = b) := fun b hb => Lib.hid (by
        have h0 := HN.out
        unfold pendR at h0 ⊢
        rw [List.take_add_one, HP.out, List.any_append, h0]
        simp [hb])
      by_cases h1 : (p.1 : Int) = f
      · by_cases h2 : (p.2 : Int) = n
        · have HE := Lib.hid (show pendR X.q f n = true from by
            unfold pendR
            rw [List.any_eq_true]
            exact ⟨p, List.mem_of_getElem? HP.out, by simp [h1, h2]⟩)
          clear hnext
          go_wp2_with fail
          go_ret
          rw [HE.out]
          exact ⟨rfl, rfl⟩
        · have HE := hnext false (by simp [h2])
          clear hnext
          go_wp2_with fail
          go_roundw
          case rel => exact ⟨k + 1, hkl, by go_num, HE, by first | rfl | trivial⟩
          case measure => simp [intOf]; omega
      · have HE := hnext false (by simp [h1])
        clear hnext
        go_wp2_with fail
        go_roundw
        case rel => exact ⟨k + 1, hkl, by go_num, HE, by first | rfl | trivial⟩
        case measure => simp [intOf]; omega
    · have hkl' : ¬ (k : Int) < (L : Int) := by omega
      have HE := Lib.hid (show pendR X.q f n = false from by
        have := HN.out
        rw [List.take_of_length_le (by have := HL.out; omega)] at this
        exact this)
      go_wp2_with fail
      go_ret
      rw [HE.out]
      exact ⟨rfl, rfl⟩

/-- What Read returns. -/
def readR (X : R) (f a n : Int) : List UInt8 × Int := if X.down then ([], 9) else if ok f && decide (0 ≤ a) && decide (0 ≤ n) then (((getR X.fs f).now.drop a.toNat).take n.toNat, 0) else ([], 1)
set_option maxHeartbeats 1000000 in
set_option maxRecDepth 100000 in
theorem rread_c (r : Nat) (fv qv kv : Value) (X : R) (hX : X.Ok) (f a n : Int) (hn : n ≤ 9223372036854775807) (w : World) (h : RAt w r fv qv kv X) :
    Calls Try.prog 21 #[.pointer (some ⟨r, 0, none⟩), .int .i64 f, .int .i64 a, .int .i64 n] w
      fun e w' => e = .returned (.tuple #[.string ⟨(readR X f a n).1.toArray⟩, .int .i64 (readR X f a n).2]) ∧ Below w.heap.size w w' := by
  have hfew := hX.few
  have q := rget_c r fv qv kv X f w h (by omega)
  have hsm := (getR_small hX f).1
  obtain ⟨x, hx⟩ : ∃ x, x = getR X.fs f := ⟨_, rfl⟩
  unfold readR
  rw [← hx] at q hsm ⊢
  unfold rfV at q
  have Q := Lib.hid q
  have M := Lib.hid (rmay_c r fv qv kv X f w h)
  obtain ⟨nm, N, dr⟩ := x
  have hfd := rf_now
  have hsm : N.length ≤ 16777216 := hsm
  clear h q hx hfew hX
  have key : ∀ m : Int, M = M → True := fun _ _ => trivial
  clear key
  unfold mayM at M
  cases hd : X.down with
  | true =>
    rw [hd] at M
    have M := Lib.hid M.out
    go_enter Try.func21, Try.ntmps21
    go_wp2_with (go_at_call 48; refine M.out.mono ?_; rintro e w1 ⟨rfl, h1⟩; rw [h1]; clear h1)
    go_ret2
    exact ⟨rfl, Below.refl _ _⟩
  | false =>
    rw [hd] at M
    cases hok : ok f with
    | false =>
      rw [hok] at M
      go_enter Try.func21, Try.ntmps21
      go_wp2_with (go_at_call 48; refine M.out.mono ?_; rintro e w1 ⟨rfl, h1⟩; rw [h1]; clear h1)
      go_ret2
      exact ⟨rfl, Below.refl _ _⟩
    | true =>
      rw [hok] at M
      by_cases ha : a < 0
      · have e : decide (0 ≤ a) = false := decide_eq_false (by omega)
        rw [e]
        clear e
        go_enter Try.func21, Try.ntmps21
        go_wp2_with (go_at_call 48; refine M.out.mono ?_; rintro e w1 ⟨rfl, h1⟩; rw [h1]; clear h1)
        go_ret2
        exact ⟨rfl, Below.refl _ _⟩
      · by_cases hn0 : n < 0
        · have e : decide (0 ≤ n) = false := decide_eq_false (by omega)
          rw [e]
          clear e
          have e2 : decide (0 ≤ a) = true := decide_eq_true (by omega)
          rw [e2]
          clear e2
          go_enter Try.func21, Try.ntmps21
          go_wp2_with (go_at_call 48; refine M.out.mono ?_; rintro e w1 ⟨rfl, h1⟩; rw [h1]; clear h1)
          go_ret2
          exact ⟨rfl, Below.refl _ _⟩
        · have e : decide (0 ≤ n) = true := decide_eq_true (by omega)
          have e2 : decide (0 ≤ a) = true := decide_eq_true (by omega)
          rw [e, e2]
          clear e e2
          obtain ⟨a, rfl⟩ := Int.eq_ofNat_of_zero_le (show 0 ≤ a by omega)
          obtain ⟨n, rfl⟩ := Int.eq_ofNat_of_zero_le (show 0 ≤ n by omega)
          simp only [Int.toNat_natCast]
          by_cases hl : N.length ≤ a
          · have hl' : (N.length : Int) ≤ (a : Int) := by omega
            have he : (N.drop a).take n = [] := by rw [List.drop_of_length_le hl]; simp
            have HE := Lib.hid he
            clear he
            go_enter Try.func21, Try.ntmps21
            go_wp2_with (first | (go_at_call 48; refine M.out.mono ?_; rintro e w1 ⟨rfl, h1⟩; rw [h1]; clear h1) | (go_at_call 40; refine Q.out.mono ?_; rintro e w2 ⟨rfl, hb⟩))
            go_ret2
            refine ⟨?_, hb⟩
            rw [HE.out]
            rfl
          · have hl' : ¬ (N.length : Int) ≤ (a : Int) := by omega
            obtain ⟨m, hm⟩ : ∃ m, m = min n (N.length - a) := ⟨_, rfl⟩
            obtain ⟨en, hen⟩ : ∃ en, en = a + m := ⟨_, rfl⟩
            have hsl := slice_str N a en (by omega) (by omega)
            have hm2 : (if (N.length : Int) - (a : Int) < (n : Int) then (N.length : Int) - (a : Int) else (n : Int)) = (m : Int) := by split <;> omega
            have hm3 : (a : Int) + (m : Int) = (en : Int) := by omega
            have hme : m ≤ 16777216 := by omega
            have hene : en ≤ 16777216 := by omega
            have he : (N.take en).drop a = (N.drop a).take n := by
              rw [hen, mid_eq N a n a m (by omega) hm]
            have HE := Lib.hid he
            clear he hm hen
            go_enter Try.func21, Try.ntmps21
            go_wp2_with (first | (go_at_call 48; refine M.out.mono ?_; rintro e w1 ⟨rfl, h1⟩; rw [h1]; clear h1) | (go_at_call 40; refine Q.out.mono ?_; rintro e w2 ⟨rfl, hb⟩))
            go_ret2
            refine ⟨?_, hb⟩
            rw [HE.out]
            rfl

/-- The reference's disk, in blocks of S alone. -/
def RIn (w : World) (r : Nat) (S : Nat → Prop) (X : R) : Prop := ∃ fv qv kv, RAt w r fv qv kv X ∧ ∀ k, InR r fv qv kv k → S k
theorem RIn.kept {w w' : World} {S T : Nat → Prop} {r : Nat} {X : R} (h : RIn w r S X) (hk : Kept T w w') (hn : ∀ k, S k → ¬ T k) : RIn w' r S X := by
  obtain ⟨fv, qv, kv, h1, h2⟩ := h
  exact ⟨fv, qv, kv, h1.kept hk (fun k hin => hn k (h2 k hin)), h2⟩
theorem RIn.mono {w : World} {S T : Nat → Prop} {r : Nat} {X : R} (h : RIn w r S X) (hs : ∀ k, k < w.heap.size → S k → T k) : RIn w r T X := by
  obtain ⟨fv, qv, kv, h1, h2⟩ := h
  exact ⟨fv, qv, kv, h1, fun k hin => hs k (h1.lt hin) (h2 k hin)⟩
/-- Numbers and the flag set, the rest as it was. -/
theorem RAt.recell {w w' : World} {r : Nat} {fv qv kv : Value} {X : R} (h : RAt w r fv qv kv X) (hk : Kept (fun k => k = r) w w') (lost left : Nat) (down : Bool)
    (hc : w'.heap[r]? = some (.cells #[fv, qv, .int .i64 (lost : Int), .bool down, .int .i64 (left : Int), kv] 61 (0, 0))) : RAt w' r fv qv kv { X with lost := lost, left := left, down := down } :=
  { cell := hc
    files := own_kept h.files hk (fun k e e' => h.nf (by rw [e, e']))
    queue := own_kept h.queue hk (fun k e e' => h.nq (by rw [e, e']))
    keep := own_kept h.keep hk (fun k e e' => h.nk (by rw [e, e']))
    nf := h.nf, nq := h.nq, nk := h.nk, fq := h.fq, fk := h.fk, qk := h.qk }
theorem rstart_c (r : Nat) (fv qv kv : Value) (X : R) (w : World) (h : RAt w r fv qv kv X) : Calls Try.prog 38 #[.pointer (some ⟨r, 0, none⟩)] w fun e w' => e = .returned (.tuple #[]) ∧ RAt w' r fv qv kv { X with down := false } ∧ Kept (fun k => k = r) w w' := by
  have c3 := h.c3
  have z3 := h.z 3
  have H := Lib.hid h
  clear h
  go_enter Try.func38, Try.ntmps38
  go_wp2_with fail
  go_end0
  have hk := Kept.set r 3 w (.bool false)
  exact ⟨rfl, H.out.recell hk X.lost X.left false (cells6_set H.out.cell 3 (.bool false) (by omega)), hk⟩
theorem rlose_c (r : Nat) (fv qv kv : Value) (X : R) (n : Int) (w : World) (h : RAt w r fv qv kv X) : Calls Try.prog 35 #[.pointer (some ⟨r, 0, none⟩), .int .i64 n] w fun e w' => e = .returned (.tuple #[]) ∧ RAt w' r fv qv kv { X with lost := n.toNat } ∧ Kept (fun k => k = r) w w' := by
  have c2 := h.c2
  have z2 := h.z 2
  have hm : (if n < 0 then (0 : Int) else n) = (n.toNat : Int) := by split <;> omega
  have H := Lib.hid h
  clear h
  obtain ⟨m, hme⟩ : ∃ m, m = n.toNat := ⟨_, rfl⟩
  rw [← hme] at hm ⊢
  clear hme
  go_enter Try.func35, Try.ntmps35
  go_wp2_with fail
  go_end0
  have hk := Kept.set r 2 w (.int .i64 (m : Int))
  exact ⟨rfl, H.out.recell hk m X.left X.down (cells6_set H.out.cell 2 (.int .i64 (m : Int)) (by omega)), hk⟩
end Go.Proofs.Ythibikdnoogfoaa
