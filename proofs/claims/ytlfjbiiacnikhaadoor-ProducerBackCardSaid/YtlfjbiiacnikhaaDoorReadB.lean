/-
  Readers of package wire: numbers, ints, strings, and the small methods.
-/
import Derived.Test.YtlfjbiiacnikhaaDoorRead
namespace Go.Proofs.YtlfjbiiacnikhaaDoor
open Go Go.RowKit Go.Sort Wire

theorem number_ok (e : UInt8) (b : Nat) (r : List UInt8) (f : Bool) (n : Int) (r' : List UInt8) (hr : rNum e r = some (n, r')) (hlen : r.length < 4294967281) (w : World) (hg : Good w) (h : Rd w b r f) :
    Calls Tryd.prog 38 #[.pointer (some ⟨b, 0, none⟩), .string ⟨#[e]⟩] w fun v w' => v = .returned (.int .i64 n) ∧ Rd w' b r' f ∧ Only b w w' := by
  obtain ⟨hi, h0⟩ : rInt e r = some (n, r') ∧ 0 ≤ n := by
    unfold rNum at hr
    cases hi : rInt e r with
    | none => rw [hi] at hr; cases hr
    | some p =>
      rw [hi] at hr
      simp only [Option.bind_some] at hr
      by_cases hp : p.1 < 0
      · rw [if_pos hp] at hr; cases hr
      · rw [if_neg hp] at hr
        injection hr with hr
        subst hr
        exact ⟨rfl, by simpa using hp⟩
  have HI := Lib.hid hi
  clear hr hi
  go_enter Tryd.func38, Tryd.ntmps38
  go_wp2_with fail
  refine (integer_ok e b r f n r' HI.out hlen _ hg h).mono ?_
  rintro v w1 ⟨rfl, h1, ho1⟩
  go_wp2_with fail
  go_ret
  exact ⟨rfl, h1, ho1⟩
theorem number_no (e : UInt8) (b : Nat) (r : List UInt8) (f : Bool) (hr : rNum e r = none) (hlen : r.length < 4294967281) (w : World) (hg : Good w) (h : Rd w b r f) :
    Calls Tryd.prog 38 #[.pointer (some ⟨b, 0, none⟩), .string ⟨#[e]⟩] w fun v w' => v = .returned (.int .i64 0) ∧ Rd w' b [] true ∧ Only b w w' := by
  unfold rNum at hr
  cases hi : rInt e r with
  | none =>
    have HI := Lib.hid hi
    clear hr hi
    go_enter Tryd.func38, Tryd.ntmps38
    go_wp2_with fail
    refine (integer_no e b r f HI.out hlen _ hg h).mono ?_
    rintro v w1 ⟨rfl, h1, ho1⟩
    go_wp2_with fail
    go_ret
    exact ⟨rfl, h1, ho1⟩
  | some p =>
    obtain ⟨n, r'⟩ := p
    have hn : n < 0 := by
      rw [hi] at hr
      simp only [Option.bind_some] at hr
      by_cases hp : n < 0
      · exact hp
      · rw [if_neg hp] at hr; cases hr
    have HI := Lib.hid hi
    clear hr hi
    go_enter Tryd.func38, Tryd.ntmps38
    go_wp2_with fail
    refine (integer_ok e b r f n r' HI.out hlen _ hg h).mono ?_
    rintro v w1 ⟨rfl, h1, ho1⟩
    go_wp2_with fail
    refine (fail_c b r' f _ h1).mono ?_
    rintro v w2 ⟨rfl, h2, ho2⟩
    go_wp2_with fail
    go_ret
    exact ⟨rfl, h2, ho1.trans ho2⟩

theorem rNumM_ok (b : Nat) (r : List UInt8) (f : Bool) (n : Int) (r' : List UInt8) (hr : rNum 59 r = some (n, r')) (hlen : r.length < 4294967281) (w : World) (hg : Good w) (h : Rd w b r f) :
    Calls Tryd.prog 16 #[.pointer (some ⟨b, 0, none⟩)] w fun v w' => v = .returned (.int .i64 n) ∧ Rd w' b r' f ∧ Only b w w' := by
  have HI := Lib.hid hr
  clear hr
  go_enter Tryd.func16, Tryd.ntmps16
  go_wp2_with fail
  refine (number_ok 59 b r f n r' HI.out hlen _ hg h).mono ?_
  rintro v w1 ⟨rfl, h1, ho1⟩
  go_wp2_with fail
  go_ret
  exact ⟨rfl, h1, ho1⟩
theorem rNumM_no (b : Nat) (r : List UInt8) (f : Bool) (hr : rNum 59 r = none) (hlen : r.length < 4294967281) (w : World) (hg : Good w) (h : Rd w b r f) :
    Calls Tryd.prog 16 #[.pointer (some ⟨b, 0, none⟩)] w fun v w' => v = .returned (.int .i64 0) ∧ Rd w' b [] true ∧ Only b w w' := by
  have HI := Lib.hid hr
  clear hr
  go_enter Tryd.func16, Tryd.ntmps16
  go_wp2_with fail
  refine (number_no 59 b r f HI.out hlen _ hg h).mono ?_
  rintro v w1 ⟨rfl, h1, ho1⟩
  go_wp2_with fail
  go_ret
  exact ⟨rfl, h1, ho1⟩
theorem rIntM_ok (b : Nat) (r : List UInt8) (f : Bool) (n : Int) (r' : List UInt8) (hr : rInt 59 r = some (n, r')) (hlen : r.length < 4294967281) (w : World) (hg : Good w) (h : Rd w b r f) :
    Calls Tryd.prog 18 #[.pointer (some ⟨b, 0, none⟩)] w fun v w' => v = .returned (.int .i64 n) ∧ Rd w' b r' f ∧ Only b w w' := by
  have HI := Lib.hid hr
  clear hr
  go_enter Tryd.func18, Tryd.ntmps18
  go_wp2_with fail
  refine (integer_ok 59 b r f n r' HI.out hlen _ hg h).mono ?_
  rintro v w1 ⟨rfl, h1, ho1⟩
  go_wp2_with fail
  go_ret
  exact ⟨rfl, h1, ho1⟩
theorem rIntM_no (b : Nat) (r : List UInt8) (f : Bool) (hr : rInt 59 r = none) (hlen : r.length < 4294967281) (w : World) (hg : Good w) (h : Rd w b r f) :
    Calls Tryd.prog 18 #[.pointer (some ⟨b, 0, none⟩)] w fun v w' => v = .returned (.int .i64 0) ∧ Rd w' b [] true ∧ Only b w w' := by
  have HI := Lib.hid hr
  clear hr
  go_enter Tryd.func18, Tryd.ntmps18
  go_wp2_with fail
  refine (integer_no 59 b r f HI.out hlen _ hg h).mono ?_
  rintro v w1 ⟨rfl, h1, ho1⟩
  go_wp2_with fail
  go_ret
  exact ⟨rfl, h1, ho1⟩

theorem rOpen_c (s : List UInt8) (w : World) : Calls Tryd.prog 15 #[.string ⟨s.toArray⟩] w fun v w' => v = .returned (.pointer (some ⟨w.heap.size, 0, none⟩)) ∧ Rd w' w.heap.size s false ∧ Below w.heap.size w w' := by
  go_enter Tryd.func15, Tryd.ntmps15
  go_wp2
  go_ret
  exact ⟨rfl, heap_alloc_new w _, (Below.refl _ _).alloc (Nat.le_refl _) _⟩
theorem rLeft_c (b : Nat) (r : List UInt8) (f : Bool) (w : World) (h : Rd w b r f) : Calls Tryd.prog 17 #[.pointer (some ⟨b, 0, none⟩)] w fun v w' => v = .returned (.int .i64 r.length) ∧ w = w' := by
  have k0 := h.c0
  go_enter Tryd.func17, Tryd.ntmps17
  go_wp2
  go_ret
  exact ⟨rfl, rfl⟩
theorem rDone_c (b : Nat) (r : List UInt8) (f : Bool) (w : World) (h : Rd w b r f) : Calls Tryd.prog 20 #[.pointer (some ⟨b, 0, none⟩)] w fun v w' => v = .returned (.bool (!f && r.isEmpty)) ∧ w = w' := by
  have k0 := h.c0
  have k1 := h.c1
  cases f
  · go_enter Tryd.func20, Tryd.ntmps20
    go_wp2
    go_ret
    exact ⟨by simp, rfl⟩
  · go_enter Tryd.func20, Tryd.ntmps20
    go_wp2
    go_ret
    exact ⟨by simp, rfl⟩
theorem rText_parts {r t r' : List UInt8} (h : rText r = some (t, r')) : ∃ (n : Nat) (q : List UInt8), rNum 58 r = some ((n : Int), q) ∧ q[n]? = some 44 ∧ t = q.take n ∧ r' = q.drop (n + 1) := by
  unfold rText at h
  cases hn : rNum 58 r with
  | none => rw [hn] at h; cases h
  | some p =>
    obtain ⟨n, q⟩ := p
    rw [hn] at h
    simp only [Option.bind_some] at h
    by_cases hq : q[n.toNat]? = some 44
    · rw [if_pos hq] at h
      injection h with h
      injection h with h1 h2
      have h0 := ((rNum_iff 58 (by decide) _ _ _).1 hn).1
      exact ⟨n.toNat, q, by rw [Int.toNat_of_nonneg h0], hq, h1.symm, h2.symm⟩
    · rw [if_neg hq] at h; cases h
theorem rText_none {r : List UInt8} (h : rText r = none) : rNum 58 r = none ∨ ∃ (n : Nat) (q : List UInt8), rNum 58 r = some ((n : Int), q) ∧ (q.length ≤ n ∨ ∃ c, q[n]? = some c ∧ c ≠ 44) := by
  unfold rText at h
  cases hn : rNum 58 r with
  | none => exact Or.inl rfl
  | some p =>
    obtain ⟨n, q⟩ := p
    rw [hn] at h
    simp only [Option.bind_some] at h
    have h0 := ((rNum_iff 58 (by decide) _ _ _).1 hn).1
    refine Or.inr ⟨n.toNat, q, by rw [Int.toNat_of_nonneg h0], ?_⟩
    by_cases hl : q.length ≤ n.toNat
    · exact Or.inl hl
    · refine Or.inr ⟨q[n.toNat]'(by omega), List.getElem?_eq_getElem (by omega), fun hc => ?_⟩
      have hq : q[n.toNat]? = some 44 := by rw [List.getElem?_eq_getElem (by omega), hc]
      rw [if_pos hq] at h
      cases h

theorem ba_get (q : List UInt8) (n : Nat) (h : n < (⟨q.toArray⟩ : ByteArray).size) (c : UInt8) (hc : q[n]? = some c) : (⟨q.toArray⟩ : ByteArray)[n] = c := by
  obtain ⟨h1, h2⟩ := List.getElem?_eq_some_iff.1 hc
  rw [← h2]
  rfl

end Go.Proofs.YtlfjbiiacnikhaaDoor
