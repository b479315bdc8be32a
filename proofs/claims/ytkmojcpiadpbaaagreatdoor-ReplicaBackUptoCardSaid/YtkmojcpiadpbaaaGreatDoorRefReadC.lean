/-
  The reference's reader: numbers, ints, strings and lists.
-/
import Derived.Test.YtkmojcpiadpbaaaGreatDoorRefReadB
namespace Go.Proofs.YtkmojcpiadpbaaaGreatDoor
open Go Go.RowKit Go.Sort Wire

theorem qnumber_ok (e : UInt8) (c : Int) (hc : (e.toNat : Int) = c) (b : Nat) (r : List UInt8) (f : Bool) (n : Int) (r' : List UInt8) (hr : rNum e r = some (n, r')) (hlen : r.length < 4294967281) (w : World) (h : Qd w b r f) :
    Calls Tryz.prog 55 #[.pointer (some ⟨b, 0, none⟩), .int .u8 c] w fun v w' => v = .returned (.int .i64 n) ∧ Qd w' b r' f ∧ Only b w w' := by
  obtain ⟨hi, h0⟩ : rInt e r = some (n, r') ∧ 0 ≤ n := by
    unfold rNum at hr
    cases hi : rInt e r with
    | none => rw [hi] at hr; cases hr
    | some p =>
      rw [hi] at hr
      simp only [Option.bind_some] at hr
      by_cases hp : p.1 < 0
      · rw [if_pos hp] at hr; cases hr
      · rw [if_neg hp] at hr
        injection hr with hr
        subst hr
        exact ⟨rfl, by simpa using hp⟩
  have HI := Lib.hid hi
  have HC := Lib.hid hc
  clear hr hi hc
  go_enter Tryz.func55, Tryz.ntmps55
  go_wp2_with fail
  refine (ahead_ok e c HC.out b r f n r' HI.out hlen _ h).mono ?_
  rintro v w1 ⟨rfl, h1, ho1⟩
  go_wp2_with fail
  go_ret
  exact ⟨rfl, h1, ho1⟩
theorem qnumber_no (e : UInt8) (c : Int) (hc : (e.toNat : Int) = c) (b : Nat) (r : List UInt8) (f : Bool) (hr : rNum e r = none) (hlen : r.length < 4294967281) (w : World) (h : Qd w b r f) :
    Calls Tryz.prog 55 #[.pointer (some ⟨b, 0, none⟩), .int .u8 c] w fun v w' => v = .returned (.int .i64 0) ∧ Qd w' b [] true ∧ Only b w w' := by
  have HC := Lib.hid hc
  clear hc
  unfold rNum at hr
  cases hi : rInt e r with
  | none =>
    have HI := Lib.hid hi
    clear hr hi
    go_enter Tryz.func55, Tryz.ntmps55
    go_wp2_with fail
    refine (ahead_no e c HC.out b r f HI.out hlen _ h).mono ?_
    rintro v w1 ⟨rfl, h1, ho1⟩
    go_wp2_with fail
    go_ret
    exact ⟨rfl, h1, ho1⟩
  | some p =>
    obtain ⟨n, r'⟩ := p
    have hn : n < 0 := by
      rw [hi] at hr
      simp only [Option.bind_some] at hr
      by_cases hp : n < 0
      · exact hp
      · rw [if_neg hp] at hr; cases hr
    have HI := Lib.hid hi
    clear hr hi
    go_enter Tryz.func55, Tryz.ntmps55
    go_wp2_with fail
    refine (ahead_ok e c HC.out b r f n r' HI.out hlen _ h).mono ?_
    rintro v w1 ⟨rfl, h1, ho1⟩
    go_wp2_with fail
    refine (qfail_c b r' f _ h1).mono ?_
    rintro v w2 ⟨rfl, h2, ho2⟩
    go_wp2_with fail
    go_ret
    exact ⟨rfl, h2, ho1.trans ho2⟩

theorem qNumM_ok (b : Nat) (r : List UInt8) (f : Bool) (n : Int) (r' : List UInt8) (hr : rNum 59 r = some (n, r')) (hlen : r.length < 4294967281) (w : World) (h : Qd w b r f) :
    Calls Tryz.prog 33 #[.pointer (some ⟨b, 0, none⟩)] w fun v w' => v = .returned (.int .i64 n) ∧ Qd w' b r' f ∧ Only b w w' := by
  have HI := Lib.hid hr
  clear hr
  go_enter Tryz.func33, Tryz.ntmps33
  go_wp2_with fail
  refine (qnumber_ok 59 59 rfl b r f n r' HI.out hlen _ h).mono ?_
  rintro v w1 ⟨rfl, h1, ho1⟩
  go_wp2_with fail
  go_ret
  exact ⟨rfl, h1, ho1⟩
theorem qNumM_no (b : Nat) (r : List UInt8) (f : Bool) (hr : rNum 59 r = none) (hlen : r.length < 4294967281) (w : World) (h : Qd w b r f) :
    Calls Tryz.prog 33 #[.pointer (some ⟨b, 0, none⟩)] w fun v w' => v = .returned (.int .i64 0) ∧ Qd w' b [] true ∧ Only b w w' := by
  have HI := Lib.hid hr
  clear hr
  go_enter Tryz.func33, Tryz.ntmps33
  go_wp2_with fail
  refine (qnumber_no 59 59 rfl b r f HI.out hlen _ h).mono ?_
  rintro v w1 ⟨rfl, h1, ho1⟩
  go_wp2_with fail
  go_ret
  exact ⟨rfl, h1, ho1⟩
theorem qIntM_ok (b : Nat) (r : List UInt8) (f : Bool) (n : Int) (r' : List UInt8) (hr : rInt 59 r = some (n, r')) (hlen : r.length < 4294967281) (w : World) (h : Qd w b r f) :
    Calls Tryz.prog 32 #[.pointer (some ⟨b, 0, none⟩)] w fun v w' => v = .returned (.int .i64 n) ∧ Qd w' b r' f ∧ Only b w w' := by
  have HI := Lib.hid hr
  clear hr
  go_enter Tryz.func32, Tryz.ntmps32
  go_wp2_with fail
  refine (ahead_ok 59 59 rfl b r f n r' HI.out hlen _ h).mono ?_
  rintro v w1 ⟨rfl, h1, ho1⟩
  go_wp2_with fail
  go_ret
  exact ⟨rfl, h1, ho1⟩
theorem qIntM_no (b : Nat) (r : List UInt8) (f : Bool) (hr : rInt 59 r = none) (hlen : r.length < 4294967281) (w : World) (h : Qd w b r f) :
    Calls Tryz.prog 32 #[.pointer (some ⟨b, 0, none⟩)] w fun v w' => v = .returned (.int .i64 0) ∧ Qd w' b [] true ∧ Only b w w' := by
  have HI := Lib.hid hr
  clear hr
  go_enter Tryz.func32, Tryz.ntmps32
  go_wp2_with fail
  refine (ahead_no 59 59 rfl b r f HI.out hlen _ h).mono ?_
  rintro v w1 ⟨rfl, h1, ho1⟩
  go_wp2_with fail
  go_ret
  exact ⟨rfl, h1, ho1⟩

theorem qclose_ok (e : UInt8) (c : Int) (hc : (e.toNat : Int) = c) (b : Nat) (q : List UInt8) (f : Bool) (hlen : q.length < 4294967281) (w : World) (h : Qd w b (e :: q) f) :
    Calls Tryz.prog 57 #[.pointer (some ⟨b, 0, none⟩), .int .u8 c] w fun v w' => v = .returned (.bool true) ∧ Qd w' b q f ∧ Only b w w' := by
  have k0 := h.c0
  have z0 := h.z0
  obtain ⟨r, hr⟩ : ∃ r, r = e :: q := ⟨_, rfl⟩
  rw [← hr] at k0
  have hl0 : 0 < r.length := by rw [hr]; simp
  have hl1 : 1 ≤ r.length := hl0
  have hl2 : r.length < 4294967290 := by rw [hr]; simp; omega
  have hby : ((((⟨r.toArray⟩ : ByteArray)[0]'(by rw [ba_size]; exact hl0)).toNat : Int) != c) = false := by rw [ba_get r 0 _ e (by rw [hr]; rfl)]; exact byte_eq hc rfl
  have HR := Lib.hid (show r.drop 1 = q by rw [hr]; rfl)
  clear hr
  go_enter Tryz.func57, Tryz.ntmps57
  go_wp2_with fail
  go_ret
  rw [ba_drop, HR.out]
  exact ⟨rfl, h.set0 _, Only.set b 0 w _⟩
theorem qclose_no (e : UInt8) (c : Int) (hc : (e.toNat : Int) = c) (b : Nat) (r : List UInt8) (f : Bool) (hr : rClose e r = none) (hlen : r.length < 4294967281) (w : World) (h : Qd w b r f) :
    Calls Tryz.prog 57 #[.pointer (some ⟨b, 0, none⟩), .int .u8 c] w fun v w' => v = .returned (.bool false) ∧ Qd w' b [] true ∧ Only b w w' := by
  have k0 := h.c0
  rcases Nat.eq_zero_or_pos r.length with h0 | h0
  · go_enter Tryz.func57, Tryz.ntmps57
    go_wp2_with fail
    refine (qfail_c b r f _ h).mono ?_
    rintro v w1 ⟨rfl, h1, ho1⟩
    go_wp2_with fail
    go_ret
    exact ⟨rfl, h1, ho1⟩
  · have hby : ((((⟨r.toArray⟩ : ByteArray)[0]'(by rw [ba_size]; exact h0)).toNat : Int) != c) = true := by
      cases r with
      | nil => cases h0
      | cons x q =>
        rw [ba_get (x :: q) 0 _ x rfl]
        refine byte_ne hc (fun hx => ?_)
        rw [rClose, if_pos hx] at hr
        cases hr
    clear hr
    go_enter Tryz.func57, Tryz.ntmps57
    go_wp2_with fail
    refine (qfail_c b r f _ h).mono ?_
    rintro v w1 ⟨rfl, h1, ho1⟩
    go_wp2_with fail
    go_ret
    exact ⟨rfl, h1, ho1⟩

theorem drop_cons (q : List UInt8) (n : Nat) (c : UInt8) (h : q[n]? = some c) : q.drop n = c :: q.drop (n + 1) := by
  obtain ⟨hlt, hget⟩ := List.getElem?_eq_some_iff.1 h
  rw [List.drop_eq_getElem_cons hlt, hget]
set_option maxRecDepth 100000 in
theorem qTextM_ok (b : Nat) (r t r' : List UInt8) (hr : rText r = some (t, r')) (hlen : r.length < 4294967281) (w : World) (h : Qd w b r false) :
    Calls Tryz.prog 35 #[.pointer (some ⟨b, 0, none⟩)] w fun v w' => v = .returned (.string ⟨t.toArray⟩) ∧ Qd w' b r' false ∧ Only b w w' := by
  obtain ⟨n, q, hn, hq, ht, hr'⟩ := rText_parts hr
  have hql : q.length < 4294967281 := by have := rNum_shorter (by decide) hn; omega
  have hnl : n < q.length := (List.getElem?_eq_some_iff.1 hq).1
  have hql2 : (q.drop (n + 1)).length < 4294967281 := by rw [List.length_drop]; omega
  have HQ := Lib.hid (drop_cons q n 44 hq)
  have HN := Lib.hid hn
  have HT := Lib.hid ht
  have HR := Lib.hid hr'
  clear hr hn hq ht hr'
  go_enter Tryz.func35, Tryz.ntmps35
  go_wp2_with fail
  refine (qnumber_ok 58 58 rfl b r false n q HN.out hlen _ h).mono ?_
  rintro v w1 ⟨rfl, h1, ho1⟩
  have k0 := h1.c0
  have k1 := h1.c1
  have z0 := h1.z0
  go_wp2_with fail
  rw [ba_drop, HQ.out]
  refine (qclose_ok 44 44 rfl b (q.drop (n + 1)) false hql2 _ (h1.set0 _)).mono ?_
  rintro v w2 ⟨rfl, h2, ho2⟩
  go_wp2_with fail
  go_ret
  refine ⟨ret_str ?_, HR.out ▸ h2, (ho1.trans (Only.set b 0 w1 _)).trans ho2⟩
  rw [ba_take, HT.out]

set_option maxRecDepth 100000 in
theorem qTextM_no (b : Nat) (r : List UInt8) (f : Bool) (hf : f = true → r = []) (hr : rText r = none) (hlen : r.length < 4294967281) (w : World) (h : Qd w b r f) :
    Calls Tryz.prog 35 #[.pointer (some ⟨b, 0, none⟩)] w fun v w' => v = .returned (.string ⟨#[]⟩) ∧ Qd w' b [] true ∧ Only b w w' := by
  rcases rText_none hr with hn | ⟨n, q, hn, hq⟩
  · have HN := Lib.hid hn
    clear hr hn hf
    go_enter Tryz.func35, Tryz.ntmps35
    go_wp2_with fail
    refine (qnumber_no 58 58 rfl b r f HN.out hlen _ h).mono ?_
    rintro v w1 ⟨rfl, h1, ho1⟩
    have k1 := h1.c1
    go_wp2_with fail
    refine (qfail_c b [] true _ h1).mono ?_
    rintro v w2 ⟨rfl, h2, ho2⟩
    go_wp2_with fail
    go_ret
    exact ⟨rfl, h2, ho1.trans ho2⟩
  · have hfF : f = false := by
      cases f
      · rfl
      · rw [hf rfl] at hn; cases hn
    subst hfF
    have hql : q.length < 4294967281 := by have := rNum_shorter (by decide) hn; omega
    rcases hq with hq | ⟨x, hq, hx⟩
    · have HN := Lib.hid hn
      clear hr hn hf
      go_enter Tryz.func35, Tryz.ntmps35
      go_wp2_with fail
      refine (qnumber_ok 58 58 rfl b r false n q HN.out hlen _ h).mono ?_
      rintro v w1 ⟨rfl, h1, ho1⟩
      have k0 := h1.c0
      have k1 := h1.c1
      go_wp2_with fail
      refine (qfail_c b q false _ h1).mono ?_
      rintro v w2 ⟨rfl, h2, ho2⟩
      go_wp2_with fail
      go_ret
      exact ⟨rfl, h2, ho1.trans ho2⟩
    · have hnl : n < q.length := (List.getElem?_eq_some_iff.1 hq).1
      have hql2 : (q.drop n).length < 4294967281 := by rw [List.length_drop]; omega
      have hcl : rClose 44 (q.drop n) = none := by rw [drop_cons q n x hq, rClose, if_neg hx]
      have HN := Lib.hid hn
      have HCL := Lib.hid hcl
      clear hr hn hf hq hx hcl
      go_enter Tryz.func35, Tryz.ntmps35
      go_wp2_with fail
      refine (qnumber_ok 58 58 rfl b r false n q HN.out hlen _ h).mono ?_
      rintro v w1 ⟨rfl, h1, ho1⟩
      have k0 := h1.c0
      have k1 := h1.c1
      have z0 := h1.z0
      go_wp2_with fail
      rw [ba_drop]
      refine (qclose_no 44 44 rfl b (q.drop n) false HCL.out hql2 _ (h1.set0 _)).mono ?_
      rintro v w2 ⟨rfl, h2, ho2⟩
      go_wp2_with fail
      go_ret
      exact ⟨rfl, h2, (ho1.trans (Only.set b 0 w1 _)).trans ho2⟩
end Go.Proofs.YtkmojcpiadpbaaaGreatDoor
