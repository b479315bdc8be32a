/-
  Readers of package wire: each method returns what chapter 1 says of the bytes that are left, and leaves the reader there; nothing else has turned.
-/
import Derived.Test.YtlfjbiiacnikhaaDoorEnc
namespace Go.Proofs.YtlfjbiiacnikhaaDoor
open Go Go.RowKit Go.Sort Wire

/-- The reader in block b: what is left, and whether it has failed. -/
def Rd (w : World) (b : Nat) (r : List UInt8) (f : Bool) : Prop := w.heap[b]? = some (.cells #[.string ⟨r.toArray⟩, .bool f] 71 (0, 0))
/-- Of what was there, block b alone may have turned. -/
def Only (b : Nat) (w w' : World) : Prop := w.grownBy w' (some b)

theorem Only.refl (b : Nat) (w : World) : Only b w w := ⟨rfl, rfl, rfl, Nat.le_refl _, fun _ _ _ => rfl⟩
theorem Only.trans {b : Nat} {x y z : World} (h : Only b x y) (k : Only b y z) : Only b x z :=
  ⟨k.os.trans h.os, k.tape.trans h.tape, k.output.trans h.output, Nat.le_trans h.size k.size, fun i hi hne => (k.block i (Nat.lt_of_lt_of_le hi h.size) hne).trans (h.block i hi hne)⟩
theorem Only.of {b : Nat} {x y : World} (h : Below x.heap.size x y) : Only b x y := ⟨h.os, h.tape, h.output, h.size, fun i hi _ => h.block i hi⟩
theorem Only.set (b o : Nat) (w : World) (v : Value) : Only b w (w.setCell ⟨b, o, none⟩ v) :=
  ⟨rfl, rfl, rfl, by simp [World.setCell], fun k _ hk => Below.heap_setCell _ _ _ _ (fun e => hk (by simp [e]))⟩
theorem Only.below {b B : Nat} {w w' : World} (h : Only b w w') (hB : B ≤ b) (hw : B ≤ w.heap.size) : Below B w w' :=
  ⟨h.os, h.tape, h.output, h.size, fun k hk => h.block k (by omega) (by intro e; injection e with e; omega)⟩
theorem Rd.lt {w : World} {b : Nat} {r : List UInt8} {f : Bool} (h : Rd w b r f) : b < w.heap.size := (Array.getElem?_eq_some_iff.1 h).1
theorem Rd.on {w w' : World} {b : Nat} {r : List UInt8} {f : Bool} (h : Rd w b r f) (hb : Below w.heap.size w w') : Rd w' b r f := (hb.block b h.lt).trans h
theorem Rd.c0 {w : World} {b : Nat} {r : List UInt8} {f : Bool} (h : Rd w b r f) : w.cell? ⟨b, 0, none⟩ = some (.string ⟨r.toArray⟩) := by rw [Lib.cell_of_heap h]; rfl
theorem Rd.c1 {w : World} {b : Nat} {r : List UInt8} {f : Bool} (h : Rd w b r f) : w.cell? ⟨b, 1, none⟩ = some (.bool f) := by rw [Lib.cell_of_heap h]; rfl
theorem Rd.z0 {w : World} {b : Nat} {r : List UInt8} {f : Bool} (h : Rd w b r f) : w.frozen? ⟨b, 0, none⟩ = false := Lib.frozen_of_heap h 0
theorem Rd.z1 {w : World} {b : Nat} {r : List UInt8} {f : Bool} (h : Rd w b r f) : w.frozen? ⟨b, 1, none⟩ = false := Lib.frozen_of_heap h 1
theorem Rd.set0 {w : World} {b : Nat} {r : List UInt8} {f : Bool} (h : Rd w b r f) (r' : List UInt8) : Rd (w.setCell ⟨b, 0, none⟩ (.string ⟨r'.toArray⟩)) b r' f := by
  unfold Rd at *
  simp [World.setCell, Array.getElem?_modify, h]
theorem Rd.set1 {w : World} {b : Nat} {r : List UInt8} {f : Bool} (h : Rd w b r f) (f' : Bool) : Rd (w.setCell ⟨b, 1, none⟩ (.bool f')) b r f' := by
  unfold Rd at *
  simp [World.setCell, Array.getElem?_modify, h]
theorem Good.only {b : Nat} {w w' : World} (h : Good w) (ho : Only b w w') (hb : 4 ≤ b) : Good w' := h.keep (ho.below hb h.big) (Nat.le_refl _)

theorem fail_c (b : Nat) (r : List UInt8) (f : Bool) (w : World) (h : Rd w b r f) : Calls Tryd.prog 50 #[.pointer (some ⟨b, 0, none⟩)] w fun e w' => e = .returned (.tuple #[]) ∧ Rd w' b [] true ∧ Only b w w' := by
  have z0 := h.z0
  have z1 := h.z1
  have k0 := h.c0
  have k1 := h.c1
  go_enter Tryd.func50, Tryd.ntmps50
  go_wp2
  go_end0
  exact ⟨rfl, (h.set0 []).set1 true, (Only.set b 0 w _).trans (Only.set b 1 _ _)⟩

set_option maxRecDepth 100000 in
theorem integer_ok (e : UInt8) (b : Nat) (r : List UInt8) (f : Bool) (n : Int) (r' : List UInt8) (hr : rInt e r = some (n, r')) (hlen : r.length < 4294967281) (w : World) (hg : Good w) (h : Rd w b r f) :
    Calls Tryd.prog 39 #[.pointer (some ⟨b, 0, none⟩), .string ⟨#[e]⟩] w fun v w' => v = .returned (.int .i64 n) ∧ Rd w' b r' f ∧ Only b w w' := by
  obtain ⟨d, hc, hd⟩ : ∃ d, cutAt e r = some (d, r') ∧ readDig d = some n := by
    unfold rInt at hr
    cases hc : cutAt e r with
    | none => rw [hc] at hr; cases hr
    | some p =>
      obtain ⟨d, q⟩ := p
      rw [hc] at hr
      simp only [Option.bind_some, Option.map_eq_some_iff, Prod.mk.injEq] at hr
      obtain ⟨m, hm, rfl, rfl⟩ := hr
      exact ⟨d, rfl, hm⟩
  obtain ⟨hin, hdi⟩ := (readDig_iff d n).1 hd
  have hat : Lib.atoiAll d = .ok n := by rw [hdi]; exact atoi_itoa n hin
  have hdl : d.length < 4294967281 := by
    have := (cutAt_some hc).1
    rw [this] at hlen
    simp at hlen
    omega
  have k0 := h.c0
  have HC := Lib.hid hc
  have HI := Lib.hid hdi
  have HA := Lib.hid hat
  clear hr hd hc hdi hat
  go_enter Tryd.func39, Tryd.ntmps39
  go_wp2_with fail
  refine (cut_hit e r d r' HC.out _ hlen hg).mono ?_
  rintro v w1 ⟨rfl, hb1⟩
  have hg1 := hg.on hb1
  have h1 := h.on hb1
  clear k0
  have k0 := h1.c0
  have z0 := h1.z0
  go_wp2_with fail
  refine (atoi_ok d hdl n HA.out _).mono ?_
  rintro v w2 ⟨rfl, hb2⟩
  have hg2 := hg1.on hb2
  have h2 := h1.on hb2
  clear k0 z0
  have k0 := h2.c0
  have z0 := h2.z0
  go_wp2_with fail
  refine (itoa_c n hin _ hg2).mono ?_
  rintro v w3 ⟨rfl, hb3⟩
  have h3 := h2.on hb3
  clear k0 z0
  have k0 := h3.c0
  have z0 := h3.z0
  have hq : (!Lib.itoa n == d) = false := by rw [HI.out]; simp
  go_wp2_with fail
  go_ret
  exact ⟨rfl, h3.set0 r', ((Only.of hb1).trans ((Only.of hb2).trans (Only.of hb3))).trans (Only.set b 0 w3 _)⟩

set_option maxRecDepth 100000 in
theorem integer_no1 (e : UInt8) (b : Nat) (r : List UInt8) (f : Bool) (hc : cutAt e r = none) (hlen : r.length < 4294967281) (w : World) (hg : Good w) (h : Rd w b r f) :
    Calls Tryd.prog 39 #[.pointer (some ⟨b, 0, none⟩), .string ⟨#[e]⟩] w fun v w' => v = .returned (.int .i64 0) ∧ Rd w' b [] true ∧ Only b w w' := by
  have k0 := h.c0
  have HC := Lib.hid hc
  clear hc
  cases ha : Lib.atoiAll r with
  | ok n =>
    have HA := Lib.hid ha
    clear ha
    go_enter Tryd.func39, Tryd.ntmps39
    go_wp2_with fail
    refine (cut_miss e r HC.out _ hlen hg).mono ?_
    rintro v w1 ⟨rfl, hb1⟩
    go_wp2_with fail
    refine (atoi_ok r hlen n HA.out _).mono ?_
    rintro v w2 ⟨rfl, hb2⟩
    have h2 := (h.on hb1).on hb2
    go_wp2_with fail
    refine (fail_c b r f _ h2).mono ?_
    rintro v w3 ⟨rfl, h3, ho3⟩
    go_wp2_with fail
    go_ret
    exact ⟨rfl, h3, ((Only.of hb1).trans (Only.of hb2)).trans ho3⟩
  | _ =>
    have HA := Lib.hid (show ∀ v, Lib.atoiAll r ≠ .ok v by rw [ha]; intro v hv; cases hv)
    clear ha
    go_enter Tryd.func39, Tryd.ntmps39
    go_wp2_with fail
    refine (cut_miss e r HC.out _ hlen hg).mono ?_
    rintro v w1 ⟨rfl, hb1⟩
    go_wp2_with fail
    refine (atoi_bad r hlen HA.out _ (hg.on hb1)).mono ?_
    rintro v w2 ⟨n, N, rfl, hb2⟩
    have h2 := (h.on hb1).on hb2
    go_wp2_with fail
    refine (fail_c b r f _ h2).mono ?_
    rintro v w3 ⟨rfl, h3, ho3⟩
    go_wp2_with fail
    go_ret
    exact ⟨rfl, h3, ((Only.of hb1).trans (Only.of hb2)).trans ho3⟩

set_option maxRecDepth 100000 in
theorem integer_no2 (e : UInt8) (b : Nat) (r : List UInt8) (f : Bool) (d r' : List UInt8) (hc : cutAt e r = some (d, r')) (hd : readDig d = none) (hlen : r.length < 4294967281) (w : World) (hg : Good w) (h : Rd w b r f) :
    Calls Tryd.prog 39 #[.pointer (some ⟨b, 0, none⟩), .string ⟨#[e]⟩] w fun v w' => v = .returned (.int .i64 0) ∧ Rd w' b [] true ∧ Only b w w' := by
  have hdl : d.length < 4294967281 := by
    have := (cutAt_some hc).1
    rw [this] at hlen
    simp at hlen
    omega
  have k0 := h.c0
  have HC := Lib.hid hc
  clear hc
  cases ha : Lib.atoiAll d with
  | ok n =>
    have hin : InR n := Lib.atoiAll_bounds ha
    have hne : Lib.itoa n ≠ d := by
      intro hh
      rw [(readDig_iff d n).2 ⟨hin, hh.symm⟩] at hd
      cases hd
    have HA := Lib.hid ha
    clear ha hd
    go_enter Tryd.func39, Tryd.ntmps39
    go_wp2_with fail
    refine (cut_hit e r d r' HC.out _ hlen hg).mono ?_
    rintro v w1 ⟨rfl, hb1⟩
    have hg1 := hg.on hb1
    go_wp2_with fail
    refine (atoi_ok d hdl n HA.out _).mono ?_
    rintro v w2 ⟨rfl, hb2⟩
    have hg2 := hg1.on hb2
    go_wp2_with fail
    refine (itoa_c n hin _ hg2).mono ?_
    rintro v w3 ⟨rfl, hb3⟩
    have h3 := ((h.on hb1).on hb2).on hb3
    have hq : (!Lib.itoa n == d) = true := by simp [hne]
    clear hne
    go_wp2_with fail
    refine (fail_c b r f _ h3).mono ?_
    rintro v w4 ⟨rfl, h4, ho4⟩
    go_wp2_with fail
    go_ret
    exact ⟨rfl, h4, ((Only.of hb1).trans ((Only.of hb2).trans (Only.of hb3))).trans ho4⟩
  | _ =>
    have HA := Lib.hid (show ∀ v, Lib.atoiAll d ≠ .ok v by rw [ha]; intro v hv; cases hv)
    clear ha hd
    go_enter Tryd.func39, Tryd.ntmps39
    go_wp2_with fail
    refine (cut_hit e r d r' HC.out _ hlen hg).mono ?_
    rintro v w1 ⟨rfl, hb1⟩
    go_wp2_with fail
    refine (atoi_bad d hdl HA.out _ (hg.on hb1)).mono ?_
    rintro v w2 ⟨n, N, rfl, hb2⟩
    have h2 := (h.on hb1).on hb2
    go_wp2_with fail
    refine (fail_c b r f _ h2).mono ?_
    rintro v w3 ⟨rfl, h3, ho3⟩
    go_wp2_with fail
    go_ret
    exact ⟨rfl, h3, ((Only.of hb1).trans (Only.of hb2)).trans ho3⟩

theorem integer_no (e : UInt8) (b : Nat) (r : List UInt8) (f : Bool) (hr : rInt e r = none) (hlen : r.length < 4294967281) (w : World) (hg : Good w) (h : Rd w b r f) :
    Calls Tryd.prog 39 #[.pointer (some ⟨b, 0, none⟩), .string ⟨#[e]⟩] w fun v w' => v = .returned (.int .i64 0) ∧ Rd w' b [] true ∧ Only b w w' := by
  cases hc : cutAt e r with
  | none => exact integer_no1 e b r f hc hlen w hg h
  | some p =>
    obtain ⟨d, r'⟩ := p
    refine integer_no2 e b r f d r' hc ?_ hlen w hg h
    unfold rInt at hr
    rw [hc] at hr
    simpa using hr
end Go.Proofs.YtlfjbiiacnikhaaDoor
