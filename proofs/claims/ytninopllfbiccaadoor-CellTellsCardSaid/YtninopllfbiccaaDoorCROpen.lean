/-
  The reference's Open is what the model says.
-/
import Derived.Test.YtninopllfbiccaaDoorCRBase
import Derived.Test.YtninopllfbiccaaDoorCOpen
namespace Go.Proofs.YtninopllfbiccaaDoor
set_option maxRecDepth 100000
open Go Go.RowKit Go.Maps Dk

/-- What the reference's Open returns, and what it leaves. -/
def ROpenRes (w w' : World) (r : Nat) (f : Int) (z : Option Ck.C × Int) (e : Ending) : Prop :=
  Below w.heap.size w w' ∧ match z.1 with
  | some c => ∃ b, w.heap.size ≤ b ∧ e = .returned (.tuple #[.pointer (some ⟨b, 0, none⟩), .int .i64 z.2]) ∧ RCellAt w' b r f c
  | none => e = .returned (.tuple #[.pointer none, .int .i64 z.2])
/-- The new cell's block. -/
structure RBox (w w2 : World) (r b : Nat) (f : Int) (c : Ck.C) : Prop where
  below : Below w.heap.size w w2
  at' : RCellAt w2 b r f c
  new : w.heap.size ≤ b
theorem RBox.made {w w1 : World} {r : Nat} {f : Int} (hb : Below w.heap.size w w1) : RBox w (w1.alloc (.cells #[.pointer (some ⟨r, 0, none⟩), .int .i64 f, .int .i64 0, .string ⟨#[]⟩, .bool false] 72)) r w1.heap.size f ⟨0, [], false⟩ :=
  ⟨hb.alloc hb.size _, heap_alloc_new w1 _, hb.size⟩
theorem RBox.drewN {w w2 : World} {r b : Nat} {f : Int} {c : Ck.C} (h : RBox w w2 r b f c) (n : Nat) : RBox w (w2.drewN n) r b f c :=
  ⟨h.below.trans (Below.mono (below_drewN' w2 n) h.below.size), h.at'.kept (Kept.below (S := fun _ => False) (below_drewN' w2 n)) (fun e => e), h.new⟩
theorem RBox.on {w w2 w3 : World} {r b : Nat} {f : Int} {c : Ck.C} (h : RBox w w2 r b f c) (hb : Below w2.heap.size w2 w3) : RBox w w3 r b f c :=
  ⟨h.below.trans (hb.mono h.below.size), h.at'.kept (Kept.below (S := fun _ => False) hb) (fun e => e), h.new⟩
theorem RBox.slot {w w2 : World} {r b : Nat} {f : Int} {c : Ck.C} (h : RBox w w2 r b f c) (k : Nat) : RBox w (w2.setCell ⟨b, 2, none⟩ (.int .i64 (k : Int))) r b f { c with slot := k } :=
  ⟨h.below.setCell h.new _, cells5_set h.at' 2 _ (by omega), h.new⟩
theorem RBox.val {w w2 : World} {r b : Nat} {f : Int} {c : Ck.C} (h : RBox w w2 r b f c) (v : List UInt8) : RBox w (w2.setCell ⟨b, 3, none⟩ (.string ⟨v.toArray⟩)) r b f { c with val := v } :=
  ⟨h.below.setCell h.new _, cells5_set h.at' 3 _ (by omega), h.new⟩

set_option maxRecDepth 100000 in
theorem ropen_err (r : Nat) (S : Nat → Prop) (X : D) (f : Int) (w : World) (h : RD w r S X) (z : Int) (hr : z ≠ 0) (hX : X.read f 0 5 = ([], z)) :
    Calls Tryd.prog 13 #[.pointer (some ⟨r, 0, none⟩), .int .i64 f] w fun e w' => ROpenRes w w' r f (none, z) e := by
  have q := rd_read f 0 5 (by omega) h
  rw [hX] at q
  dsimp only at q
  have Q := Lib.hid q
  have hrb : (z != 0) = true := by simpa using hr
  clear h q hX hr
  go_enter Tryd.func13, Tryd.ntmps13
  go_wp2_with (go_at_call 29; with_reducible refine Q.out.mono ?_; rintro e w1 ⟨rfl, hb1⟩)
  go_ret2
  exact ⟨hb1, rfl⟩

set_option maxRecDepth 100000 in
theorem ropen_empty (r : Nat) (S : Nat → Prop) (X : D) (f : Int) (w : World) (h : RD w r S X) (hX : X.read f 0 5 = ([], 0)) :
    Calls Tryd.prog 13 #[.pointer (some ⟨r, 0, none⟩), .int .i64 f] w fun e w' => ROpenRes w w' r f (some ⟨0, [], false⟩, 0) e := by
  have q := rd_read f 0 5 (by omega) h
  rw [hX] at q
  dsimp only at q
  have Q := Lib.hid q
  clear h q hX
  go_enter Tryd.func13, Tryd.ntmps13
  go_wp2_with (go_at_call 29; with_reducible refine Q.out.mono ?_; rintro e w1 ⟨rfl, hb1⟩)
  go_ret2
  have B := RBox.made (r := r) (f := f) hb1
  exact ⟨B.below, _, B.new, rfl, B.at'⟩

set_option maxRecDepth 100000 in
theorem ropen_zero (r : Nat) (S : Nat → Prop) (X : D) (f : Int) (w : World) (h : RD w r S X) (H : List UInt8) (hX : X.read f 0 5 = (H, 0)) (hH : H ≠ []) (h0 : bt H 0 = 0) :
    Calls Tryd.prog 13 #[.pointer (some ⟨r, 0, none⟩), .int .i64 f] w fun e w' => ROpenRes w w' r f (some ⟨0, [], false⟩, 0) e := by
  have q := rd_read f 0 5 (by omega) h
  rw [hX] at q
  dsimp only at q
  have Q := Lib.hid q
  obtain ⟨y0, e0, hx0, lo0, hi0⟩ := byte_at H 0 0 rfl (List.length_pos_iff.2 hH)
  rw [h0] at e0
  obtain rfl : y0 = 0 := e0
  have hie : H.isEmpty = false := by simp [hH]
  clear h q hX hH
  go_enter Tryd.func13, Tryd.ntmps13
  go_wp2_with (go_at_call 29; with_reducible refine Q.out.mono ?_; rintro e w1 ⟨rfl, hb1⟩)
  go_ret2
  have B := RBox.made (r := r) (f := f) hb1
  exact ⟨B.below, _, B.new, rfl, B.at'⟩

set_option maxRecDepth 100000 in
theorem ropen_few (r : Nat) (S : Nat → Prop) (X : D) (f : Int) (w : World) (h : RD w r S X) (H : List UInt8) (hX : X.read f 0 5 = (H, 0)) (hH : H ≠ []) (h0 : bt H 0 ≠ 0) (h5 : H.length < 5) :
    Calls Tryd.prog 13 #[.pointer (some ⟨r, 0, none⟩), .int .i64 f] w fun e w' => ROpenRes w w' r f (none, 2) e := by
  have q := rd_read f 0 5 (by omega) h
  rw [hX] at q
  dsimp only at q
  have Q := Lib.hid q
  obtain ⟨y0, e0, hx0, lo0, hi0⟩ := byte_at H 0 0 rfl (List.length_pos_iff.2 hH)
  have hy0 : (y0 == 0) = false := by
    have : (bt H 0).toNat ≠ 0 := fun e => h0 (UInt8.toNat_inj.1 e)
    simp
    omega
  have hie : H.isEmpty = false := by simp [hH]
  have h5' : (H.length : Int) < 5 := by omega
  clear h q hX hH e0 h0
  go_enter Tryd.func13, Tryd.ntmps13
  go_wp2_with (go_at_call 29; with_reducible refine Q.out.mono ?_; rintro e w1 ⟨rfl, hb1⟩)
  go_ret2
  exact ⟨(RBox.made (r := r) (f := f) hb1).below, rfl⟩

set_option maxHeartbeats 1000000 in
set_option maxRecDepth 100000 in
theorem ropen_bad (r : Nat) (S : Nat → Prop) (X : D) (f : Int) (w : World) (h : RD w r S X) (H : List UInt8) (hX : X.read f 0 5 = (H, 0)) (h5 : ¬ H.length < 5) (h0 : bt H 0 ≠ 0) (hc : ((bt H 0).toNat ≠ 1 ∧ (bt H 0).toNat ≠ 2) ∨ 65536 < Ck.hlen H) :
    Calls Tryd.prog 13 #[.pointer (some ⟨r, 0, none⟩), .int .i64 f] w fun e w' => ROpenRes w w' r f (none, 2) e := by
  have q := rd_read f 0 5 (by omega) h
  rw [hX] at q
  dsimp only at q
  have Q := Lib.hid q
  have hie : H.isEmpty = false := by
    cases H with
    | nil => simp at h5
    | cons x t => rfl
  obtain ⟨y0, e0, hx0, lo0, hi0⟩ := byte_at H 0 0 rfl (by omega)
  obtain ⟨y1, e1, hx1, lo1, hi1⟩ := byte_at H 1 1 rfl (by omega)
  obtain ⟨y2, e2, hx2, lo2, hi2⟩ := byte_at H 2 2 rfl (by omega)
  obtain ⟨y3, e3, hx3, lo3, hi3⟩ := byte_at H 3 3 rfl (by omega)
  obtain ⟨y4, e4, hx4, lo4, hi4⟩ := byte_at H 4 4 rfl (by omega)
  have hy0 : (y0 == 0) = false := by
    have : (bt H 0).toNat ≠ 0 := fun e => h0 (UInt8.toNat_inj.1 e)
    simp
    omega
  obtain ⟨m1, hm1⟩ : ∃ m1, y1 + 256 * y2 = m1 := ⟨_, rfl⟩
  obtain ⟨m2, hm2⟩ : ∃ m2, m1 + 65536 * y3 = m2 := ⟨_, rfl⟩
  obtain ⟨m3, hm3⟩ : ∃ m3, m2 + 16777216 * y4 = m3 := ⟨_, rfl⟩
  have hlen : m3 = (Ck.hlen H : Int) := by unfold Ck.hlen; omega
  have bm1 : 0 ≤ m1 ∧ m1 ≤ 65535 := by omega
  have bm2 : 0 ≤ m2 ∧ m2 ≤ 16777215 := by omega
  have bm3 : 0 ≤ m3 ∧ m3 ≤ 4294967295 := by omega
  have h5' : ¬ (H.length : Int) < 5 := by omega
  have hl5 : (5 : Int) ≤ (H.length : Int) := by omega
  have hc' : (y0 ≠ 1 ∧ y0 ≠ 2) ∨ 65536 < m3 := by omega
  clear hc
  clear h q hX e0 e1 e2 e3 e4 h0 hlen h5
  by_cases a1 : y0 = 1
  · subst a1
    have a3 : 65536 < m3 := by omega
    clear hc'
    go_enter Tryd.func13, Tryd.ntmps13
    go_wp2_with (go_at_call 29; with_reducible refine Q.out.mono ?_; rintro e w1 ⟨rfl, hb1⟩)
    go_quiet (fail)
    go_wp2_with fail
    go_ret2
    exact ⟨((RBox.made (r := r) (f := f) hb1).drewN _).below, rfl⟩
  · have a1b : (y0 != 1) = true := by simpa using a1
    by_cases a2 : y0 = 2
    · subst a2
      have a3 : 65536 < m3 := by omega
      clear hc' a1
      go_enter Tryd.func13, Tryd.ntmps13
      go_wp2_with (go_at_call 29; with_reducible refine Q.out.mono ?_; rintro e w1 ⟨rfl, hb1⟩)
      go_quiet (fail)
      go_wp2_with fail
      go_ret2
      exact ⟨((RBox.made (r := r) (f := f) hb1).drewN _).below, rfl⟩
    · have a2b : (y0 != 2) = true := by simpa using a2
      clear hc' a1 a2
      go_enter Tryd.func13, Tryd.ntmps13
      go_wp2_with (go_at_call 29; with_reducible refine Q.out.mono ?_; rintro e w1 ⟨rfl, hb1⟩)
      go_quiet (fail)
      go_wp2_with fail
      go_ret2
      exact ⟨((RBox.made (r := r) (f := f) hb1).drewN _).below, rfl⟩

set_option maxHeartbeats 1000000 in
set_option maxRecDepth 100000 in
theorem ropen_short1 (r : Nat) (S : Nat → Prop) (X : D) (f : Int) (w : World) (h : RD w r S X) (H : List UInt8) (hX : X.read f 0 5 = (H, 0)) (h5 : ¬ H.length < 5) (hk : (bt H 0).toNat = 1) (n : Nat) (hn : Ck.hlen H = n) (hnl : n ≤ 65536) (V : List UInt8) (hV : X.read f (Ck.start 1 : Nat) n = (V, 0)) (hv : V.length ≠ n) :
    Calls Tryd.prog 13 #[.pointer (some ⟨r, 0, none⟩), .int .i64 f] w fun e w' => ROpenRes w w' r f (none, 2) e := by
  have h0 : bt H 0 ≠ 0 := fun e => by rw [e] at hk; revert hk; decide
  have q := rd_read f 0 5 (by omega) h
  rw [hX] at q
  dsimp only at q
  have Q := Lib.hid q
  have hie : H.isEmpty = false := by
    cases H with
    | nil => simp at h5
    | cons x t => rfl
  obtain ⟨y0, e0, hx0, lo0, hi0⟩ := byte_at H 0 0 rfl (by omega)
  obtain ⟨y1, e1, hx1, lo1, hi1⟩ := byte_at H 1 1 rfl (by omega)
  obtain ⟨y2, e2, hx2, lo2, hi2⟩ := byte_at H 2 2 rfl (by omega)
  obtain ⟨y3, e3, hx3, lo3, hi3⟩ := byte_at H 3 3 rfl (by omega)
  obtain ⟨y4, e4, hx4, lo4, hi4⟩ := byte_at H 4 4 rfl (by omega)
  have hy0 : (y0 == 0) = false := by
    have : (bt H 0).toNat ≠ 0 := fun e => h0 (UInt8.toNat_inj.1 e)
    simp
    omega
  obtain ⟨m1, hm1⟩ : ∃ m1, y1 + 256 * y2 = m1 := ⟨_, rfl⟩
  obtain ⟨m2, hm2⟩ : ∃ m2, m1 + 65536 * y3 = m2 := ⟨_, rfl⟩
  obtain ⟨m3, hm3⟩ : ∃ m3, m2 + 16777216 * y4 = m3 := ⟨_, rfl⟩
  have hlen : m3 = (Ck.hlen H : Int) := by unfold Ck.hlen; omega
  have bm1 : 0 ≤ m1 ∧ m1 ≤ 65535 := by omega
  have bm2 : 0 ≤ m2 ∧ m2 ≤ 16777215 := by omega
  have bm3 : 0 ≤ m3 ∧ m3 ≤ 4294967295 := by omega
  have h5' : ¬ (H.length : Int) < 5 := by omega
  have hl5 : (5 : Int) ≤ (H.length : Int) := by omega
  have a0 : y0 = 1 := by omega
  subst a0
  have hm3n : m3 = (n : Int) := by rw [hlen, hn]
  have a3 : ¬ 65536 < (n : Int) := by omega
  subst hm3n
  obtain ⟨a, ha⟩ : ∃ a : Int, a = ((Ck.start 1 : Nat) : Int) := ⟨_, rfl⟩
  have BG := Lib.hid (fun w1 => show Calls Tryd.prog 37 #[.int .i64 1] w1 fun e w2 => e = .returned (.int .i64 a) ∧ w2 = w1 from by
    have := rbegin_c 1 (by omega) w1
    rw [← ha] at this
    exact this)
  have q2 : ∀ b w2, RBox w w2 r b f ⟨1, [], false⟩ → Calls Tryd.prog 29 #[.pointer (some ⟨r, 0, none⟩), .int .i64 f, .int .i64 a, .int .i64 (n : Int)] w2 fun e w' => e = .returned (.tuple #[.string ⟨V.toArray⟩, .int .i64 0]) ∧ (w'.cell? ⟨b, 3, none⟩ = some (.string ⟨#[]⟩) ∧ w'.frozen? ⟨b, 3, none⟩ = false) ∧ Hid (RBox w w' r b f ⟨1, [], false⟩) := fun b w2 B => by
    have := rd_read f a n (by omega) (h.new' B.below)
    rw [ha, hV] at this
    rw [ha]
    refine this.mono ?_
    rintro e w' ⟨he, hb⟩
    have B2 := B.on hb
    exact ⟨he, ⟨B2.at'.c3, B2.at'.z 3⟩, B2⟩
  have Q2 := Lib.hid q2
  have hvn : ((V.length : Int) != (n : Int)) = true := by simp; omega
  clear h q hX e0 e1 e2 e3 e4 h0 hlen h5 q2 ha hV hk hn hv
  go_enter Tryd.func13, Tryd.ntmps13
  go_wp2_with (go_at_call 29; with_reducible refine Q.out.mono ?_; rintro e w1 ⟨rfl, hb1⟩)
  go_quiet (fail)
  go_upto_region 14 with fail
  have B := (RBox.made (r := r) (f := f) hb1).drewN nq
  obtain ⟨W2, hW2⟩ : ∃ W2, (w1.alloc (.cells #[.pointer (some ⟨r, 0, none⟩), .int .i64 f, .int .i64 0, .string ⟨#[]⟩, .bool false] 72)).drewN nq = W2 := ⟨_, rfl⟩
  rw [hW2] at B ⊢
  obtain ⟨b, hb⟩ : ∃ b, w1.heap.size = b := ⟨_, rfl⟩
  rw [hb] at B ⊢
  clear hW2 hb hb1
  have j2 := B.at'.c2
  have z2 := B.at'.z 2
  have B3 : RBox w (W2.setCell ⟨b, 2, none⟩ (.int .i64 1)) r b f ⟨1, [], false⟩ := B.slot 1
  have HB3 := Lib.hid B3
  clear B B3
  go_upto_region 15 with fail
  obtain ⟨W3, hW3⟩ : ∃ W3, W2.setCell ⟨b, 2, none⟩ (.int .i64 1) = W3 := ⟨_, rfl⟩
  rw [hW3] at HB3 ⊢
  clear j2 z2 hW3
  have l2 : W3.cell? ⟨b, 2, none⟩ = some (.int .i64 1) := HB3.out.at'.c2
  go_wp2_with (first | (go_at_call 37; refine (BG.out _).mono ?_; rintro e w4 ⟨rfl, hw⟩; rw [hw]; clear hw) | (go_at_call 29; with_reducible refine (Q2.out _ _ HB3.out).mono ?_; rintro e w4 ⟨rfl, ⟨l3, z3⟩, HB4⟩))
  go_ret2
  exact ⟨((HB4.out).val V).below, rfl⟩

set_option maxHeartbeats 1000000 in
set_option maxRecDepth 100000 in
theorem ropen_short2 (r : Nat) (S : Nat → Prop) (X : D) (f : Int) (w : World) (h : RD w r S X) (H : List UInt8) (hX : X.read f 0 5 = (H, 0)) (h5 : ¬ H.length < 5) (hk : (bt H 0).toNat = 2) (n : Nat) (hn : Ck.hlen H = n) (hnl : n ≤ 65536) (V : List UInt8) (hV : X.read f (Ck.start 2 : Nat) n = (V, 0)) (hv : V.length ≠ n) :
    Calls Tryd.prog 13 #[.pointer (some ⟨r, 0, none⟩), .int .i64 f] w fun e w' => ROpenRes w w' r f (none, 2) e := by
  have h0 : bt H 0 ≠ 0 := fun e => by rw [e] at hk; revert hk; decide
  have q := rd_read f 0 5 (by omega) h
  rw [hX] at q
  dsimp only at q
  have Q := Lib.hid q
  have hie : H.isEmpty = false := by
    cases H with
    | nil => simp at h5
    | cons x t => rfl
  obtain ⟨y0, e0, hx0, lo0, hi0⟩ := byte_at H 0 0 rfl (by omega)
  obtain ⟨y1, e1, hx1, lo1, hi1⟩ := byte_at H 1 1 rfl (by omega)
  obtain ⟨y2, e2, hx2, lo2, hi2⟩ := byte_at H 2 2 rfl (by omega)
  obtain ⟨y3, e3, hx3, lo3, hi3⟩ := byte_at H 3 3 rfl (by omega)
  obtain ⟨y4, e4, hx4, lo4, hi4⟩ := byte_at H 4 4 rfl (by omega)
  have hy0 : (y0 == 0) = false := by
    have : (bt H 0).toNat ≠ 0 := fun e => h0 (UInt8.toNat_inj.1 e)
    simp
    omega
  obtain ⟨m1, hm1⟩ : ∃ m1, y1 + 256 * y2 = m1 := ⟨_, rfl⟩
  obtain ⟨m2, hm2⟩ : ∃ m2, m1 + 65536 * y3 = m2 := ⟨_, rfl⟩
  obtain ⟨m3, hm3⟩ : ∃ m3, m2 + 16777216 * y4 = m3 := ⟨_, rfl⟩
  have hlen : m3 = (Ck.hlen H : Int) := by unfold Ck.hlen; omega
  have bm1 : 0 ≤ m1 ∧ m1 ≤ 65535 := by omega
  have bm2 : 0 ≤ m2 ∧ m2 ≤ 16777215 := by omega
  have bm3 : 0 ≤ m3 ∧ m3 ≤ 4294967295 := by omega
  have h5' : ¬ (H.length : Int) < 5 := by omega
  have hl5 : (5 : Int) ≤ (H.length : Int) := by omega
  have a0 : y0 = 2 := by omega
  subst a0
  have hm3n : m3 = (n : Int) := by rw [hlen, hn]
  have a3 : ¬ 65536 < (n : Int) := by omega
  subst hm3n
  obtain ⟨a, ha⟩ : ∃ a : Int, a = ((Ck.start 2 : Nat) : Int) := ⟨_, rfl⟩
  have BG := Lib.hid (fun w1 => show Calls Tryd.prog 37 #[.int .i64 2] w1 fun e w2 => e = .returned (.int .i64 a) ∧ w2 = w1 from by
    have := rbegin_c 2 (by omega) w1
    rw [← ha] at this
    exact this)
  have q2 : ∀ b w2, RBox w w2 r b f ⟨2, [], false⟩ → Calls Tryd.prog 29 #[.pointer (some ⟨r, 0, none⟩), .int .i64 f, .int .i64 a, .int .i64 (n : Int)] w2 fun e w' => e = .returned (.tuple #[.string ⟨V.toArray⟩, .int .i64 0]) ∧ (w'.cell? ⟨b, 3, none⟩ = some (.string ⟨#[]⟩) ∧ w'.frozen? ⟨b, 3, none⟩ = false) ∧ Hid (RBox w w' r b f ⟨2, [], false⟩) := fun b w2 B => by
    have := rd_read f a n (by omega) (h.new' B.below)
    rw [ha, hV] at this
    rw [ha]
    refine this.mono ?_
    rintro e w' ⟨he, hb⟩
    have B2 := B.on hb
    exact ⟨he, ⟨B2.at'.c3, B2.at'.z 3⟩, B2⟩
  have Q2 := Lib.hid q2
  have hvn : ((V.length : Int) != (n : Int)) = true := by simp; omega
  clear h q hX e0 e1 e2 e3 e4 h0 hlen h5 q2 ha hV hk hn hv
  go_enter Tryd.func13, Tryd.ntmps13
  go_wp2_with (go_at_call 29; with_reducible refine Q.out.mono ?_; rintro e w1 ⟨rfl, hb1⟩)
  go_quiet (fail)
  go_upto_region 14 with fail
  have B := (RBox.made (r := r) (f := f) hb1).drewN nq
  obtain ⟨W2, hW2⟩ : ∃ W2, (w1.alloc (.cells #[.pointer (some ⟨r, 0, none⟩), .int .i64 f, .int .i64 0, .string ⟨#[]⟩, .bool false] 72)).drewN nq = W2 := ⟨_, rfl⟩
  rw [hW2] at B ⊢
  obtain ⟨b, hb⟩ : ∃ b, w1.heap.size = b := ⟨_, rfl⟩
  rw [hb] at B ⊢
  clear hW2 hb hb1
  have j2 := B.at'.c2
  have z2 := B.at'.z 2
  have B3 : RBox w (W2.setCell ⟨b, 2, none⟩ (.int .i64 2)) r b f ⟨2, [], false⟩ := B.slot 2
  have HB3 := Lib.hid B3
  clear B B3
  go_upto_region 15 with fail
  obtain ⟨W3, hW3⟩ : ∃ W3, W2.setCell ⟨b, 2, none⟩ (.int .i64 2) = W3 := ⟨_, rfl⟩
  rw [hW3] at HB3 ⊢
  clear j2 z2 hW3
  have l2 : W3.cell? ⟨b, 2, none⟩ = some (.int .i64 2) := HB3.out.at'.c2
  go_wp2_with (first | (go_at_call 37; refine (BG.out _).mono ?_; rintro e w4 ⟨rfl, hw⟩; rw [hw]; clear hw) | (go_at_call 29; with_reducible refine (Q2.out _ _ HB3.out).mono ?_; rintro e w4 ⟨rfl, ⟨l3, z3⟩, HB4⟩))
  go_ret2
  exact ⟨((HB4.out).val V).below, rfl⟩

set_option maxHeartbeats 1000000 in
set_option maxRecDepth 100000 in
theorem ropen_good1 (r : Nat) (S : Nat → Prop) (X : D) (f : Int) (w : World) (h : RD w r S X) (H : List UInt8) (hX : X.read f 0 5 = (H, 0)) (h5 : ¬ H.length < 5) (hk : (bt H 0).toNat = 1) (n : Nat) (hn : Ck.hlen H = n) (hnl : n ≤ 65536) (V : List UInt8) (hV : X.read f (Ck.start 1 : Nat) n = (V, 0)) (hv : V.length = n) :
    Calls Tryd.prog 13 #[.pointer (some ⟨r, 0, none⟩), .int .i64 f] w fun e w' => ROpenRes w w' r f (some ⟨1, V, false⟩, 0) e := by
  have h0 : bt H 0 ≠ 0 := fun e => by rw [e] at hk; revert hk; decide
  have q := rd_read f 0 5 (by omega) h
  rw [hX] at q
  dsimp only at q
  have Q := Lib.hid q
  have hie : H.isEmpty = false := by
    cases H with
    | nil => simp at h5
    | cons x t => rfl
  obtain ⟨y0, e0, hx0, lo0, hi0⟩ := byte_at H 0 0 rfl (by omega)
  obtain ⟨y1, e1, hx1, lo1, hi1⟩ := byte_at H 1 1 rfl (by omega)
  obtain ⟨y2, e2, hx2, lo2, hi2⟩ := byte_at H 2 2 rfl (by omega)
  obtain ⟨y3, e3, hx3, lo3, hi3⟩ := byte_at H 3 3 rfl (by omega)
  obtain ⟨y4, e4, hx4, lo4, hi4⟩ := byte_at H 4 4 rfl (by omega)
  have hy0 : (y0 == 0) = false := by
    have : (bt H 0).toNat ≠ 0 := fun e => h0 (UInt8.toNat_inj.1 e)
    simp
    omega
  obtain ⟨m1, hm1⟩ : ∃ m1, y1 + 256 * y2 = m1 := ⟨_, rfl⟩
  obtain ⟨m2, hm2⟩ : ∃ m2, m1 + 65536 * y3 = m2 := ⟨_, rfl⟩
  obtain ⟨m3, hm3⟩ : ∃ m3, m2 + 16777216 * y4 = m3 := ⟨_, rfl⟩
  have hlen : m3 = (Ck.hlen H : Int) := by unfold Ck.hlen; omega
  have bm1 : 0 ≤ m1 ∧ m1 ≤ 65535 := by omega
  have bm2 : 0 ≤ m2 ∧ m2 ≤ 16777215 := by omega
  have bm3 : 0 ≤ m3 ∧ m3 ≤ 4294967295 := by omega
  have h5' : ¬ (H.length : Int) < 5 := by omega
  have hl5 : (5 : Int) ≤ (H.length : Int) := by omega
  have a0 : y0 = 1 := by omega
  subst a0
  have hm3n : m3 = (n : Int) := by rw [hlen, hn]
  have a3 : ¬ 65536 < (n : Int) := by omega
  subst hm3n
  obtain ⟨a, ha⟩ : ∃ a : Int, a = ((Ck.start 1 : Nat) : Int) := ⟨_, rfl⟩
  have BG := Lib.hid (fun w1 => show Calls Tryd.prog 37 #[.int .i64 1] w1 fun e w2 => e = .returned (.int .i64 a) ∧ w2 = w1 from by
    have := rbegin_c 1 (by omega) w1
    rw [← ha] at this
    exact this)
  have q2 : ∀ b w2, RBox w w2 r b f ⟨1, [], false⟩ → Calls Tryd.prog 29 #[.pointer (some ⟨r, 0, none⟩), .int .i64 f, .int .i64 a, .int .i64 (n : Int)] w2 fun e w' => e = .returned (.tuple #[.string ⟨V.toArray⟩, .int .i64 0]) ∧ (w'.cell? ⟨b, 3, none⟩ = some (.string ⟨#[]⟩) ∧ w'.frozen? ⟨b, 3, none⟩ = false) ∧ Hid (RBox w w' r b f ⟨1, [], false⟩) := fun b w2 B => by
    have := rd_read f a n (by omega) (h.new' B.below)
    rw [ha, hV] at this
    rw [ha]
    refine this.mono ?_
    rintro e w' ⟨he, hb⟩
    have B2 := B.on hb
    exact ⟨he, ⟨B2.at'.c3, B2.at'.z 3⟩, B2⟩
  have Q2 := Lib.hid q2
  have hvn : ((V.length : Int) != (n : Int)) = false := by simp; omega
  clear h q hX e0 e1 e2 e3 e4 h0 hlen h5 q2 ha hV hk hn hv
  go_enter Tryd.func13, Tryd.ntmps13
  go_wp2_with (go_at_call 29; with_reducible refine Q.out.mono ?_; rintro e w1 ⟨rfl, hb1⟩)
  go_quiet (fail)
  go_upto_region 14 with fail
  have B := (RBox.made (r := r) (f := f) hb1).drewN nq
  obtain ⟨W2, hW2⟩ : ∃ W2, (w1.alloc (.cells #[.pointer (some ⟨r, 0, none⟩), .int .i64 f, .int .i64 0, .string ⟨#[]⟩, .bool false] 72)).drewN nq = W2 := ⟨_, rfl⟩
  rw [hW2] at B ⊢
  obtain ⟨b, hb⟩ : ∃ b, w1.heap.size = b := ⟨_, rfl⟩
  rw [hb] at B ⊢
  clear hW2 hb hb1
  have j2 := B.at'.c2
  have z2 := B.at'.z 2
  have B3 : RBox w (W2.setCell ⟨b, 2, none⟩ (.int .i64 1)) r b f ⟨1, [], false⟩ := B.slot 1
  have HB3 := Lib.hid B3
  clear B B3
  go_upto_region 15 with fail
  obtain ⟨W3, hW3⟩ : ∃ W3, W2.setCell ⟨b, 2, none⟩ (.int .i64 1) = W3 := ⟨_, rfl⟩
  rw [hW3] at HB3 ⊢
  clear j2 z2 hW3
  have l2 : W3.cell? ⟨b, 2, none⟩ = some (.int .i64 1) := HB3.out.at'.c2
  go_wp2_with (first | (go_at_call 37; refine (BG.out _).mono ?_; rintro e w4 ⟨rfl, hw⟩; rw [hw]; clear hw) | (go_at_call 29; with_reducible refine (Q2.out _ _ HB3.out).mono ?_; rintro e w4 ⟨rfl, ⟨l3, z3⟩, HB4⟩))
  go_ret2
  exact ⟨((HB4.out).val V).below, _, ((HB4.out).val V).new, rfl, ((HB4.out).val V).at'⟩

set_option maxHeartbeats 1000000 in
set_option maxRecDepth 100000 in
theorem ropen_good2 (r : Nat) (S : Nat → Prop) (X : D) (f : Int) (w : World) (h : RD w r S X) (H : List UInt8) (hX : X.read f 0 5 = (H, 0)) (h5 : ¬ H.length < 5) (hk : (bt H 0).toNat = 2) (n : Nat) (hn : Ck.hlen H = n) (hnl : n ≤ 65536) (V : List UInt8) (hV : X.read f (Ck.start 2 : Nat) n = (V, 0)) (hv : V.length = n) :
    Calls Tryd.prog 13 #[.pointer (some ⟨r, 0, none⟩), .int .i64 f] w fun e w' => ROpenRes w w' r f (some ⟨2, V, false⟩, 0) e := by
  have h0 : bt H 0 ≠ 0 := fun e => by rw [e] at hk; revert hk; decide
  have q := rd_read f 0 5 (by omega) h
  rw [hX] at q
  dsimp only at q
  have Q := Lib.hid q
  have hie : H.isEmpty = false := by
    cases H with
    | nil => simp at h5
    | cons x t => rfl
  obtain ⟨y0, e0, hx0, lo0, hi0⟩ := byte_at H 0 0 rfl (by omega)
  obtain ⟨y1, e1, hx1, lo1, hi1⟩ := byte_at H 1 1 rfl (by omega)
  obtain ⟨y2, e2, hx2, lo2, hi2⟩ := byte_at H 2 2 rfl (by omega)
  obtain ⟨y3, e3, hx3, lo3, hi3⟩ := byte_at H 3 3 rfl (by omega)
  obtain ⟨y4, e4, hx4, lo4, hi4⟩ := byte_at H 4 4 rfl (by omega)
  have hy0 : (y0 == 0) = false := by
    have : (bt H 0).toNat ≠ 0 := fun e => h0 (UInt8.toNat_inj.1 e)
    simp
    omega
  obtain ⟨m1, hm1⟩ : ∃ m1, y1 + 256 * y2 = m1 := ⟨_, rfl⟩
  obtain ⟨m2, hm2⟩ : ∃ m2, m1 + 65536 * y3 = m2 := ⟨_, rfl⟩
  obtain ⟨m3, hm3⟩ : ∃ m3, m2 + 16777216 * y4 = m3 := ⟨_, rfl⟩
  have hlen : m3 = (Ck.hlen H : Int) := by unfold Ck.hlen; omega
  have bm1 : 0 ≤ m1 ∧ m1 ≤ 65535 := by omega
  have bm2 : 0 ≤ m2 ∧ m2 ≤ 16777215 := by omega
  have bm3 : 0 ≤ m3 ∧ m3 ≤ 4294967295 := by omega
  have h5' : ¬ (H.length : Int) < 5 := by omega
  have hl5 : (5 : Int) ≤ (H.length : Int) := by omega
  have a0 : y0 = 2 := by omega
  subst a0
  have hm3n : m3 = (n : Int) := by rw [hlen, hn]
  have a3 : ¬ 65536 < (n : Int) := by omega
  subst hm3n
  obtain ⟨a, ha⟩ : ∃ a : Int, a = ((Ck.start 2 : Nat) : Int) := ⟨_, rfl⟩
  have BG := Lib.hid (fun w1 => show Calls Tryd.prog 37 #[.int .i64 2] w1 fun e w2 => e = .returned (.int .i64 a) ∧ w2 = w1 from by
    have := rbegin_c 2 (by omega) w1
    rw [← ha] at this
    exact this)
  have q2 : ∀ b w2, RBox w w2 r b f ⟨2, [], false⟩ → Calls Tryd.prog 29 #[.pointer (some ⟨r, 0, none⟩), .int .i64 f, .int .i64 a, .int .i64 (n : Int)] w2 fun e w' => e = .returned (.tuple #[.string ⟨V.toArray⟩, .int .i64 0]) ∧ (w'.cell? ⟨b, 3, none⟩ = some (.string ⟨#[]⟩) ∧ w'.frozen? ⟨b, 3, none⟩ = false) ∧ Hid (RBox w w' r b f ⟨2, [], false⟩) := fun b w2 B => by
    have := rd_read f a n (by omega) (h.new' B.below)
    rw [ha, hV] at this
    rw [ha]
    refine this.mono ?_
    rintro e w' ⟨he, hb⟩
    have B2 := B.on hb
    exact ⟨he, ⟨B2.at'.c3, B2.at'.z 3⟩, B2⟩
  have Q2 := Lib.hid q2
  have hvn : ((V.length : Int) != (n : Int)) = false := by simp; omega
  clear h q hX e0 e1 e2 e3 e4 h0 hlen h5 q2 ha hV hk hn hv
  go_enter Tryd.func13, Tryd.ntmps13
  go_wp2_with (go_at_call 29; with_reducible refine Q.out.mono ?_; rintro e w1 ⟨rfl, hb1⟩)
  go_quiet (fail)
  go_upto_region 14 with fail
  have B := (RBox.made (r := r) (f := f) hb1).drewN nq
  obtain ⟨W2, hW2⟩ : ∃ W2, (w1.alloc (.cells #[.pointer (some ⟨r, 0, none⟩), .int .i64 f, .int .i64 0, .string ⟨#[]⟩, .bool false] 72)).drewN nq = W2 := ⟨_, rfl⟩
  rw [hW2] at B ⊢
  obtain ⟨b, hb⟩ : ∃ b, w1.heap.size = b := ⟨_, rfl⟩
  rw [hb] at B ⊢
  clear hW2 hb hb1
  have j2 := B.at'.c2
  have z2 := B.at'.z 2
  have B3 : RBox w (W2.setCell ⟨b, 2, none⟩ (.int .i64 2)) r b f ⟨2, [], false⟩ := B.slot 2
  have HB3 := Lib.hid B3
  clear B B3
  go_upto_region 15 with fail
  obtain ⟨W3, hW3⟩ : ∃ W3, W2.setCell ⟨b, 2, none⟩ (.int .i64 2) = W3 := ⟨_, rfl⟩
  rw [hW3] at HB3 ⊢
  clear j2 z2 hW3
  have l2 : W3.cell? ⟨b, 2, none⟩ = some (.int .i64 2) := HB3.out.at'.c2
  go_wp2_with (first | (go_at_call 37; refine (BG.out _).mono ?_; rintro e w4 ⟨rfl, hw⟩; rw [hw]; clear hw) | (go_at_call 29; with_reducible refine (Q2.out _ _ HB3.out).mono ?_; rintro e w4 ⟨rfl, ⟨l3, z3⟩, HB4⟩))
  go_ret2
  exact ⟨((HB4.out).val V).below, _, ((HB4.out).val V).new, rfl, ((HB4.out).val V).at'⟩

/-- The reference's Open is what the model says. -/
theorem ropen_c (r : Nat) (S : Nat → Prop) (X : D) (f : Int) (w : World) (h : RD w r S X) :
    Calls Tryd.prog 13 #[.pointer (some ⟨r, 0, none⟩), .int .i64 f] w fun e w' => ROpenRes w w' r f (Ck.openM X f) e := by
  unfold Ck.openM
  cases hd : X.down with
  | true =>
    rw [if_pos rfl]
    exact ropen_err r S X f w h 9 (by omega) (by unfold D.read; rw [hd]; rfl)
  | false =>
    rw [if_neg (by simp)]
    cases ho : ok f with
    | false =>
      rw [if_neg (by simp)]
      exact ropen_err r S X f w h 1 (by omega) (by unfold D.read; rw [hd, ho]; rfl)
    | true =>
      rw [if_pos rfl]
      have hr := read_head X f hd ho 5
      obtain ⟨N, hN⟩ : ∃ N, N = (X.file f.toNat).now := ⟨_, rfl⟩
      rw [← hN] at hr ⊢
      obtain ⟨H, hH⟩ : ∃ H, H = N.take 5 := ⟨_, rfl⟩
      have hb0 : bt N 0 = bt H 0 := by rw [hH, bt_head N 0 (by omega)]
      have hhl : Ck.hlen N = Ck.hlen H := by rw [hH, hlen_head]
      have hlen : H.length = min 5 N.length := by rw [hH]; simp
      have hr' : X.read f 0 5 = (H, 0) := by rw [hH]; exact_mod_cast hr
      unfold Ck.openB
      by_cases hne : H = []
      · have hNe : N = [] := by
          rw [hne] at hlen
          simp only [List.length_nil] at hlen
          exact List.eq_nil_of_length_eq_zero (by omega)
        rw [if_pos (by rw [hNe]; rfl)]
        rw [hne] at hr'
        exact ropen_empty r S X f w h hr'
      · by_cases h0 : bt N 0 = 0
        · rw [if_pos h0]
          exact ropen_zero r S X f w h H hr' hne (hb0.symm.trans h0)
        · rw [if_neg h0]
          have h0' : bt H 0 ≠ 0 := fun e => h0 (hb0.trans e)
          by_cases h5 : N.length < 5
          · rw [if_pos h5]
            exact ropen_few r S X f w h H hr' hne h0' (by omega)
          · rw [if_neg h5, hhl, hb0]
            have h5' : ¬ H.length < 5 := by omega
            have h12 : (bt H 0 ≠ 1 ∧ bt H 0 ≠ 2) ↔ ((bt H 0).toNat ≠ 1 ∧ (bt H 0).toNat ≠ 2) := by
              constructor
              · rintro ⟨e1, e2⟩
                exact ⟨fun e => e1 (UInt8.toNat_inj.1 e), fun e => e2 (UInt8.toNat_inj.1 e)⟩
              · rintro ⟨e1, e2⟩
                exact ⟨fun e => e1 (by rw [e]; rfl), fun e => e2 (by rw [e]; rfl)⟩
            by_cases hc : (bt H 0 ≠ 1 ∧ bt H 0 ≠ 2) ∨ 65536 < Ck.hlen H
            · rw [if_pos hc]
              exact ropen_bad r S X f w h H hr' h5' h0' (hc.imp h12.1 id)
            · rw [if_neg hc]
              have hn : Ck.hlen H ≤ 65536 := Nat.not_lt.1 (fun e => hc (Or.inr e))
              have hk : (bt H 0).toNat = 1 ∨ (bt H 0).toNat = 2 := by
                by_cases e1 : (bt H 0).toNat = 1
                · exact Or.inl e1
                · by_cases e2 : (bt H 0).toNat = 2
                  · exact Or.inr e2
                  · exact absurd (Or.inl (h12.2 ⟨e1, e2⟩)) hc
              have hV := read_at X f hd ho (Ck.start (bt H 0).toNat) (Ck.hlen H)
              rw [← hN] at hV
              by_cases hv : ((N.drop (Ck.start (bt H 0).toNat)).take (Ck.hlen H)).length ≠ Ck.hlen H
              · rw [if_pos hv]
                rcases hk with hk | hk
                · rw [hk] at hV hv
                  exact ropen_short1 r S X f w h H hr' h5' hk _ rfl hn _ hV hv
                · rw [hk] at hV hv
                  exact ropen_short2 r S X f w h H hr' h5' hk _ rfl hn _ hV hv
              · rw [if_neg hv]
                have hv' := Classical.not_not.1 hv
                rcases hk with hk | hk
                · rw [hk] at hV hv' ⊢
                  exact ropen_good1 r S X f w h H hr' h5' hk _ rfl hn _ hV hv'
                · rw [hk] at hV hv' ⊢
                  exact ropen_good2 r S X f w h H hr' h5' hk _ rfl hn _ hV hv'
end Go.Proofs.YtninopllfbiccaaDoor
