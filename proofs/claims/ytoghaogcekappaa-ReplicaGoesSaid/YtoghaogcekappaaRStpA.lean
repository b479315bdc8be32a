/-
  An operation of the law on the cluster: the plain ones.
-/
import Derived.Test.YtoghaogcekappaaRArr
namespace Go.Proofs.Ytoghaogcekappaa
set_option maxRecDepth 100000
open Go Go.RowKit Rp

def opV8 (o : Op8) : Value := .agg #[.int .i64 o.k, .int .i64 o.n, .int .i64 o.q, .string ⟨o.s.toArray⟩]
theorem i64_and_low (n : Int) (m : Nat) (hm : m < 62) : bits .and .i64 n (2 ^ m - 1 : Nat) = n % (2 ^ m : Nat) := by
  have hp : (2 : Nat) ^ m ≤ 2 ^ 61 := Nat.pow_le_pow_right (by decide) (by omega)
  have hp0 : 0 < (2 : Nat) ^ m := Nat.two_pow_pos m
  have h127 : (BitVec.ofInt 64 ((2 ^ m - 1 : Nat) : Int)).toNat = 2 ^ m - 1 := by
    rw [BitVec.toNat_ofInt, Int.emod_eq_of_lt (by omega) (by simp only [Nat.reducePow] at hp ⊢; omega)]
    omega
  have key : (BitVec.ofInt 64 n &&& BitVec.ofInt 64 ((2 ^ m - 1 : Nat) : Int)).toNat = (n % ((2 ^ 64 : Nat) : Int)).toNat % 2 ^ m := by
    rw [BitVec.toNat_and, BitVec.toNat_ofInt, h127, Nat.and_two_pow_sub_one_eq_mod]
  show IntKind.i64.wrap ((BitVec.ofInt 64 n &&& BitVec.ofInt 64 ((2 ^ m - 1 : Nat) : Int)).toNat : Nat) = n % (2 ^ m : Nat)
  rw [key, IntKind.wrap_i64]
  have h1 : (n % ((2 ^ 64 : Nat) : Int)) % ((2 ^ m : Nat) : Int) = n % ((2 ^ m : Nat) : Int) := Int.emod_emod_of_dvd n (by exact_mod_cast Nat.pow_dvd_pow 2 (by omega))
  have h2 : 0 ≤ n % ((2 ^ 64 : Nat) : Int) := Int.emod_nonneg _ (by decide)
  have h3 : (((n % ((2 ^ 64 : Nat) : Int)).toNat % 2 ^ m : Nat) : Int) = n % ((2 ^ m : Nat) : Int) := by
    rw [← h1, Int.natCast_emod, Int.toNat_of_nonneg h2]
  rw [h3]
  have h7 : (0 : Int) < ((2 ^ m : Nat) : Int) := by exact_mod_cast hp0
  have h4 : n % ((2 ^ m : Nat) : Int) < ((2 ^ m : Nat) : Int) := Int.emod_lt_of_pos _ h7
  have h5 : 0 ≤ n % ((2 ^ m : Nat) : Int) := Int.emod_nonneg _ (by omega)
  have h6 : ((2 ^ m : Nat) : Int) ≤ ((2 ^ 61 : Nat) : Int) := by exact_mod_cast hp
  generalize ((2 ^ m : Nat) : Int) = q at *
  generalize n % q = r at *
  simp only [Nat.reducePow] at h6
  omega
theorem i64_and1 (n : Int) : bits .and .i64 n 1 = n % 2 := i64_and_low n 1 (by decide)
theorem i64_and15 (n : Int) : bits .and .i64 n 15 = n % 16 := i64_and_low n 4 (by decide)
/-- A replica ticks; what is to be done with the result. -/
theorem tick_k {w : World} {b : Nat} {t : Nat → Nat} {x : Cl} {m : CM} (h : CluIs w b t x m) (hn : Nice x) {k : Nat} (hk : k < 3) {x' : Cl} (hx : doneC x k (tickR (x.r k)).1 (tickR (x.r k)).2 = some x') :
    Calls Try.prog 15 #[.pointer (some ⟨m.p k, 0, none⟩)] w fun e w' => ∃ (xs : Bool) (xt xv xf : Int) (xa : Option Addr) (xn xc : Nat) (ya : Option Addr) (yn yc : Nat), e = .returned (.agg #[.bool xs, .int .i64 xt, .int .i64 xv, .int .i64 xf, .slice xa xn xc, .slice ya yn yc]) ∧
      Hid (∀ W, Below w'.heap.size w' W → Calls Try.prog 28 #[.pointer (some ⟨b, 0, none⟩), .int .i64 k, .agg #[.bool xs, .int .i64 xt, .int .i64 xv, .int .i64 xf, .slice xa xn xc, .slice ya yn yc]] W fun e w2 => e = .returned (.bool true) ∧ Hid (Moved w w2 b t x')) := by
  have hi : isId (k : Int) := by unfold isId; omega
  refine (tick_c (h.rep k hk)).mono (fun e w' hh => ?_)
  obtain ⟨xs, xt, xv, xf, xa, xn, xc, ya, yn, yc, rfl, hd⟩ := hh
  obtain ⟨t', m', _, _, _, q4⟩ := h.call hk hd.out (hn.tick hi) hn.len hx
  exact ⟨xs, xt, xv, xf, xa, xn, xc, ya, yn, yc, rfl, Lib.hid q4⟩
set_option maxHeartbeats 1000000 in
theorem step_keep {w : World} {b : Nat} {t : Nat → Nat} {x : Cl} {m : CM} (h : CluIs w b t x m) (hn : Nice x) (o : Op8) (hf : Fit8 o) (hq : o.k % 16 = 9) {x' : Cl} (hx : arriveC x (pickN o.q x.sent) true = some x') :
    Calls Try.prog 26 #[.pointer (some ⟨b, 0, none⟩), opV8 o] w fun e w' => e = .returned (.bool true) ∧ Hid (Moved w w' b t x') := by
  obtain ⟨W1, hW1⟩ : ∃ W1, W1 = w.alloc (.cells #[.int .i64 o.k, .int .i64 o.n, .int .i64 o.q, .string ⟨o.s.toArray⟩] 37) := ⟨_, rfl⟩
  have hb1 : Below w.heap.size w W1 := by rw [hW1]; exact below_new w _
  have hx1 : W1.heap[w.heap.size]? = some (.cells #[.int .i64 o.k, .int .i64 o.n, .int .i64 o.q, .string ⟨o.s.toArray⟩] 37 (0, 0)) := by rw [hW1]; exact box_new w _
  have p0 : W1.cell? ⟨w.heap.size, 0, none⟩ = some (.int .i64 o.k) := by rw [Lib.cell_of_heap hx1]; rfl
  have p1 : W1.cell? ⟨w.heap.size, 1, none⟩ = some (.int .i64 o.n) := by rw [Lib.cell_of_heap hx1]; rfl
  have p2 : W1.cell? ⟨w.heap.size, 2, none⟩ = some (.int .i64 o.q) := by rw [Lib.cell_of_heap hx1]; rfl
  have p3 : W1.cell? ⟨w.heap.size, 3, none⟩ = some (.string ⟨o.s.toArray⟩) := by rw [Lib.cell_of_heap hx1]; rfl
  obtain ⟨i, hi, hie⟩ : ∃ i : Nat, i < 3 ∧ o.n % 3 = (i : Int) := ⟨(o.n % 3).toNat, by omega, by omega⟩
  have QP := Lib.hid (fun (W : World) => (show Calls Try.prog 48 #[.int .i64 o.n, .int .i64 3] W fun e w' => e = .returned (.int .i64 (i : Int)) ∧ w' = W from by
    have e : pickI o.n 3 = (i : Int) := by unfold pickI; rw [if_neg (by decide)]; exact hie
    rw [← e]
    exact pick_c o.n 3 hf.n (by decide) W))
  have hi3 : (i : Int) < 3 := by omega
  have h1 := h.on hb1
  have hc := h1.c hi
  have HB1 := Lib.hid hb1
  have hb : bits .and .i64 o.k 15 = 9 := (i64_and15 _).trans hq
  have QA := Lib.hid (arrive_c h1 hn o.q hf.t true hx)
  clear hq h1 hc hb1 hx1 hf hn hx h hie
  unfold opV8
  go_enter Try.func26, Try.ntmps26
  go_upto_region 1 with fail
  rw [← hW1]
  clear hW1
  go_wp2_with (first | ((with_reducible refine (QP.out _).mono ?_); rintro e w5 ⟨rfl, hw⟩; rw [hw]; clear hw) | ((with_reducible refine QA.out.mono ?_); rintro e w6 ⟨rfl, HM⟩))
  go_ret
  exact ⟨rfl, Lib.hid (Moved.trans (t1 := t) (Kept.below HB1.out) (fun _ _ => rfl) HM.out)⟩
set_option maxHeartbeats 1000000 in
theorem step_else {w : World} {b : Nat} {t : Nat → Nat} {x : Cl} {m : CM} (h : CluIs w b t x m) (hn : Nice x) (o : Op8) (hf : Fit8 o) (hq : o.k % 16 ≠ 8 ∧ o.k % 16 ≠ 9 ∧ o.k % 16 ≠ 10 ∧ o.k % 16 ≠ 11 ∧ o.k % 16 ≠ 12 ∧ o.k % 16 ≠ 13 ∧ o.k % 16 ≠ 14 ∧ o.k % 16 ≠ 15) {x' : Cl} (hx : arriveC x (pickN o.q x.sent) false = some x') :
    Calls Try.prog 26 #[.pointer (some ⟨b, 0, none⟩), opV8 o] w fun e w' => e = .returned (.bool true) ∧ Hid (Moved w w' b t x') := by
  obtain ⟨W1, hW1⟩ : ∃ W1, W1 = w.alloc (.cells #[.int .i64 o.k, .int .i64 o.n, .int .i64 o.q, .string ⟨o.s.toArray⟩] 37) := ⟨_, rfl⟩
  have hb1 : Below w.heap.size w W1 := by rw [hW1]; exact below_new w _
  have hx1 : W1.heap[w.heap.size]? = some (.cells #[.int .i64 o.k, .int .i64 o.n, .int .i64 o.q, .string ⟨o.s.toArray⟩] 37 (0, 0)) := by rw [hW1]; exact box_new w _
  have p0 : W1.cell? ⟨w.heap.size, 0, none⟩ = some (.int .i64 o.k) := by rw [Lib.cell_of_heap hx1]; rfl
  have p1 : W1.cell? ⟨w.heap.size, 1, none⟩ = some (.int .i64 o.n) := by rw [Lib.cell_of_heap hx1]; rfl
  have p2 : W1.cell? ⟨w.heap.size, 2, none⟩ = some (.int .i64 o.q) := by rw [Lib.cell_of_heap hx1]; rfl
  have p3 : W1.cell? ⟨w.heap.size, 3, none⟩ = some (.string ⟨o.s.toArray⟩) := by rw [Lib.cell_of_heap hx1]; rfl
  obtain ⟨i, hi, hie⟩ : ∃ i : Nat, i < 3 ∧ o.n % 3 = (i : Int) := ⟨(o.n % 3).toNat, by omega, by omega⟩
  have QP := Lib.hid (fun (W : World) => (show Calls Try.prog 48 #[.int .i64 o.n, .int .i64 3] W fun e w' => e = .returned (.int .i64 (i : Int)) ∧ w' = W from by
    have e : pickI o.n 3 = (i : Int) := by unfold pickI; rw [if_neg (by decide)]; exact hie
    rw [← e]
    exact pick_c o.n 3 hf.n (by decide) W))
  have hi3 : (i : Int) < 3 := by omega
  have h1 := h.on hb1
  have hc := h1.c hi
  have HB1 := Lib.hid hb1
  obtain ⟨q, hqe⟩ : ∃ q, bits .and .i64 o.k 15 = q := ⟨_, rfl⟩
  have hqq : q = o.k % 16 := by rw [← hqe]; exact i64_and15 _
  rw [← hqq] at hq
  have n8 : (q == 8) = false := by simp; omega
  have n9 : (q == 9) = false := by simp; omega
  have n10 : (q == 10) = false := by simp; omega
  have n11 : (q == 11) = false := by simp; omega
  have n12 : (q == 12) = false := by simp; omega
  have n13 : (q == 13) = false := by simp; omega
  have n14 : (q == 14) = false := by simp; omega
  have n15 : (q == 15) = false := by simp; omega
  have QA := Lib.hid (arrive_c h1 hn o.q hf.t false hx)
  clear hq hqq h1 hc hb1 hx1 hf hn hx h hie
  unfold opV8
  go_enter Try.func26, Try.ntmps26
  go_upto_region 1 with fail
  rw [← hW1]
  clear hW1
  go_wp2_with (first | ((with_reducible refine (QP.out _).mono ?_); rintro e w5 ⟨rfl, hw⟩; rw [hw]; clear hw) | ((with_reducible refine QA.out.mono ?_); rintro e w6 ⟨rfl, HM⟩))
  go_ret
  exact ⟨rfl, Lib.hid (Moved.trans (t1 := t) (Kept.below HB1.out) (fun _ _ => rfl) HM.out)⟩
set_option maxHeartbeats 1000000 in
theorem step_tick10 {w : World} {b : Nat} {t : Nat → Nat} {x : Cl} {m : CM} (h : CluIs w b t x m) (hn : Nice x) (o : Op8) (hf : Fit8 o) (hq : o.k % 16 = 10) {x' : Cl} (hx : doneC x (o.n % 3) (tickR (x.r (o.n % 3))).1 (tickR (x.r (o.n % 3))).2 = some x') :
    Calls Try.prog 26 #[.pointer (some ⟨b, 0, none⟩), opV8 o] w fun e w' => e = .returned (.bool true) ∧ Hid (Moved w w' b t x') := by
  obtain ⟨W1, hW1⟩ : ∃ W1, W1 = w.alloc (.cells #[.int .i64 o.k, .int .i64 o.n, .int .i64 o.q, .string ⟨o.s.toArray⟩] 37) := ⟨_, rfl⟩
  have hb1 : Below w.heap.size w W1 := by rw [hW1]; exact below_new w _
  have hx1 : W1.heap[w.heap.size]? = some (.cells #[.int .i64 o.k, .int .i64 o.n, .int .i64 o.q, .string ⟨o.s.toArray⟩] 37 (0, 0)) := by rw [hW1]; exact box_new w _
  have p0 : W1.cell? ⟨w.heap.size, 0, none⟩ = some (.int .i64 o.k) := by rw [Lib.cell_of_heap hx1]; rfl
  have p1 : W1.cell? ⟨w.heap.size, 1, none⟩ = some (.int .i64 o.n) := by rw [Lib.cell_of_heap hx1]; rfl
  have p2 : W1.cell? ⟨w.heap.size, 2, none⟩ = some (.int .i64 o.q) := by rw [Lib.cell_of_heap hx1]; rfl
  have p3 : W1.cell? ⟨w.heap.size, 3, none⟩ = some (.string ⟨o.s.toArray⟩) := by rw [Lib.cell_of_heap hx1]; rfl
  obtain ⟨i, hi, hie⟩ : ∃ i : Nat, i < 3 ∧ o.n % 3 = (i : Int) := ⟨(o.n % 3).toNat, by omega, by omega⟩
  have QP := Lib.hid (fun (W : World) => (show Calls Try.prog 48 #[.int .i64 o.n, .int .i64 3] W fun e w' => e = .returned (.int .i64 (i : Int)) ∧ w' = W from by
    have e : pickI o.n 3 = (i : Int) := by unfold pickI; rw [if_neg (by decide)]; exact hie
    rw [← e]
    exact pick_c o.n 3 hf.n (by decide) W))
  have hi3 : (i : Int) < 3 := by omega
  have h1 := h.on hb1
  have hc := h1.c hi
  have HB1 := Lib.hid hb1
  have hb : bits .and .i64 o.k 15 = 10 := (i64_and15 _).trans hq
  rw [hie] at hx
  have QA := Lib.hid (tick_k h1 hn hi hx)
  have x0 := hc.x0
  have xr := hc.r
  clear hq h1 hc hb1 hx1 hf hn hx h hie
  unfold opV8
  go_enter Try.func26, Try.ntmps26
  go_upto_region 1 with fail
  rw [← hW1]
  clear hW1
  go_wp2_with (first | ((with_reducible refine (QP.out _).mono ?_); rintro e w5 ⟨rfl, hw⟩; rw [hw]; clear hw) | ((with_reducible refine QA.out.mono ?_); rintro e w6 ⟨xs, xt, xv, xf, xa, xn, xc, ya, yn, yc, rfl, QD⟩) | ((with_reducible refine (QD.out _ (Below.refl _ _)).mono ?_); rintro e w9 ⟨rfl, HM⟩))
  go_ret
  exact ⟨rfl, Lib.hid (Moved.trans (t1 := t) (Kept.below HB1.out) (fun _ _ => rfl) HM.out)⟩
set_option maxHeartbeats 1000000 in
theorem step_tick11 {w : World} {b : Nat} {t : Nat → Nat} {x : Cl} {m : CM} (h : CluIs w b t x m) (hn : Nice x) (o : Op8) (hf : Fit8 o) (hq : o.k % 16 = 11) {x' : Cl} (hx : doneC x (o.n % 3) (tickR (x.r (o.n % 3))).1 (tickR (x.r (o.n % 3))).2 = some x') :
    Calls Try.prog 26 #[.pointer (some ⟨b, 0, none⟩), opV8 o] w fun e w' => e = .returned (.bool true) ∧ Hid (Moved w w' b t x') := by
  obtain ⟨W1, hW1⟩ : ∃ W1, W1 = w.alloc (.cells #[.int .i64 o.k, .int .i64 o.n, .int .i64 o.q, .string ⟨o.s.toArray⟩] 37) := ⟨_, rfl⟩
  have hb1 : Below w.heap.size w W1 := by rw [hW1]; exact below_new w _
  have hx1 : W1.heap[w.heap.size]? = some (.cells #[.int .i64 o.k, .int .i64 o.n, .int .i64 o.q, .string ⟨o.s.toArray⟩] 37 (0, 0)) := by rw [hW1]; exact box_new w _
  have p0 : W1.cell? ⟨w.heap.size, 0, none⟩ = some (.int .i64 o.k) := by rw [Lib.cell_of_heap hx1]; rfl
  have p1 : W1.cell? ⟨w.heap.size, 1, none⟩ = some (.int .i64 o.n) := by rw [Lib.cell_of_heap hx1]; rfl
  have p2 : W1.cell? ⟨w.heap.size, 2, none⟩ = some (.int .i64 o.q) := by rw [Lib.cell_of_heap hx1]; rfl
  have p3 : W1.cell? ⟨w.heap.size, 3, none⟩ = some (.string ⟨o.s.toArray⟩) := by rw [Lib.cell_of_heap hx1]; rfl
  obtain ⟨i, hi, hie⟩ : ∃ i : Nat, i < 3 ∧ o.n % 3 = (i : Int) := ⟨(o.n % 3).toNat, by omega, by omega⟩
  have QP := Lib.hid (fun (W : World) => (show Calls Try.prog 48 #[.int .i64 o.n, .int .i64 3] W fun e w' => e = .returned (.int .i64 (i : Int)) ∧ w' = W from by
    have e : pickI o.n 3 = (i : Int) := by unfold pickI; rw [if_neg (by decide)]; exact hie
    rw [← e]
    exact pick_c o.n 3 hf.n (by decide) W))
  have hi3 : (i : Int) < 3 := by omega
  have h1 := h.on hb1
  have hc := h1.c hi
  have HB1 := Lib.hid hb1
  have hb : bits .and .i64 o.k 15 = 11 := (i64_and15 _).trans hq
  rw [hie] at hx
  have QA := Lib.hid (tick_k h1 hn hi hx)
  have x0 := hc.x0
  have xr := hc.r
  clear hq h1 hc hb1 hx1 hf hn hx h hie
  unfold opV8
  go_enter Try.func26, Try.ntmps26
  go_upto_region 1 with fail
  rw [← hW1]
  clear hW1
  go_wp2_with (first | ((with_reducible refine (QP.out _).mono ?_); rintro e w5 ⟨rfl, hw⟩; rw [hw]; clear hw) | ((with_reducible refine QA.out.mono ?_); rintro e w6 ⟨xs, xt, xv, xf, xa, xn, xc, ya, yn, yc, rfl, QD⟩) | ((with_reducible refine (QD.out _ (Below.refl _ _)).mono ?_); rintro e w9 ⟨rfl, HM⟩))
  go_ret
  exact ⟨rfl, Lib.hid (Moved.trans (t1 := t) (Kept.below HB1.out) (fun _ _ => rfl) HM.out)⟩
set_option maxHeartbeats 1000000 in
theorem step_start {w : World} {b : Nat} {t : Nat → Nat} {x : Cl} {m : CM} (h : CluIs w b t x m) (hn : Nice x) (o : Op8) (hf : Fit8 o) (hq : o.k % 16 = 14) {x' : Cl} (hx : startC x (o.n % 3) = some x') :
    Calls Try.prog 26 #[.pointer (some ⟨b, 0, none⟩), opV8 o] w fun e w' => e = .returned (.bool true) ∧ Hid (Moved w w' b t x') := by
  obtain ⟨W1, hW1⟩ : ∃ W1, W1 = w.alloc (.cells #[.int .i64 o.k, .int .i64 o.n, .int .i64 o.q, .string ⟨o.s.toArray⟩] 37) := ⟨_, rfl⟩
  have hb1 : Below w.heap.size w W1 := by rw [hW1]; exact below_new w _
  have hx1 : W1.heap[w.heap.size]? = some (.cells #[.int .i64 o.k, .int .i64 o.n, .int .i64 o.q, .string ⟨o.s.toArray⟩] 37 (0, 0)) := by rw [hW1]; exact box_new w _
  have p0 : W1.cell? ⟨w.heap.size, 0, none⟩ = some (.int .i64 o.k) := by rw [Lib.cell_of_heap hx1]; rfl
  have p1 : W1.cell? ⟨w.heap.size, 1, none⟩ = some (.int .i64 o.n) := by rw [Lib.cell_of_heap hx1]; rfl
  have p2 : W1.cell? ⟨w.heap.size, 2, none⟩ = some (.int .i64 o.q) := by rw [Lib.cell_of_heap hx1]; rfl
  have p3 : W1.cell? ⟨w.heap.size, 3, none⟩ = some (.string ⟨o.s.toArray⟩) := by rw [Lib.cell_of_heap hx1]; rfl
  obtain ⟨i, hi, hie⟩ : ∃ i : Nat, i < 3 ∧ o.n % 3 = (i : Int) := ⟨(o.n % 3).toNat, by omega, by omega⟩
  have QP := Lib.hid (fun (W : World) => (show Calls Try.prog 48 #[.int .i64 o.n, .int .i64 3] W fun e w' => e = .returned (.int .i64 (i : Int)) ∧ w' = W from by
    have e : pickI o.n 3 = (i : Int) := by unfold pickI; rw [if_neg (by decide)]; exact hie
    rw [← e]
    exact pick_c o.n 3 hf.n (by decide) W))
  have hi3 : (i : Int) < 3 := by omega
  have h1 := h.on hb1
  have hc := h1.c hi
  have HB1 := Lib.hid hb1
  have hb : bits .and .i64 o.k 15 = 14 := (i64_and15 _).trans hq
  rw [hie] at hx
  have QA := Lib.hid (start_any h1 hi (hn.sm (by unfold isId; omega)) hx)
  clear hq h1 hc hb1 hx1 hf hn hx h hie
  unfold opV8
  go_enter Try.func26, Try.ntmps26
  go_upto_region 1 with fail
  rw [← hW1]
  clear hW1
  go_wp2_with (first | ((with_reducible refine (QP.out _).mono ?_); rintro e w5 ⟨rfl, hw⟩; rw [hw]; clear hw) | ((with_reducible refine QA.out.mono ?_); rintro e w6 ⟨rfl, HM⟩))
  go_ret
  exact ⟨rfl, Lib.hid (Moved.trans (t1 := t) (Kept.below HB1.out) (fun _ _ => rfl) HM.out)⟩
set_option maxHeartbeats 1000000 in
theorem step_stop {w : World} {b : Nat} {t : Nat → Nat} {x : Cl} {m : CM} (h : CluIs w b t x m) (o : Op8) (hf : Fit8 o) (hq : o.k % 16 = 15) {x' : Cl} (hx : x' = { x with st := upd x.st (o.n % 3) (1 + o.q % 2) }) :
    Calls Try.prog 26 #[.pointer (some ⟨b, 0, none⟩), opV8 o] w fun e w' => e = .returned (.bool true) ∧ Hid (Moved w w' b t x') := by
  obtain ⟨W1, hW1⟩ : ∃ W1, W1 = w.alloc (.cells #[.int .i64 o.k, .int .i64 o.n, .int .i64 o.q, .string ⟨o.s.toArray⟩] 37) := ⟨_, rfl⟩
  have hb1 : Below w.heap.size w W1 := by rw [hW1]; exact below_new w _
  have hx1 : W1.heap[w.heap.size]? = some (.cells #[.int .i64 o.k, .int .i64 o.n, .int .i64 o.q, .string ⟨o.s.toArray⟩] 37 (0, 0)) := by rw [hW1]; exact box_new w _
  have p0 : W1.cell? ⟨w.heap.size, 0, none⟩ = some (.int .i64 o.k) := by rw [Lib.cell_of_heap hx1]; rfl
  have p1 : W1.cell? ⟨w.heap.size, 1, none⟩ = some (.int .i64 o.n) := by rw [Lib.cell_of_heap hx1]; rfl
  have p2 : W1.cell? ⟨w.heap.size, 2, none⟩ = some (.int .i64 o.q) := by rw [Lib.cell_of_heap hx1]; rfl
  have p3 : W1.cell? ⟨w.heap.size, 3, none⟩ = some (.string ⟨o.s.toArray⟩) := by rw [Lib.cell_of_heap hx1]; rfl
  obtain ⟨i, hi, hie⟩ : ∃ i : Nat, i < 3 ∧ o.n % 3 = (i : Int) := ⟨(o.n % 3).toNat, by omega, by omega⟩
  have QP := Lib.hid (fun (W : World) => (show Calls Try.prog 48 #[.int .i64 o.n, .int .i64 3] W fun e w' => e = .returned (.int .i64 (i : Int)) ∧ w' = W from by
    have e : pickI o.n 3 = (i : Int) := by unfold pickI; rw [if_neg (by decide)]; exact hie
    rw [← e]
    exact pick_c o.n 3 hf.n (by decide) W))
  have hi3 : (i : Int) < 3 := by omega
  have h1 := h.on hb1
  have hc := h1.c hi
  have HB1 := Lib.hid hb1
  have hb : bits .and .i64 o.k 15 = 15 := (i64_and15 _).trans hq
  obtain ⟨z, hz⟩ : ∃ z, o.q % 2 = z := ⟨_, rfl⟩
  have hz2 : 0 ≤ z ∧ z ≤ 1 := by omega
  have hzb : bits .and .i64 o.q 1 = z := (i64_and1 _).trans hz
  have hzw : IntKind.i64.wrap (1 + z) = 1 + z := IntWalk.i64_in _ (by omega)
  rw [hie, hz] at hx
  have HXE := Lib.hid hx
  have x1 := hc.x1
  have s3 := hc.s3
  have fs := hc.fs
  have H1 := Lib.hid h1
  have HI := Lib.hid hi
  clear hq h1 hc hb1 hx1 hf hx h hie hz hz2 hi
  unfold opV8
  go_enter Try.func26, Try.ntmps26
  go_upto_region 1 with fail
  rw [← hW1]
  clear hW1
  go_wp2_with ((with_reducible refine (QP.out _).mono ?_); rintro e w5 ⟨rfl, hw⟩; rw [hw]; clear hw)
  go_region
  all_goals
    go_wp2_with fail
    go_ret
    exact ⟨rfl, by rw [HXE.out]; exact Lib.hid ⟨t, _, fun _ _ => rfl, (H1.out.stopped HI.out (1 + z)).on (below_drew (Below.refl _ _)), (Kept.below HB1.out).trans ((Kept.set m.sb _ W1 _).trans (Kept.drew (fun _ => False) _) (fun _ _ e => e.elim)) (fun j _ e => by rw [e, H1.out.ts]; decide)⟩⟩
end Go.Proofs.Ytoghaogcekappaa
