/-
  The law's operations on a network.
-/
import Derived.Test.YtedpkjlhcpjblaaNHold
namespace Go.Proofs.Ytedpkjlhcpjblaa
set_option maxRecDepth 100000
open Go Go.RowKit Nt

def OpBox (w : World) (b : Nat) (x : Op7) : Prop := w.heap[b]? = some (.cells #[.int .i64 x.k, .int .i64 x.n, .int .i64 x.to, .string ⟨x.s.toArray⟩] 38 (0, 0))
theorem OpBox.c0 {w : World} {b : Nat} {x : Op7} (h : OpBox w b x) : w.cell? ⟨b, 0, none⟩ = some (.int .i64 x.k) := by rw [Lib.cell_of_heap h]; rfl
theorem OpBox.c1 {w : World} {b : Nat} {x : Op7} (h : OpBox w b x) : w.cell? ⟨b, 1, none⟩ = some (.int .i64 x.n) := by rw [Lib.cell_of_heap h]; rfl
theorem OpBox.c2 {w : World} {b : Nat} {x : Op7} (h : OpBox w b x) : w.cell? ⟨b, 2, none⟩ = some (.int .i64 x.to) := by rw [Lib.cell_of_heap h]; rfl
theorem OpBox.c3 {w : World} {b : Nat} {x : Op7} (h : OpBox w b x) : w.cell? ⟨b, 3, none⟩ = some (.string ⟨x.s.toArray⟩) := by rw [Lib.cell_of_heap h]; rfl
theorem OpBox.new (w : World) (x : Op7) : OpBox (w.alloc (.cells #[.int .i64 x.k, .int .i64 x.n, .int .i64 x.to, .string ⟨x.s.toArray⟩] 38)) w.heap.size x := heap_alloc_new w _
theorem OpBox.kept {w w' : World} {S : Nat → Prop} {b : Nat} {x : Op7} (h : OpBox w b x) (hk : Kept S w w') (hn : ¬ S b) : OpBox w' b x := hk.heap h hn
theorem OpBox.lt {w : World} {b : Nat} {x : Op7} (h : OpBox w b x) : b < w.heap.size := (Array.getElem?_eq_some_iff.1 h).1
theorem Held.op {F : Nat → Prop} {w w' : World} (h : Held F w w') {b : Nat} {x : Op7} (hp : OpBox w b x) (hb : F b) : OpBox w' b x := hp.kept h (fun e => e hb)


set_option maxHeartbeats 1000000 in
theorem do_deliver {w0 w : World} {b : Nat} {n n' : N} {F : Nat → Prop} (h : NF w0 w b n F) (x : Op7) {p : Pk} {z : Int} (hk : x.k % 8 = 3) (e : deliver n x.n = (n', p, z)) : Calls Try.prog 12 #[.pointer (some ⟨b, 0, none⟩), opV x] w fun e w' => e = .returned (.tuple #[.agg #[.int .i64 p.a, .int .i64 p.b, .string ⟨p.s.toArray⟩], .int .i64 z]) ∧ NF w0 w' b n' F ∧ Held F w w' := by
  have hq : bits .and .i64 x.k 7 = 3 := by rw [i64_and7]; exact hk
  clear hk
  have HQ := Lib.hid e
  clear e
  obtain ⟨W1, hW1⟩ : ∃ W1, W1 = (w.alloc (.cells #[.int .i64 x.k, .int .i64 x.n, .int .i64 x.to, .string ⟨x.s.toArray⟩] 38)).alloc (.cells #[.int .i64 0, .int .i64 0, .string ⟨#[]⟩] 33) := ⟨_, rfl⟩
  have hb1 : Below w.heap.size w W1 := by rw [hW1]; exact ((Below.refl _ _).alloc (Nat.le_refl _) _).alloc (by simp) _
  have hx1 : PkBox W1 (w.heap.size + 1) zero := by
    rw [hW1]
    have := PkBox.new (w.alloc (.cells #[.int .i64 x.k, .int .i64 x.n, .int .i64 x.to, .string ⟨x.s.toArray⟩] 38)) zero
    rw [show (w.alloc (.cells #[.int .i64 x.k, .int .i64 x.n, .int .i64 x.to, .string ⟨x.s.toArray⟩] 38)).heap.size = w.heap.size + 1 by simp] at this
    exact this
  have ho1 : OpBox W1 w.heap.size x := by
    rw [hW1]
    exact (OpBox.new w x).kept (Kept.alloc (fun _ => False) _ _) (fun e => e)
  have hlt := hx1.lt
  have b0 := ho1.c0
  have b1 := ho1.c1
  have b2 := ho1.c2
  have b3 := ho1.c3
  have d0 := hx1.c0
  have d1 := hx1.c1
  have d2 := hx1.c2
  have z0 := hx1.z 0
  have z1 := hx1.z 1
  have z2 := hx1.z 2
  have HN := Lib.hid (h.up hb1)
  have HEND := Lib.hid (fun (n1 : N) (p : Pk) (w2 : World) (hh : NF w0 w2 b n1 (Up F w W1) ∧ Held (Up F w W1) W1 w2) => do_end (p := p) (w.heap.size + 1) ⟨by omega, hlt⟩ h.flt hb1 h.base.size hh hx1)
  have HX := Lib.hid (fun (n1 : N) (w2 : World) (hh : NF w0 w2 b n1 (Up F w W1) ∧ Held (Up F w W1) W1 w2) => hh.2.box hx1 (Or.inr ⟨by omega, hlt⟩))
  clear h hb1 hx1 ho1 hlt
  unfold opV
  go_enter Try.func12, Try.ntmps12
  go_upto_region 1 with fail
  rw [← hW1]
  clear hW1
  go_wp2_with fail
  refine (nf_deliver HN.out HQ.out).mono ?_
  rintro e' w2 ⟨rfl, hN2⟩
  have hx2 := HX.out _ _ hN2
  have e0 := hx2.c0
  have e1 := hx2.c1
  have e2 := hx2.c2
  have y0 := hx2.z 0
  have y1 := hx2.z 1
  have y2 := hx2.z 2
  have HE := Lib.hid (HEND.out _ p _ hN2)
  clear hN2 hx2
  go_wp2_with fail
  (try simp only [Exit.inBlock, Exit.then])
  refine bodyPost_ret (ret_pk2 rfl _ _ (w.heap.size + 1) p rfl HE.out.1) rfl ?_
  exact ⟨rfl, HE.out.2⟩

set_option maxHeartbeats 1000000 in
theorem do_drop {w0 w : World} {b : Nat} {n n' : N} {F : Nat → Prop} (h : NF w0 w b n F) (x : Op7) {z : Int} (hk : x.k % 8 = 4) (e : drop n x.n = (n', z)) : Calls Try.prog 12 #[.pointer (some ⟨b, 0, none⟩), opV x] w fun e w' => e = .returned (.tuple #[.agg #[.int .i64 zero.a, .int .i64 zero.b, .string ⟨zero.s.toArray⟩], .int .i64 z]) ∧ NF w0 w' b n' F ∧ Held F w w' := by
  have hq : bits .and .i64 x.k 7 = 4 := by rw [i64_and7]; exact hk
  clear hk
  have HQ := Lib.hid e
  clear e
  obtain ⟨W1, hW1⟩ : ∃ W1, W1 = (w.alloc (.cells #[.int .i64 x.k, .int .i64 x.n, .int .i64 x.to, .string ⟨x.s.toArray⟩] 38)).alloc (.cells #[.int .i64 0, .int .i64 0, .string ⟨#[]⟩] 33) := ⟨_, rfl⟩
  have hb1 : Below w.heap.size w W1 := by rw [hW1]; exact ((Below.refl _ _).alloc (Nat.le_refl _) _).alloc (by simp) _
  have hx1 : PkBox W1 (w.heap.size + 1) zero := by
    rw [hW1]
    have := PkBox.new (w.alloc (.cells #[.int .i64 x.k, .int .i64 x.n, .int .i64 x.to, .string ⟨x.s.toArray⟩] 38)) zero
    rw [show (w.alloc (.cells #[.int .i64 x.k, .int .i64 x.n, .int .i64 x.to, .string ⟨x.s.toArray⟩] 38)).heap.size = w.heap.size + 1 by simp] at this
    exact this
  have ho1 : OpBox W1 w.heap.size x := by
    rw [hW1]
    exact (OpBox.new w x).kept (Kept.alloc (fun _ => False) _ _) (fun e => e)
  have hlt := hx1.lt
  have b0 := ho1.c0
  have b1 := ho1.c1
  have b2 := ho1.c2
  have b3 := ho1.c3
  have d0 := hx1.c0
  have d1 := hx1.c1
  have d2 := hx1.c2
  have z0 := hx1.z 0
  have z1 := hx1.z 1
  have z2 := hx1.z 2
  have HN := Lib.hid (h.up hb1)
  have HEND := Lib.hid (fun (n1 : N) (p : Pk) (w2 : World) (hh : NF w0 w2 b n1 (Up F w W1) ∧ Held (Up F w W1) W1 w2) => do_end (p := p) (w.heap.size + 1) ⟨by omega, hlt⟩ h.flt hb1 h.base.size hh hx1)
  have HX := Lib.hid (fun (n1 : N) (w2 : World) (hh : NF w0 w2 b n1 (Up F w W1) ∧ Held (Up F w W1) W1 w2) => hh.2.box hx1 (Or.inr ⟨by omega, hlt⟩))
  clear h hb1 hx1 ho1 hlt
  unfold opV
  go_enter Try.func12, Try.ntmps12
  go_upto_region 1 with fail
  rw [← hW1]
  clear hW1
  go_wp2_with fail
  refine (nf_drop HN.out HQ.out).mono ?_
  rintro e' w2 ⟨rfl, hN2⟩
  have hx2 := HX.out _ _ hN2
  have e0 := hx2.c0
  have e1 := hx2.c1
  have e2 := hx2.c2
  have y0 := hx2.z 0
  have y1 := hx2.z 1
  have y2 := hx2.z 2
  have HE := Lib.hid (HEND.out _ zero _ hN2)
  clear hN2 hx2
  go_wp2_with fail
  (try simp only [Exit.inBlock, Exit.then])
  refine bodyPost_ret (ret_pk2 rfl _ _ (w.heap.size + 1) zero rfl HE.out.1) rfl ?_
  exact ⟨rfl, HE.out.2⟩

set_option maxHeartbeats 1000000 in
theorem do_double {w0 w : World} {b : Nat} {n n' : N} {F : Nat → Prop} (h : NF w0 w b n F) (x : Op7) {z : Int} (hk : x.k % 8 = 5) (e : double n x.n = (n', z)) : Calls Try.prog 12 #[.pointer (some ⟨b, 0, none⟩), opV x] w fun e w' => e = .returned (.tuple #[.agg #[.int .i64 zero.a, .int .i64 zero.b, .string ⟨zero.s.toArray⟩], .int .i64 z]) ∧ NF w0 w' b n' F ∧ Held F w w' := by
  have hq : bits .and .i64 x.k 7 = 5 := by rw [i64_and7]; exact hk
  clear hk
  have HQ := Lib.hid e
  clear e
  obtain ⟨W1, hW1⟩ : ∃ W1, W1 = (w.alloc (.cells #[.int .i64 x.k, .int .i64 x.n, .int .i64 x.to, .string ⟨x.s.toArray⟩] 38)).alloc (.cells #[.int .i64 0, .int .i64 0, .string ⟨#[]⟩] 33) := ⟨_, rfl⟩
  have hb1 : Below w.heap.size w W1 := by rw [hW1]; exact ((Below.refl _ _).alloc (Nat.le_refl _) _).alloc (by simp) _
  have hx1 : PkBox W1 (w.heap.size + 1) zero := by
    rw [hW1]
    have := PkBox.new (w.alloc (.cells #[.int .i64 x.k, .int .i64 x.n, .int .i64 x.to, .string ⟨x.s.toArray⟩] 38)) zero
    rw [show (w.alloc (.cells #[.int .i64 x.k, .int .i64 x.n, .int .i64 x.to, .string ⟨x.s.toArray⟩] 38)).heap.size = w.heap.size + 1 by simp] at this
    exact this
  have ho1 : OpBox W1 w.heap.size x := by
    rw [hW1]
    exact (OpBox.new w x).kept (Kept.alloc (fun _ => False) _ _) (fun e => e)
  have hlt := hx1.lt
  have b0 := ho1.c0
  have b1 := ho1.c1
  have b2 := ho1.c2
  have b3 := ho1.c3
  have d0 := hx1.c0
  have d1 := hx1.c1
  have d2 := hx1.c2
  have z0 := hx1.z 0
  have z1 := hx1.z 1
  have z2 := hx1.z 2
  have HN := Lib.hid (h.up hb1)
  have HEND := Lib.hid (fun (n1 : N) (p : Pk) (w2 : World) (hh : NF w0 w2 b n1 (Up F w W1) ∧ Held (Up F w W1) W1 w2) => do_end (p := p) (w.heap.size + 1) ⟨by omega, hlt⟩ h.flt hb1 h.base.size hh hx1)
  have HX := Lib.hid (fun (n1 : N) (w2 : World) (hh : NF w0 w2 b n1 (Up F w W1) ∧ Held (Up F w W1) W1 w2) => hh.2.box hx1 (Or.inr ⟨by omega, hlt⟩))
  clear h hb1 hx1 ho1 hlt
  unfold opV
  go_enter Try.func12, Try.ntmps12
  go_upto_region 1 with fail
  rw [← hW1]
  clear hW1
  go_wp2_with fail
  refine (nf_double HN.out HQ.out).mono ?_
  rintro e' w2 ⟨rfl, hN2⟩
  have hx2 := HX.out _ _ hN2
  have e0 := hx2.c0
  have e1 := hx2.c1
  have e2 := hx2.c2
  have y0 := hx2.z 0
  have y1 := hx2.z 1
  have y2 := hx2.z 2
  have HE := Lib.hid (HEND.out _ zero _ hN2)
  clear hN2 hx2
  go_wp2_with fail
  (try simp only [Exit.inBlock, Exit.then])
  refine bodyPost_ret (ret_pk2 rfl _ _ (w.heap.size + 1) zero rfl HE.out.1) rfl ?_
  exact ⟨rfl, HE.out.2⟩

set_option maxHeartbeats 1000000 in
theorem do_send {w0 w : World} {b : Nat} {n n' : N} {F : Nat → Prop} (h : NF w0 w b n F) (x : Op7) {z : Int} (hk : x.k % 8 < 3) (e : send n x.n x.to x.s = (n', z)) : Calls Try.prog 12 #[.pointer (some ⟨b, 0, none⟩), opV x] w fun e w' => e = .returned (.tuple #[.agg #[.int .i64 zero.a, .int .i64 zero.b, .string ⟨zero.s.toArray⟩], .int .i64 z]) ∧ NF w0 w' b n' F ∧ Held F w w' := by
  obtain ⟨q, hq⟩ : ∃ q, bits .and .i64 x.k 7 = q := ⟨_, rfl⟩
  have hq' : q < 3 := by rw [← hq, i64_and7]; exact hk
  have q3 : (q == 3) = false := by simp; omega
  have q4 : (q == 4) = false := by simp; omega
  have q5 : (q == 5) = false := by simp; omega
  have q6 : (q == 6) = false := by simp; omega
  have q7 : (q == 7) = false := by simp; omega
  clear hk hq'
  have HQ := Lib.hid e
  clear e
  obtain ⟨W1, hW1⟩ : ∃ W1, W1 = (w.alloc (.cells #[.int .i64 x.k, .int .i64 x.n, .int .i64 x.to, .string ⟨x.s.toArray⟩] 38)).alloc (.cells #[.int .i64 0, .int .i64 0, .string ⟨#[]⟩] 33) := ⟨_, rfl⟩
  have hb1 : Below w.heap.size w W1 := by rw [hW1]; exact ((Below.refl _ _).alloc (Nat.le_refl _) _).alloc (by simp) _
  have hx1 : PkBox W1 (w.heap.size + 1) zero := by
    rw [hW1]
    have := PkBox.new (w.alloc (.cells #[.int .i64 x.k, .int .i64 x.n, .int .i64 x.to, .string ⟨x.s.toArray⟩] 38)) zero
    rw [show (w.alloc (.cells #[.int .i64 x.k, .int .i64 x.n, .int .i64 x.to, .string ⟨x.s.toArray⟩] 38)).heap.size = w.heap.size + 1 by simp] at this
    exact this
  have ho1 : OpBox W1 w.heap.size x := by
    rw [hW1]
    exact (OpBox.new w x).kept (Kept.alloc (fun _ => False) _ _) (fun e => e)
  have hlt := hx1.lt
  have b0 := ho1.c0
  have b1 := ho1.c1
  have b2 := ho1.c2
  have b3 := ho1.c3
  have d0 := hx1.c0
  have d1 := hx1.c1
  have d2 := hx1.c2
  have z0 := hx1.z 0
  have z1 := hx1.z 1
  have z2 := hx1.z 2
  have HN := Lib.hid (h.up hb1)
  have HEND := Lib.hid (fun (n1 : N) (p : Pk) (w2 : World) (hh : NF w0 w2 b n1 (Up F w W1) ∧ Held (Up F w W1) W1 w2) => do_end (p := p) (w.heap.size + 1) ⟨by omega, hlt⟩ h.flt hb1 h.base.size hh hx1)
  have HX := Lib.hid (fun (n1 : N) (w2 : World) (hh : NF w0 w2 b n1 (Up F w W1) ∧ Held (Up F w W1) W1 w2) => hh.2.box hx1 (Or.inr ⟨by omega, hlt⟩))
  clear h hb1 hx1 ho1 hlt
  unfold opV
  go_enter Try.func12, Try.ntmps12
  go_upto_region 1 with fail
  rw [← hW1]
  clear hW1
  go_wp2_with fail
  refine (nf_send HN.out HQ.out).mono ?_
  rintro e' w2 ⟨rfl, hN2⟩
  have hx2 := HX.out _ _ hN2
  have e0 := hx2.c0
  have e1 := hx2.c1
  have e2 := hx2.c2
  have y0 := hx2.z 0
  have y1 := hx2.z 1
  have y2 := hx2.z 2
  have HE := Lib.hid (HEND.out _ zero _ hN2)
  clear hN2 hx2
  go_wp2_with fail
  (try simp only [Exit.inBlock, Exit.then])
  refine bodyPost_ret (ret_pk2 rfl _ _ (w.heap.size + 1) zero rfl HE.out.1) rfl ?_
  exact ⟨rfl, HE.out.2⟩

set_option maxHeartbeats 1000000 in
theorem do_split {w0 w : World} {b : Nat} {n n' : N} {F : Nat → Prop} (h : NF w0 w b n F) (x : Op7) {z : Int} (hk : x.k % 8 = 6) (e : split n x.n = n') (hz : z = 0) : Calls Try.prog 12 #[.pointer (some ⟨b, 0, none⟩), opV x] w fun e w' => e = .returned (.tuple #[.agg #[.int .i64 zero.a, .int .i64 zero.b, .string ⟨zero.s.toArray⟩], .int .i64 z]) ∧ NF w0 w' b n' F ∧ Held F w w' := by
  have hq : bits .and .i64 x.k 7 = 6 := by rw [i64_and7]; exact hk
  clear hk
  subst e hz
  obtain ⟨W1, hW1⟩ : ∃ W1, W1 = (w.alloc (.cells #[.int .i64 x.k, .int .i64 x.n, .int .i64 x.to, .string ⟨x.s.toArray⟩] 38)).alloc (.cells #[.int .i64 0, .int .i64 0, .string ⟨#[]⟩] 33) := ⟨_, rfl⟩
  have hb1 : Below w.heap.size w W1 := by rw [hW1]; exact ((Below.refl _ _).alloc (Nat.le_refl _) _).alloc (by simp) _
  have hx1 : PkBox W1 (w.heap.size + 1) zero := by
    rw [hW1]
    have := PkBox.new (w.alloc (.cells #[.int .i64 x.k, .int .i64 x.n, .int .i64 x.to, .string ⟨x.s.toArray⟩] 38)) zero
    rw [show (w.alloc (.cells #[.int .i64 x.k, .int .i64 x.n, .int .i64 x.to, .string ⟨x.s.toArray⟩] 38)).heap.size = w.heap.size + 1 by simp] at this
    exact this
  have ho1 : OpBox W1 w.heap.size x := by
    rw [hW1]
    exact (OpBox.new w x).kept (Kept.alloc (fun _ => False) _ _) (fun e => e)
  have hlt := hx1.lt
  have b0 := ho1.c0
  have b1 := ho1.c1
  have b2 := ho1.c2
  have b3 := ho1.c3
  have d0 := hx1.c0
  have d1 := hx1.c1
  have d2 := hx1.c2
  have z0 := hx1.z 0
  have z1 := hx1.z 1
  have z2 := hx1.z 2
  have HN := Lib.hid (h.up hb1)
  have HEND := Lib.hid (fun (n1 : N) (p : Pk) (w2 : World) (hh : NF w0 w2 b n1 (Up F w W1) ∧ Held (Up F w W1) W1 w2) => do_end (p := p) (w.heap.size + 1) ⟨by omega, hlt⟩ h.flt hb1 h.base.size hh hx1)
  have HX := Lib.hid (fun (n1 : N) (w2 : World) (hh : NF w0 w2 b n1 (Up F w W1) ∧ Held (Up F w W1) W1 w2) => hh.2.box hx1 (Or.inr ⟨by omega, hlt⟩))
  clear h hb1 hx1 ho1 hlt
  unfold opV
  go_enter Try.func12, Try.ntmps12
  go_upto_region 1 with fail
  rw [← hW1]
  clear hW1
  go_wp2_with fail
  refine (nf_split HN.out _).mono ?_
  rintro e' w2 ⟨rfl, hN2⟩
  have hx2 := HX.out _ _ hN2
  have e0 := hx2.c0
  have e1 := hx2.c1
  have e2 := hx2.c2
  have y0 := hx2.z 0
  have y1 := hx2.z 1
  have y2 := hx2.z 2
  have HE := Lib.hid (HEND.out _ zero _ hN2)
  clear hN2 hx2
  go_wp2_with fail
  (try simp only [Exit.inBlock, Exit.then])
  refine bodyPost_ret (ret_pk2 rfl _ _ (w.heap.size + 1) zero rfl HE.out.1) rfl ?_
  exact ⟨rfl, HE.out.2⟩

set_option maxHeartbeats 1000000 in
theorem do_heal {w0 w : World} {b : Nat} {n n' : N} {F : Nat → Prop} (h : NF w0 w b n F) (x : Op7) {z : Int} (hk : x.k % 8 = 7) (e : split n 0 = n') (hz : z = 0) : Calls Try.prog 12 #[.pointer (some ⟨b, 0, none⟩), opV x] w fun e w' => e = .returned (.tuple #[.agg #[.int .i64 zero.a, .int .i64 zero.b, .string ⟨zero.s.toArray⟩], .int .i64 z]) ∧ NF w0 w' b n' F ∧ Held F w w' := by
  have hq : bits .and .i64 x.k 7 = 7 := by rw [i64_and7]; exact hk
  clear hk
  subst e hz
  obtain ⟨W1, hW1⟩ : ∃ W1, W1 = (w.alloc (.cells #[.int .i64 x.k, .int .i64 x.n, .int .i64 x.to, .string ⟨x.s.toArray⟩] 38)).alloc (.cells #[.int .i64 0, .int .i64 0, .string ⟨#[]⟩] 33) := ⟨_, rfl⟩
  have hb1 : Below w.heap.size w W1 := by rw [hW1]; exact ((Below.refl _ _).alloc (Nat.le_refl _) _).alloc (by simp) _
  have hx1 : PkBox W1 (w.heap.size + 1) zero := by
    rw [hW1]
    have := PkBox.new (w.alloc (.cells #[.int .i64 x.k, .int .i64 x.n, .int .i64 x.to, .string ⟨x.s.toArray⟩] 38)) zero
    rw [show (w.alloc (.cells #[.int .i64 x.k, .int .i64 x.n, .int .i64 x.to, .string ⟨x.s.toArray⟩] 38)).heap.size = w.heap.size + 1 by simp] at this
    exact this
  have ho1 : OpBox W1 w.heap.size x := by
    rw [hW1]
    exact (OpBox.new w x).kept (Kept.alloc (fun _ => False) _ _) (fun e => e)
  have hlt := hx1.lt
  have b0 := ho1.c0
  have b1 := ho1.c1
  have b2 := ho1.c2
  have b3 := ho1.c3
  have d0 := hx1.c0
  have d1 := hx1.c1
  have d2 := hx1.c2
  have z0 := hx1.z 0
  have z1 := hx1.z 1
  have z2 := hx1.z 2
  have HN := Lib.hid (h.up hb1)
  have HEND := Lib.hid (fun (n1 : N) (p : Pk) (w2 : World) (hh : NF w0 w2 b n1 (Up F w W1) ∧ Held (Up F w W1) W1 w2) => do_end (p := p) (w.heap.size + 1) ⟨by omega, hlt⟩ h.flt hb1 h.base.size hh hx1)
  have HX := Lib.hid (fun (n1 : N) (w2 : World) (hh : NF w0 w2 b n1 (Up F w W1) ∧ Held (Up F w W1) W1 w2) => hh.2.box hx1 (Or.inr ⟨by omega, hlt⟩))
  clear h hb1 hx1 ho1 hlt
  unfold opV
  go_enter Try.func12, Try.ntmps12
  go_upto_region 1 with fail
  rw [← hW1]
  clear hW1
  go_wp2_with fail
  refine (nf_heal HN.out).mono ?_
  rintro e' w2 ⟨rfl, hN2⟩
  have hx2 := HX.out _ _ hN2
  have e0 := hx2.c0
  have e1 := hx2.c1
  have e2 := hx2.c2
  have y0 := hx2.z 0
  have y1 := hx2.z 1
  have y2 := hx2.z 2
  have HE := Lib.hid (HEND.out _ zero _ hN2)
  clear hN2 hx2
  go_wp2_with fail
  (try simp only [Exit.inBlock, Exit.then])
  refine bodyPost_ret (ret_pk2 rfl _ _ (w.heap.size + 1) zero rfl HE.out.1) rfl ?_
  exact ⟨rfl, HE.out.2⟩

theorem do_c {w0 w : World} {b : Nat} {n n' : N} {F : Nat → Prop} (h : NF w0 w b n F) (x : Op7) {p : Pk} {z : Int} (e : Nt.step n x = (n', p, z)) : Calls Try.prog 12 #[.pointer (some ⟨b, 0, none⟩), opV x] w fun e w' => e = .returned (.tuple #[.agg #[.int .i64 p.a, .int .i64 p.b, .string ⟨p.s.toArray⟩], .int .i64 z]) ∧ NF w0 w' b n' F ∧ Held F w w' := by
  unfold Nt.step at e
  rcases mod8 x.k with k | k | k | k | k | k
  · rw [if_neg (by omega), if_neg (by omega), if_neg (by omega), if_neg (by omega), if_neg (by omega)] at e
    obtain ⟨e1, e2⟩ := Prod.mk.inj e
    obtain ⟨rfl, e3⟩ := Prod.mk.inj e2
    exact do_send h x k (Prod.ext e1 e3)
  · rw [if_pos k] at e
    exact do_deliver h x k e
  · rw [if_neg (by omega), if_pos k] at e
    obtain ⟨e1, e2⟩ := Prod.mk.inj e
    obtain ⟨rfl, e3⟩ := Prod.mk.inj e2
    exact do_drop h x k (Prod.ext e1 e3)
  · rw [if_neg (by omega), if_neg (by omega), if_pos k] at e
    obtain ⟨e1, e2⟩ := Prod.mk.inj e
    obtain ⟨rfl, e3⟩ := Prod.mk.inj e2
    exact do_double h x k (Prod.ext e1 e3)
  · rw [if_neg (by omega), if_neg (by omega), if_neg (by omega), if_pos k] at e
    obtain ⟨e1, e2⟩ := Prod.mk.inj e
    obtain ⟨rfl, e3⟩ := Prod.mk.inj e2
    exact do_split h x k e1 e3.symm
  · rw [if_neg (by omega), if_neg (by omega), if_neg (by omega), if_neg (by omega), if_pos k] at e
    obtain ⟨e1, e2⟩ := Prod.mk.inj e
    obtain ⟨rfl, e3⟩ := Prod.mk.inj e2
    exact do_heal h x k e1 e3.symm
end Go.Proofs.Ytedpkjlhcpjblaa
