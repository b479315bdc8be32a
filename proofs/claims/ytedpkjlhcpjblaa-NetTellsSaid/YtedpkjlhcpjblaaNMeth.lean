/-
  The methods of a network: Hear, the packet at an index.
-/
import Derived.Test.YtedpkjlhcpjblaaNNet
namespace Go.Proofs.Ytedpkjlhcpjblaa
set_option maxRecDepth 100000
open Go Go.RowKit Nt

set_option maxHeartbeats 1000000 in
theorem hear_c {w : World} {b : Nat} {lv : Value} {n : N} (h : NetAt w b lv n) (hn : Ok n) (x y : Int) : Calls Try.prog 15 #[.pointer (some ⟨b, 0, none⟩), .int .i64 x, .int .i64 y] w fun e w' => e = .returned (.bool (hear n.m x y)) ∧ w' = w := by
  have Q := Lib.hid (fun z => isEnd_c z w)
  have S := Lib.hid (fun z hz => side_c h hn z hz)
  cases hx : isEnd x with
  | false =>
    have hr : hear n.m x y = false := by unfold hear; rw [hx]; rfl
    rw [hr]
    have HX := Lib.hid hx
    clear h hn hr hx S
    go_enter Try.func15, Try.ntmps15
    go_wp2_with (go_at_call 32; refine (Q.out _).mono ?_; rintro e w1 ⟨rfl, hw⟩; rw [hw, HX.out]; clear hw)
    go_ret
    exact ⟨rfl, rfl⟩
  | true =>
    cases hy : isEnd y with
    | false =>
      have hr : hear n.m x y = false := by unfold hear; rw [hx, hy]; rfl
      rw [hr]
      have HX := Lib.hid hx
      have HY := Lib.hid hy
      clear h hn hr hx hy S
      go_enter Try.func15, Try.ntmps15
      go_wp2_with (go_at_call 32; refine (Q.out _).mono ?_; rintro e w1 ⟨rfl, hw⟩; rw [hw]; (first | rw [HX.out] | rw [HY.out]); clear hw)
      go_ret
      exact ⟨rfl, rfl⟩
    | true =>
      have hr : hear n.m x y = (side n.m x == side n.m y) := by unfold hear; rw [hx, hy]; rfl
      rw [hr]
      have HX := Lib.hid hx
      have HY := Lib.hid hy
      clear h hn hr hx hy
      go_enter Try.func15, Try.ntmps15
      go_wp2_with (first | (go_at_call 32; refine (Q.out _).mono ?_; rintro e w1 ⟨rfl, hw⟩; rw [hw]; (first | rw [HX.out] | rw [HY.out]); clear hw) | (go_at_call 33; refine (S.out _ (by first | exact HX.out | exact HY.out)).mono ?_; rintro e w1 ⟨rfl, hw⟩; rw [hw]; clear hw))
      go_ret
      exact ⟨rfl, rfl⟩

/-! ### A packet in a block of its own -/
def PkBox (w : World) (b : Nat) (p : Pk) : Prop := w.heap[b]? = some (.cells #[.int .i64 p.a, .int .i64 p.b, .string ⟨p.s.toArray⟩] 33 (0, 0))
theorem PkBox.c0 {w : World} {b : Nat} {p : Pk} (h : PkBox w b p) : w.cell? ⟨b, 0, none⟩ = some (.int .i64 p.a) := by rw [Lib.cell_of_heap h]; rfl
theorem PkBox.c1 {w : World} {b : Nat} {p : Pk} (h : PkBox w b p) : w.cell? ⟨b, 1, none⟩ = some (.int .i64 p.b) := by rw [Lib.cell_of_heap h]; rfl
theorem PkBox.c2 {w : World} {b : Nat} {p : Pk} (h : PkBox w b p) : w.cell? ⟨b, 2, none⟩ = some (.string ⟨p.s.toArray⟩) := by rw [Lib.cell_of_heap h]; rfl
theorem PkBox.z {w : World} {b : Nat} {p : Pk} (h : PkBox w b p) (o : Nat) : w.frozen? ⟨b, o, none⟩ = false := Lib.frozen_of_heap h o
theorem PkBox.new (w : World) (p : Pk) : PkBox (w.alloc (.cells #[.int .i64 p.a, .int .i64 p.b, .string ⟨p.s.toArray⟩] 33)) w.heap.size p := heap_alloc_new w _
theorem PkBox.kept {w w' : World} {S : Nat → Prop} {b : Nat} {p : Pk} (h : PkBox w b p) (hk : Kept S w w') (hn : ¬ S b) : PkBox w' b p := hk.heap h hn
theorem PkBox.lt {w : World} {b : Nat} {p : Pk} (h : PkBox w b p) : b < w.heap.size := (Array.getElem?_eq_some_iff.1 h).1
theorem NetAt.on {w w' : World} {b : Nat} {lv : Value} {n : N} (h : NetAt w b lv n) (hb : Below w.heap.size w w') : NetAt w' b lv n := h.kept (Kept.below (S := fun _ => False) hb) (fun e => e) (fun _ _ e => e)

theorem PkBox.set3 {w : World} {b : Nat} {x : Pk} (h : PkBox w b x) (y : Pk) : PkBox (((w.setCell ⟨b, 0, none⟩ (.int .i64 y.a)).setCell ⟨b, 1, none⟩ (.int .i64 y.b)).setCell ⟨b, 2, none⟩ (.string ⟨y.s.toArray⟩)) b y := by
  unfold PkBox at *
  simp [World.setCell, Array.getElem?_modify, h]
theorem below_set3 {B : Nat} {w0 w : World} (h : Below B w0 w) {b : Nat} (hb : B ≤ b) (x y z : Value) : Below B w0 (((w.setCell ⟨b, 0, none⟩ x).setCell ⟨b, 1, none⟩ y).setCell ⟨b, 2, none⟩ z) :=
  ((h.setCell (p := ⟨b, 0, none⟩) hb _).setCell (p := ⟨b, 1, none⟩) hb _).setCell (p := ⟨b, 2, none⟩) hb _
theorem sizePk3 : (Try.prog.info? 33).map (·.size) = some 3 := by kernel_rfl
theorem ret_pk {fn : Func} {p : Tmp} (hr : fn.results = #[.cell p 33]) (tmps : Array Value) (w : World) (b : Nat) (x : Pk) (hp : tmps.getD p undef = .pointer (some ⟨b, 0, none⟩)) (h : PkBox w b x) :
    (results fn tmps).run Try.prog w = .ok (.agg #[.int .i64 x.a, .int .i64 x.b, .string ⟨x.s.toArray⟩]) w :=
  results_cell_row hr tmps w b _ _ _ _ hp h Try.underlying33 rfl (by rw [sizePk3]; rfl)

set_option maxHeartbeats 1000000 in
theorem at_in {w : World} {b : Nat} {lv : Value} {n : N} (h : NetAt w b lv n) (k : Nat) (p : Pk) (hp : n.l[k]? = some p) : Calls Try.prog 36 #[.pointer (some ⟨b, 0, none⟩), .int .i64 (k : Int)] w fun e w' => e = .returned (.agg #[.int .i64 p.a, .int .i64 p.b, .string ⟨p.s.toArray⟩]) ∧ Below w.heap.size w w' := by
  obtain ⟨W1, hW1⟩ : ∃ W1, W1 = w.alloc (.cells #[.int .i64 0, .int .i64 0, .string ⟨#[]⟩] 33) := ⟨_, rfl⟩
  have hb1 : Below w.heap.size w W1 := by rw [hW1]; exact (Below.refl _ _).alloc (Nat.le_refl _) _
  have hx1 : PkBox W1 w.heap.size zero := by rw [hW1]; exact PkBox.new w zero
  have h1 := h.on hb1
  have c0 := h1.c0
  have b0 := hx1.c0
  have b1 := hx1.c1
  have b2 := hx1.c2
  have z0 := hx1.z 0
  have z1 := hx1.z 1
  have z2 := hx1.z 2
  obtain ⟨a, c, rfl, hc, _, _⟩ := h.row.shape
  obtain ⟨g, rfl, _, d0, d1, d2⟩ := pks_cells h1.row hp
  have hk := (List.getElem?_eq_some_iff.1 hp).1
  obtain ⟨L, hL⟩ : ∃ L, L = n.l.length := ⟨_, rfl⟩
  rw [← hL] at hk c0
  have h1 : ¬ (k : Int) < 0 := by omega
  have h2 : ¬ (L : Int) ≤ (k : Int) := by omega
  have h3 : (k : Int) < (L : Int) := by omega
  have HB := Lib.hid hb1
  have HX := Lib.hid hx1
  clear h hp hc hL hb1 hx1
  go_enter Try.func36, Try.ntmps36
  go_upto_region 1 with fail
  rw [← hW1]
  clear hW1
  go_wp2_with fail
  (try simp only [Exit.inBlock, Exit.then])
  refine bodyPost_ret (ret_pk rfl _ _ w.heap.size p rfl (HX.out.set3 p)) rfl ?_
  exact ⟨rfl, below_set3 HB.out (Nat.le_refl _) _ _ _⟩
set_option maxHeartbeats 1000000 in
theorem at_out {w : World} {b : Nat} {lv : Value} {n : N} (h : NetAt w b lv n) (i : Int) (hi : i < 0 ∨ (n.l.length : Int) ≤ i) : Calls Try.prog 36 #[.pointer (some ⟨b, 0, none⟩), .int .i64 i] w fun e w' => e = .returned (.agg #[.int .i64 0, .int .i64 0, .string ⟨#[]⟩]) ∧ Below w.heap.size w w' := by
  obtain ⟨W1, hW1⟩ : ∃ W1, W1 = w.alloc (.cells #[.int .i64 0, .int .i64 0, .string ⟨#[]⟩] 33) := ⟨_, rfl⟩
  have hb1 : Below w.heap.size w W1 := by rw [hW1]; exact (Below.refl _ _).alloc (Nat.le_refl _) _
  have hx1 : PkBox W1 w.heap.size zero := by rw [hW1]; exact PkBox.new w zero
  have h1 := h.on hb1
  have c0 := h1.c0
  have b0 := hx1.c0
  have b1 := hx1.c1
  have b2 := hx1.c2
  have z0 := hx1.z 0
  have z1 := hx1.z 1
  have z2 := hx1.z 2
  obtain ⟨a, c, rfl, hc, _, _⟩ := h.row.shape
  obtain ⟨L, hL⟩ : ∃ L, L = n.l.length := ⟨_, rfl⟩
  rw [← hL] at hi c0
  have HB := Lib.hid hb1
  have HX := Lib.hid hx1
  clear h hc hL hb1 hx1 h1
  by_cases h0 : i < 0
  · clear hi
    go_enter Try.func36, Try.ntmps36
    go_upto_region 1 with fail
    rw [← hW1]
    clear hW1
    go_wp2_with fail
    (try simp only [Exit.inBlock, Exit.then])
    refine bodyPost_ret (ret_pk rfl _ _ w.heap.size zero rfl (HX.out.set3 zero)) rfl ?_
    exact ⟨rfl, below_set3 HB.out (Nat.le_refl _) _ _ _⟩
  · have h1 : (L : Int) ≤ i := by omega
    clear hi
    go_enter Try.func36, Try.ntmps36
    go_upto_region 1 with fail
    rw [← hW1]
    clear hW1
    go_wp2_with fail
    (try simp only [Exit.inBlock, Exit.then])
    refine bodyPost_ret (ret_pk rfl _ _ w.heap.size zero rfl (HX.out.set3 zero)) rfl ?_
    exact ⟨rfl, below_set3 HB.out (Nat.le_refl _) _ _ _⟩
end Go.Proofs.Ytedpkjlhcpjblaa
