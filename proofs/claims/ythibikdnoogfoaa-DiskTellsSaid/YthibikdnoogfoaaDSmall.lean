/-
  The examples of the chapter hold.
-/
import Derived.Test.YthibikdnoogfoaaDAct
namespace Go.Proofs.Ythibikdnoogfoaa
open Go Go.RowKit Go.Maps Dk

namespace Ex
def s1 : D := (D.new.write 0 0 [97, 98, 99]).1
def s2 : D := (s1.sync 0).1
def s3 : D := (s2.write 0 1 [88, 89]).1
def s4 : D := s3.crash [1]
def s5 : D := s4.start
def c4 : D := s3.crash [0]
def c5 : D := c4.start
def c6 : D := (c5.write 1 62 [97, 98, 99, 100]).1
def c7 : D := c6.crash [0, 1]
def c8 : D := c7.start
def c9 : D := (c8.write 16 0 []).1
theorem r1 : (D.new.write 0 0 [97, 98, 99]).2 = 0 := by kernel_rfl
theorem r2 : (s1.sync 0).2 = 0 := by kernel_rfl
theorem r4 : s4.down = true := by kernel_rfl
theorem r5 : s4.read 0 0 9 = ([], 9) := by kernel_rfl
theorem r6 : s5.read 0 0 9 = ([97, 88, 89], 0) := by kernel_rfl
theorem r7 : c5.read 0 1 9 = ([98, 99], 0) := by kernel_rfl
theorem r8 : (c5.write 1 62 [97, 98, 99, 100]).2 = 0 := by kernel_rfl
theorem r9 : c8.read 1 60 100 = ([0, 0, 0, 0, 99, 100], 0) := by kernel_rfl
theorem r10 : c8.size 1 = 66 := by kernel_rfl
theorem r11 : (c8.write 16 0 []).2 = 1 := by kernel_rfl
theorem r12 : (c9.write 1 16777216 [97]).2 = 6 := by kernel_rfl
end Ex

theorem DiskIn.up {B : Nat} {w0 w : World} {d : Nat} {X : D} (h : DiskIn w d (After (fun k => B ≤ k) w0) X) (hB : B ≤ w0.heap.size) : DiskIn w d (fun k => B ≤ k) X := h.mono (fun k _ e => by
  rcases e with e | e
  · exact e
  · exact Nat.le_trans hB e)
theorem in0 : -9223372036854775808 ≤ (0 : Int) ∧ (0 : Int) ≤ 9223372036854775807 := by omega
/-- A slice of numbers that was just laid. -/
theorem keep_new (w : World) (l : List Int) (c : Nat) (T : Nat → Prop) (hT : ¬ T w.heap.size) : KeepAt (w.alloc (.cells (intsV l).toArray 3)) (.slice (some ⟨w.heap.size, 0, none⟩) l.length c) l T := by
  refine ⟨_, c, rfl, fun _ => ⟨w.heap.size, 0, rfl, hT, fun j x hx => ?_⟩⟩
  rw [Lib.cell_of_heap (heap_alloc_new w _)]
  simp [intsV, hx]
theorem KeepAt.cast {w : World} {v v' : Value} {l : List Int} {T : Nat → Prop} (h : KeepAt w v l T) (e : v = v') : KeepAt w v' l T := e ▸ h

set_option maxHeartbeats 2000000 in
set_option maxRecDepth 100000 in
theorem small_c (w : World) : Calls Try.prog 8 #[] w fun e w' => e = .returned (.bool true) ∧ Below w.heap.size w w' := by
  go_enter Try.func8, Try.ntmps8
  go_wp2_with fail
  refine (new_c w).mono ?_
  rintro e w1 ⟨d, rfl, hd1, hb1⟩
  have s1 := hb1.size
  go_wp2_with fail
  refine (write_c d _ _ 0 0 [97, 98, 99] in0 in0 (by decide) w1 hd1).mono ?_
  rw [Ex.r1, show (D.new.write 0 0 [97, 98, 99]).1 = Ex.s1 from rfl]
  rintro e w2 ⟨rfl, hd2, hk2⟩
  replace hd2 := hd2.up s1
  have hb2 := hb1.trans (hk2.toBelow s1 (fun _ e => e))
  have s2 := hb2.size
  clear hd1 hb1 hk2
  go_wp2_with fail
  refine (sync_c d _ _ 0 in0 w2 hd2).mono ?_
  rw [Ex.r2, show (Ex.s1.sync 0).1 = Ex.s2 from rfl]
  rintro e w3 ⟨rfl, hd3, hk3⟩
  replace hd3 := hd3.up s2
  have hb3 := hb2.trans (hk3.toBelow s2 (fun _ e => e))
  have s3 := hb3.size
  clear hd2 hb2 hk3
  go_wp2_with fail
  refine (write_c d _ _ 0 1 [88, 89] in0 (by omega) (by decide) w3 hd3).mono ?_
  rw [show (Ex.s2.write 0 1 [88, 89]).1 = Ex.s3 from rfl]
  rintro e w4 ⟨rfl, hd4, hk4⟩
  replace hd4 := hd4.up s3
  have hb4 := hb3.trans (hk4.toBelow s3 (fun _ e => e))
  have s4 := hb4.size
  clear hd3 hb3 hk4
  go_wp2_with fail
  refine (copy_c d _ _ w4 hd4).mono ?_
  rintro e w5 ⟨c, rfl, hc5, hb45⟩
  have hd5 := (hd4.mono (T := fun k => w.heap.size ≤ k ∧ k < w4.heap.size) (fun k hk e => ⟨e, hk⟩)).kept (Kept.below (S := fun _ => False) hb45) (fun _ _ e => e)
  replace hc5 := hc5.mono (T := fun k => w4.heap.size ≤ k ∧ k < w5.heap.size) (fun k hk e => ⟨e, hk⟩)
  have hb5 := hb4.trans (hb45.mono s4)
  have s5 := hb5.size
  have s45 := hb45.size
  clear hd4 hb4 hb45
  go_wp2_with fail
  have hA : Below w5.heap.size w5 (w5.alloc (.cells #[.int .i64 1] 3)) := (Below.refl _ _).alloc (Nat.le_refl _) _
  refine (crash_c d _ _ _ [1] _ (hd5.kept (Kept.below (S := fun _ => False) hA) (fun _ _ e => e)) (keep_new w5 [1] 1 _ (fun e => by omega)) (by decide) (by decide)).mono ?_
  rw [show Ex.s3.crash [1] = Ex.s4 from rfl]
  rintro e w6 ⟨rfl, hd6, hk6⟩
  have hc6 := (hc5.kept (Kept.below (S := fun _ => False) hA) (fun _ _ e => e)).kept hk6 (fun k e e' => by omega)
  have hb6 := (hb5.trans (hA.mono s5)).trans (hk6.toBelow (Nat.le_trans s5 hA.size) (fun k e => e.1))
  have s6 := hb6.size
  have hA' := hA.size
  have s56 := hk6.size
  clear hd5 hc5 hb5 hk6 hA
  go_wp2_with fail
  refine (down_c d _ _ w6 hd6).mono ?_
  rw [Ex.r4]
  rintro e w7 ⟨rfl, h7⟩
  rw [h7]
  clear h7
  go_wp2_with fail
  refine (read_c d _ _ 0 0 9 in0 (by omega) (by omega) w6 hd6).mono ?_
  rw [Ex.r5]
  rintro e w7 ⟨rfl, h7⟩
  rw [h7]
  clear h7
  go_wp2_with fail
  refine (start_c d _ _ w6 hd6).mono ?_
  rw [show Ex.s4.start = Ex.s5 from rfl]
  rintro e w7 ⟨rfl, hd7, hk7⟩
  have hc7 := hc6.kept hk7 (fun k e e' => by
    rcases e' with e' | e'
    · omega
    · omega)
  have hb7 := hb6.trans (hk7.toBelow s6 (fun k e => by
    rcases e with e | e
    · exact e.1
    · omega))
  have s7 := hb7.size
  have s67 := hk7.size
  clear hd6 hc6 hb6 hk7
  go_wp2_with fail
  refine (read_c d _ _ 0 0 9 in0 (by omega) (by omega) w7 hd7).mono ?_
  rw [Ex.r6]
  rintro e w8 ⟨rfl, h8⟩
  rw [h8]
  clear h8 hd7
  replace hc7 := hc7.mono (T := fun k => w.heap.size ≤ k) (fun k _ e => by omega)
  go_wp2_with fail
  have hA : Below w7.heap.size w7 (w7.alloc (.cells #[.int .i64 0] 3)) := (Below.refl _ _).alloc (Nat.le_refl _) _
  have hc7' := (hc7.mono (T := fun k => w.heap.size ≤ k ∧ k < w7.heap.size) (fun k hk e => ⟨e, hk⟩)).kept (Kept.below (S := fun _ => False) hA) (fun _ _ e => e)
  refine (crash_c c _ _ _ [0] _ hc7' (keep_new w7 [0] 1 _ (fun e => by omega)) (by decide) (by decide)).mono ?_
  rw [show Ex.s3.crash [0] = Ex.c4 from rfl]
  rintro e w9 ⟨rfl, hc9, hk9⟩
  have hb9 := (hb7.trans (hA.mono s7)).trans (hk9.toBelow (Nat.le_trans s7 hA.size) (fun k e => e.1))
  have s9 := hb9.size
  replace hc9 := hc9.mono (T := fun k => w.heap.size ≤ k) (fun k _ e => by
    rcases e with e | e
    · exact e.1
    · have := hA.size; omega)
  clear hc7 hc7' hb7 hk9 hA
  go_wp2_with fail
  refine (start_c c _ _ w9 hc9).mono ?_
  rw [show Ex.c4.start = Ex.c5 from rfl]
  rintro e w10 ⟨rfl, hc10, hk10⟩
  have hb10 := hb9.trans (hk10.toBelow s9 (fun k e => e))
  have s10 := hb10.size
  clear hc9 hb9 hk10
  go_wp2_with fail
  refine (read_c c _ _ 0 1 9 in0 (by omega) (by omega) w10 hc10).mono ?_
  rw [Ex.r7]
  rintro e w11 ⟨rfl, h11⟩
  rw [h11]
  clear h11
  go_wp2_with fail
  refine (write_c c _ _ 1 62 [97, 98, 99, 100] (by omega) (by omega) (by decide) w10 hc10).mono ?_
  rw [Ex.r8, show (Ex.c5.write 1 62 [97, 98, 99, 100]).1 = Ex.c6 from rfl]
  rintro e w11 ⟨rfl, hc11, hk11⟩
  replace hc11 := hc11.up s10
  have hb11 := hb10.trans (hk11.toBelow s10 (fun k e => e))
  have s11 := hb11.size
  clear hc10 hb10 hk11
  go_wp2_with fail
  have hA : Below w11.heap.size w11 (w11.alloc (.cells #[.int .i64 0, .int .i64 1] 3)) := (Below.refl _ _).alloc (Nat.le_refl _) _
  have hc11' := (hc11.mono (T := fun k => w.heap.size ≤ k ∧ k < w11.heap.size) (fun k hk e => ⟨e, hk⟩)).kept (Kept.below (S := fun _ => False) hA) (fun _ _ e => e)
  refine (crash_c c _ _ _ [0, 1] _ hc11' (keep_new w11 [0, 1] 2 _ (fun e => by omega)) (by decide) (by decide)).mono ?_
  rw [show Ex.c6.crash [0, 1] = Ex.c7 from rfl]
  rintro e w12 ⟨rfl, hc12, hk12⟩
  have hb12 := (hb11.trans (hA.mono s11)).trans (hk12.toBelow (Nat.le_trans s11 hA.size) (fun k e => e.1))
  have s12 := hb12.size
  replace hc12 := hc12.mono (T := fun k => w.heap.size ≤ k) (fun k _ e => by
    rcases e with e | e
    · exact e.1
    · have := hA.size; omega)
  clear hc11 hc11' hb11 hk12 hA
  go_wp2_with fail
  refine (start_c c _ _ w12 hc12).mono ?_
  rw [show Ex.c7.start = Ex.c8 from rfl]
  rintro e w13 ⟨rfl, hc13, hk13⟩
  have hb13 := hb12.trans (hk13.toBelow s12 (fun k e => e))
  have s13 := hb13.size
  clear hc12 hb12 hk13
  go_wp2_with fail
  refine (read_c c _ _ 1 60 100 (by omega) (by omega) (by omega) w13 hc13).mono ?_
  rw [Ex.r9]
  rintro e w14 ⟨rfl, h14⟩
  rw [h14]
  clear h14
  go_wp2_with fail
  refine (size_c c _ _ 1 (by omega) w13 hc13).mono ?_
  rw [Ex.r10]
  rintro e w14 ⟨rfl, h14⟩
  rw [h14]
  clear h14
  go_wp2_with fail
  refine (write_c c _ _ 16 0 [] (by omega) (by omega) (by decide) w13 hc13).mono ?_
  rw [Ex.r11, show (Ex.c8.write 16 0 []).1 = Ex.c9 from rfl]
  rintro e w14 ⟨rfl, hc14, hk14⟩
  replace hc14 := hc14.up s13
  have hb14 := hb13.trans (hk14.toBelow s13 (fun k e => e))
  have s14 := hb14.size
  clear hc13 hb13 hk14
  go_wp2_with fail
  refine (write_c c _ _ 1 16777216 [97] (by omega) (by omega) (by decide) w14 hc14).mono ?_
  rw [Ex.r12]
  rintro e w15 ⟨rfl, _, hk15⟩
  have hb15 := hb14.trans (hk15.toBelow s14 (fun k e => e))
  clear hc14 hb14 hk15
  go_wp2_with fail
  go_ret
  exact ⟨rfl, hb15⟩
end Go.Proofs.Ythibikdnoogfoaa
