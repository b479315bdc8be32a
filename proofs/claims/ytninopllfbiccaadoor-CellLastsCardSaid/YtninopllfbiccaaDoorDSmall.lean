/-
  The examples of the chapter hold.
-/
import Derived.Test.YtninopllfbiccaaDoorDAct
namespace Go.Proofs.YtninopllfbiccaaDoor
set_option maxRecDepth 100000
open Go Go.RowKit Go.Maps Dk

namespace Ex
def s1 : D := (D.new.write 0 0 [97, 98, 99]).1
def s2 : D := (s1.sync 0).1
def s3 : D := (s2.write 0 1 [88, 89]).1
def s4 : D := s3.crash [1]
def s5 : D := s4.start
def c4 : D := s3.crash [0]
def c5 : D := c4.start
def c6 : D := (c5.write 1 62 [97, 98, 99, 100]).1
def c7 : D := c6.crash [0, 1]
def c8 : D := c7.start
def c9 : D := (c8.write 16 0 []).1
theorem r1 : (D.new.write 0 0 [97, 98, 99]).2 = 0 := by kernel_rfl
theorem r2 : (s1.sync 0).2 = 0 := by kernel_rfl
theorem r4 : s4.down = true := by kernel_rfl
theorem r5 : s4.read 0 0 9 = ([], 9) := by kernel_rfl
theorem r6 : s5.read 0 0 9 = ([97, 88, 89], 0) := by kernel_rfl
theorem r7 : c5.read 0 1 9 = ([98, 99], 0) := by kernel_rfl
theorem r8 : (c5.write 1 62 [97, 98, 99, 100]).2 = 0 := by kernel_rfl
theorem r9 : c8.read 1 60 100 = ([0, 0, 0, 0, 99, 100], 0) := by kernel_rfl
theorem r10 : c8.size 1 = 66 := by kernel_rfl
theorem r11 : (c8.write 16 0 []).2 = 1 := by kernel_rfl
theorem r12 : (c9.write 1 16777216 [97]).2 = 6 := by kernel_rfl
end Ex

theorem DiskIn.up {B : Nat} {w0 w : World} {d : Nat} {X : D} (h : DiskIn w d (After (fun k => B ≤ k) w0) X) (hB : B ≤ w0.heap.size) : DiskIn w d (fun k => B ≤ k) X := h.mono (fun k _ e => by
  rcases e with e | e
  · exact e
  · exact Nat.le_trans hB e)
theorem in0 : -9223372036854775808 ≤ (0 : Int) ∧ (0 : Int) ≤ 9223372036854775807 := by omega
/-- A slice of numbers that was just laid. -/
theorem keep_new (w : World) (l : List Int) (c : Nat) (T : Nat → Prop) (hT : ¬ T w.heap.size) : KeepAt (w.alloc (.cells (intsV l).toArray 3)) (.slice (some ⟨w.heap.size, 0, none⟩) l.length c) l T := by
  refine ⟨_, c, rfl, fun _ => ⟨w.heap.size, 0, rfl, hT, fun j x hx => ?_⟩⟩
  rw [Lib.cell_of_heap (heap_alloc_new w _)]
  simp [intsV, hx]
theorem KeepAt.cast {w : World} {v v' : Value} {l : List Int} {T : Nat → Prop} (h : KeepAt w v l T) (e : v = v') : KeepAt w v' l T := e ▸ h

end Go.Proofs.YtninopllfbiccaaDoor
