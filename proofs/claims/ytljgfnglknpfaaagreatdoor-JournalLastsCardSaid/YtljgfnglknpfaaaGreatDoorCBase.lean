/-
  cell: the table of offsets, a cell in a heap; begin, Get, other, the header.
-/
import Derived.Test.YtljgfnglknpfaaaGreatDoorCModel
import Derived.Test.YtljgfnglknpfaaaGreatDoorDTN
import Derived.Laws.ResultCell
import Derived.Laws.Rows
import Derived.BigQuiet
namespace Go.Proofs.YtljgfnglknpfaaaGreatDoor
set_option maxRecDepth 100000
open Go Go.RowKit Go.Maps Dk

/-- The table of offsets is as it is laid. -/
def Tab (w : World) : Prop := w.cell? ⟨0, 0, none⟩ = some (.int .i64 64) ∧ w.cell? ⟨0, 1, none⟩ = some (.int .i64 131072)
theorem Tab.kept {w w' : World} {S : Nat → Prop} (h : Tab w) (hk : Kept S w w') (hn : ¬ S 0) : Tab w' := ⟨hk.cell h.1 hn, hk.cell h.2 hn⟩
theorem Tab.lt {w : World} (h : Tab w) : 0 < w.heap.size := Lib.lt_of_cell h.1

set_option maxRecDepth 100000 in
theorem begin_c (k : Nat) (hk : k = 1 ∨ k = 2) (w : World) (h : Tab w) : Calls Tryz.prog 55 #[.int .i64 (k : Int)] w fun e w' => e = .returned (.int .i64 (Ck.start k : Nat)) ∧ w' = w := by
  obtain ⟨h0, h1⟩ := h
  rcases hk with rfl | rfl
  · show Calls Tryz.prog 55 #[.int .i64 1] w fun e w' => e = .returned (.int .i64 64) ∧ w' = w
    go_enter Tryz.func55, Tryz.ntmps55
    go_wp2_with fail
    go_ret
    exact ⟨rfl, rfl⟩
  · show Calls Tryz.prog 55 #[.int .i64 2] w fun e w' => e = .returned (.int .i64 131072) ∧ w' = w
    go_enter Tryz.func55, Tryz.ntmps55
    go_wp2_with fail
    go_ret
    exact ⟨rfl, rfl⟩

/-- A cell in a heap: the disk that it is on, its file, its parts. -/
def CellAt (w : World) (b d : Nat) (f : Int) (c : Ck.C) : Prop :=
  w.heap[b]? = some (.cells #[.pointer (some ⟨d, 0, none⟩), .int .i64 f, .int .i64 (c.slot : Int), .string ⟨c.val.toArray⟩, .bool c.sure] 96 (0, 0))
theorem CellAt.kept {w w' : World} {S : Nat → Prop} {b d : Nat} {f : Int} {c : Ck.C} (h : CellAt w b d f c) (hk : Kept S w w') (hn : ¬ S b) : CellAt w' b d f c := hk.heap h hn
theorem CellAt.lt {w : World} {b d : Nat} {f : Int} {c : Ck.C} (h : CellAt w b d f c) : b < w.heap.size := (Array.getElem?_eq_some_iff.1 h).1
theorem CellAt.c0 {w : World} {b d : Nat} {f : Int} {c : Ck.C} (h : CellAt w b d f c) : w.cell? ⟨b, 0, none⟩ = some (.pointer (some ⟨d, 0, none⟩)) := by rw [Lib.cell_of_heap h]; rfl
theorem CellAt.c1 {w : World} {b d : Nat} {f : Int} {c : Ck.C} (h : CellAt w b d f c) : w.cell? ⟨b, 1, none⟩ = some (.int .i64 f) := by rw [Lib.cell_of_heap h]; rfl
theorem CellAt.c2 {w : World} {b d : Nat} {f : Int} {c : Ck.C} (h : CellAt w b d f c) : w.cell? ⟨b, 2, none⟩ = some (.int .i64 (c.slot : Int)) := by rw [Lib.cell_of_heap h]; rfl
theorem CellAt.c3 {w : World} {b d : Nat} {f : Int} {c : Ck.C} (h : CellAt w b d f c) : w.cell? ⟨b, 3, none⟩ = some (.string ⟨c.val.toArray⟩) := by rw [Lib.cell_of_heap h]; rfl
theorem CellAt.c4 {w : World} {b d : Nat} {f : Int} {c : Ck.C} (h : CellAt w b d f c) : w.cell? ⟨b, 4, none⟩ = some (.bool c.sure) := by rw [Lib.cell_of_heap h]; rfl
theorem CellAt.z {w : World} {b d : Nat} {f : Int} {c : Ck.C} (h : CellAt w b d f c) (o : Nat) : w.frozen? ⟨b, o, none⟩ = false := Lib.frozen_of_heap h o

theorem below_drewN' (w : World) (n : Nat) : Below w.heap.size w (w.drewN n) := ⟨rfl, rfl, rfl, Nat.le_refl _, fun _ _ => rfl⟩
set_option maxRecDepth 100000 in
theorem get_c (b d : Nat) (f : Int) (c : Ck.C) (w : World) (h : CellAt w b d f c) : Calls Tryz.prog 37 #[.pointer (some ⟨b, 0, none⟩)] w fun e w' => e = .returned (.tuple #[.string ⟨c.val.toArray⟩, .bool (c.slot != 0)]) ∧ Below w.heap.size w w' := by
  have k2 := h.c2
  have k3 := h.c3
  obtain ⟨k, v, sure⟩ := c
  dsimp only at k2 k3 ⊢
  clear h
  cases k with
  | zero =>
    go_enter Tryz.func37, Tryz.ntmps37
    rw [show ((0 : Nat) : Int) = 0 from rfl] at k2
    go_wp2_with fail
    go_quiet (fail)
    go_wp2_with fail
    go_ret2
    exact ⟨rfl, below_drewN' w nq⟩
  | succ n =>
    obtain ⟨m, hm⟩ : ∃ m : Int, m = ((n + 1 : Nat) : Int) := ⟨_, rfl⟩
    have hm0 : (m == 0) = false := by simp; omega
    have hm1 : (m != 0) = true := by simp; omega
    rw [← hm] at k2
    clear hm
    go_enter Tryz.func37, Tryz.ntmps37
    go_wp2_with fail
    go_quiet (fail)
    go_wp2_with fail
    go_ret2
    exact ⟨rfl, below_drewN' w nq⟩

set_option maxRecDepth 100000 in
theorem other_c (b d : Nat) (f : Int) (c : Ck.C) (w : World) (h : CellAt w b d f c) : Calls Tryz.prog 61 #[.pointer (some ⟨b, 0, none⟩)] w fun e w' => e = .returned (.int .i64 (Ck.other c.slot : Nat)) ∧ w' = w := by
  have k2 := h.c2
  clear h
  by_cases h1 : c.slot = 1
  · rw [h1] at k2 ⊢
    rw [show ((1 : Nat) : Int) = 1 from rfl] at k2
    show Calls Tryz.prog 61 #[.pointer (some ⟨b, 0, none⟩)] w fun e w' => e = .returned (.int .i64 2) ∧ w' = w
    clear h1
    go_enter Tryz.func61, Tryz.ntmps61
    go_wp2_with fail
    go_ret
    exact ⟨rfl, rfl⟩
  · have e : Ck.other c.slot = 1 := if_neg h1
    rw [e]
    show Calls Tryz.prog 61 #[.pointer (some ⟨b, 0, none⟩)] w fun e w' => e = .returned (.int .i64 1) ∧ w' = w
    obtain ⟨m, hm⟩ : ∃ m : Int, m = (c.slot : Int) := ⟨_, rfl⟩
    have hm0 : (m == 1) = false := by simp; omega
    rw [← hm] at k2
    clear hm h1 e
    go_enter Tryz.func61, Tryz.ntmps61
    go_wp2_with fail
    go_ret
    exact ⟨rfl, rfl⟩
end Go.Proofs.YtljgfnglknpfaaaGreatDoor
