/-
  Copies: of slices that are owned, of maps.
-/
import Derived.Test.YtljgfnglknpfaaaGreatDoorDSettle
import Derived.Shelf.SlMaps.Clone
import Derived.Lib.SliceRun
namespace Go.Proofs.YtljgfnglknpfaaaGreatDoor
set_option maxRecDepth 100000
open Go Go.RowKit Go.Maps Dk

/-- A slice whose elements can be read. -/
def SrcV (w : World) (size : Nat) (v : Value) (n : Nat) (xs : List Value) : Prop := ∃ a c, v = .slice a n c ∧ xs.length = n * size ∧ (a = none → n = 0) ∧ ∀ ad, a = some ad → ∀ j u, xs[j]? = some u → w.cell? (ad.add j) = some u
theorem SrcV.own {w : World} {e : TypeId} {size : Nat} {v : Value} {n : Nat} {xs : List Value} (h : w.ownsRow 0 e size v n xs) : SrcV w size v n xs := by
  obtain ⟨a, c, rfl, _, _, h0⟩ := own_shape h
  exact ⟨a, c, rfl, h.1, fun e => (h0 e).1, fun ad e j u hu => own_cell_size h (by rw [e]) j u hu⟩
theorem infoSec : (Tryz.prog.info? 75).map (fun i => (i.zero, i.size, i.bytes)) = some (some (.agg #[.int .i64 0, .int .i64 0]), 2, 16) := by kernel_rfl

set_option maxRecDepth 100000 in
theorem iclone_c (v : Value) (n : Nat) (xs : List Value) (w : World) (h : SrcV w 1 v n xs) (h1 : ∀ u ∈ xs, u.oneCell' = true) (hn : n ≤ 4611686018427387) (hbig : n * 8 ≤ 140737488355328) :
    Calls Tryz.prog 27 #[v] w fun e w' => ∃ v', e = .returned v' ∧ w'.ownsRow w.heap.size 3 1 v' n xs ∧ Below w.heap.size w w' := by
  obtain ⟨i0, hi0, hz0, hz1, hz2⟩ := info_parts infoInt
  have q22 : ∀ (w : World) (a : Option Addr) (n c n' c' : Nat), (binOp .eql 23 (.slice a n c) (.slice none n' c')).run Tryz.prog w = .ok (.bool a.isNone) w := fun w a n c n' c' => Lib.run_eql_slice_nil w _ _ a n c n' c' Tryz.underlying23
  obtain ⟨a, c, rfl, hlen, hno, hcells⟩ := h
  cases a with
  | none =>
    obtain rfl := hno rfl
    obtain rfl : xs = [] := List.eq_nil_of_length_eq_zero (by omega)
    clear hno hcells
    go_enter Tryz.func27, Tryz.ntmps27
    go_wp2_with fail
    go_ret
    exact ⟨_, rfl, World.ownsRow_nil _ _ _ _, Below.refl _ _⟩
  | some ad =>
    have hnew : ((w.alloc (.cells #[] 3)).ownsRow w.heap.size 3 1 (.slice (some ⟨w.heap.size, 0, none⟩) 0 0) 0 []) := World.ownsRow_made w #[] 0 (Nat.le_refl _) (Nat.zero_le _) rfl
    obtain ⟨v1, w1, hr, ho, hg, hb⟩ := run_append_any_own (P := Tryz.prog) (w.alloc (.cells #[] 3)) w.heap.size 23 23 3 i0 (.int .i64 0) 1 8 Tryz.underlying23 hi0 hz0 hz1 hz2 rfl (by decide) _ _ _ hnew (some ad) n c xs hlen
      (fun _ => ⟨ad, rfl, fun j u hu => Lib.cell?_alloc_some _ (hcells ad rfl j u hu)⟩) h1 (by unfold maxLen; omega) (by omega) (by simp)
    obtain ⟨a1, c1, rfl, _⟩ := own_shape (own_base ho)
    have HO := Lib.hid ho
    have HG := Lib.hid hg
    have HR := Lib.hid hr
    clear hcells hno ho hg hr hb hnew
    go_enter Tryz.func27, Tryz.ntmps27
    go_wp2_with (at_builtin; refine Lib.wpList_append_run _ rfl _ _ _ _ rfl _ _ rfl rfl _ w1 HR.out ?_)
    go_ret
    refine ⟨_, rfl, by have := HO.out; rw [Nat.zero_add, List.nil_append] at this; exact this, ?_⟩
    exact ((Below.refl _ w).alloc (Nat.le_refl _) _).grown HG.out (by simp) (fun k hk => by simp [Value.ownBlock] at hk; omega)

end Go.Proofs.YtljgfnglknpfaaaGreatDoor
