/-
  slices.Clone of known columns and of columns; Know: the known columns are copied, each with columns of its own.
-/
import Derived.Test.YtmgpfkckafdbmaaIMem
namespace Go.Proofs.Ytmgpfkckafdbmaa
set_option maxRecDepth 100000
open Go Go.RowKit

theorem infoKP : (Try.prog.info? 53).map (fun i => (i.zero, i.size, i.bytes)) = some (some (.agg #[.string ⟨#[]⟩, .int .i64 0, .slice none 0 0]), 3, 48) := by kernel_rfl
theorem infoCP : (Try.prog.info? 50).map (fun i => (i.zero, i.size, i.bytes)) = some (some (.agg #[.string ⟨#[]⟩, .int .i64 0, .string ⟨#[]⟩]), 3, 40) := by kernel_rfl
theorem info_partsI {P : Program} {e : TypeId} {z : Value} {n b : Nat} (h : (P.info? e).map (fun i => (i.zero, i.size, i.bytes)) = some (some z, n, b)) : ∃ i, P.info? e = some i ∧ i.zero = some z ∧ i.size = n ∧ i.bytes = b := by
  cases q : P.info? e with
  | none => rw [q] at h; cases h
  | some i =>
    rw [q] at h
    simp only [Option.map_some, Option.some.injEq, Prod.mk.injEq] at h
    exact ⟨i, rfl, h.1, h.2.1, h.2.2⟩
theorem src_cells {G : Nat → Prop} {w : World} {a : Option Addr} {c n : Nat} {xs : List Value} (h : Src G w a c n xs) (h0 : 0 < n) : ∃ ad, a = some ad ∧ ∀ j u, xs[j]? = some u → w.cell? (ad.add j) = some u := by
  obtain ⟨b, off, h1, _, h3⟩ := h.2 h0
  exact ⟨_, h1, fun j u hu => by rw [Lib.add_plain]; exact h3 j u hu⟩
set_option maxHeartbeats 1000000 in
theorem cloneC_c {G : Nat → Prop} {w : World} {a : Option Addr} {c : Nat} {l : List CP} (h : Src G w a c l.length (cpsV l)) (hn : l.length ≤ 1000) :
    Calls Try.prog 23 #[.slice a l.length c] w fun e w' => ∃ a' c', e = .returned (.slice a' l.length c') ∧ Src (fun k => w.heap.size ≤ k) w' a' c' l.length (cpsV l) ∧ Below w.heap.size w w' := by
  obtain ⟨i0, hi0, hz0, hz1, hz2⟩ := info_partsI infoCP
  have q22 : ∀ (w : World) (a : Option Addr) (n c n' c' : Nat), (binOp .eql 51 (.slice a n c) (.slice none n' c')).run Try.prog w = .ok (.bool a.isNone) w := fun w a n c n' c' => Lib.run_eql_slice_nil w _ _ a n c n' c' Try.underlying51
  cases a with
  | none =>
    have h0 := h.some rfl
    obtain rfl : l = [] := List.eq_nil_of_length_eq_zero h0
    clear h h0
    go_enter Try.func23, Try.ntmps23
    go_wp2_with fail
    go_ret
    exact ⟨none, 0, rfl, Src.nil _ _, Below.refl _ _⟩
  | some ad =>
    have hnew : ((w.alloc (.cells #[] 50)).ownsRow w.heap.size 50 3 (.slice (some ⟨w.heap.size, 0, none⟩) 0 0) 0 []) := World.ownsRow_made w #[] 0 (Nat.le_refl _) (Nat.zero_le _) rfl
    obtain ⟨v1, w1, hr, ho, hg, hb⟩ := run_append_any_own (P := Try.prog) (w.alloc (.cells #[] 50)) w.heap.size 51 51 50 i0 _ 3 40 Try.underlying51 hi0 hz0 hz1 hz2 rfl (by decide) _ _ _ hnew (some ad) l.length c (cpsV l) (cpsV_length l)
      (fun h0 => src_cells (h.on ((Below.refl _ _).alloc (Nat.le_refl _) _)) h0) (cpsV_one l) (by unfold maxLen; omega) (by omega) (by simp)
    obtain ⟨a1, c1, rfl, _⟩ := own_shape (own_base ho)
    rw [Nat.zero_add, List.nil_append] at ho
    have HS := Lib.hid (Src.own (G := fun k => w.heap.size ≤ k) (by simpa using ho) (fun k hk => own_above ho (by simpa using hk)))
    have HG := Lib.hid hg
    obtain ⟨L, hL⟩ : ∃ L, L = l.length := ⟨_, rfl⟩
    rw [← hL] at hr HS hn ⊢
    have HR := Lib.hid hr
    clear h ho hg hr hb hnew hL
    go_enter Try.func23, Try.ntmps23
    go_wp2_with (at_builtin; refine Lib.wpList_append_run _ rfl _ _ _ _ rfl _ _ rfl rfl _ w1 HR.out ?_)
    go_ret
    refine ⟨a1, c1, ?_, HS.out, ?_⟩
    · rfl
    exact ((Below.refl _ w).alloc (Nat.le_refl _) _).grown HG.out (by simp) (fun k hk => by simp [Value.ownBlock] at hk; omega)
set_option maxHeartbeats 1000000 in
theorem cloneK_c {G : Nat → Prop} {w : World} {a : Option Addr} {c : Nat} {l : List KP} (h : Src G w a c l.length (kpsV l)) (hn : l.length ≤ 1000) :
    Calls Try.prog 22 #[.slice a l.length c] w fun e w' => ∃ a' c', e = .returned (.slice a' l.length c') ∧ w'.ownsRow w.heap.size 53 3 (.slice a' l.length c') l.length (kpsV l) ∧ Below w.heap.size w w' := by
  obtain ⟨i0, hi0, hz0, hz1, hz2⟩ := info_partsI infoKP
  have q22 : ∀ (w : World) (a : Option Addr) (n c n' c' : Nat), (binOp .eql 28 (.slice a n c) (.slice none n' c')).run Try.prog w = .ok (.bool a.isNone) w := fun w a n c n' c' => Lib.run_eql_slice_nil w _ _ a n c n' c' Try.underlying28
  cases a with
  | none =>
    have h0 := h.some rfl
    obtain rfl : l = [] := List.eq_nil_of_length_eq_zero h0
    clear h h0
    go_enter Try.func22, Try.ntmps22
    go_wp2_with fail
    go_ret
    exact ⟨none, 0, rfl, World.ownsRow_nil _ _ _ _, Below.refl _ _⟩
  | some ad =>
    have hnew : ((w.alloc (.cells #[] 53)).ownsRow w.heap.size 53 3 (.slice (some ⟨w.heap.size, 0, none⟩) 0 0) 0 []) := World.ownsRow_made w #[] 0 (Nat.le_refl _) (Nat.zero_le _) rfl
    obtain ⟨v1, w1, hr, ho, hg, hb⟩ := run_append_any_own (P := Try.prog) (w.alloc (.cells #[] 53)) w.heap.size 28 28 53 i0 _ 3 48 Try.underlying28 hi0 hz0 hz1 hz2 rfl (by decide) _ _ _ hnew (some ad) l.length c (kpsV l) (kpsV_length l)
      (fun h0 => src_cells (h.on ((Below.refl _ _).alloc (Nat.le_refl _) _)) h0) (kpsV_one l) (by unfold maxLen; omega) (by omega) (by simp)
    obtain ⟨a1, c1, rfl, _⟩ := own_shape (own_base ho)
    rw [Nat.zero_add, List.nil_append] at ho
    have HS := Lib.hid ho
    have HG := Lib.hid hg
    obtain ⟨L, hL⟩ : ∃ L, L = l.length := ⟨_, rfl⟩
    rw [← hL] at hr HS hn ⊢
    have HR := Lib.hid hr
    clear h ho hg hr hb hnew hL
    go_enter Try.func22, Try.ntmps22
    go_wp2_with (at_builtin; refine Lib.wpList_append_run _ rfl _ _ _ _ rfl _ _ rfl rfl _ w1 HR.out ?_)
    go_ret
    refine ⟨a1, c1, ?_, ?_, ?_⟩
    · rfl
    · exact HS.out
    exact ((Below.refl _ w).alloc (Nat.le_refl _) _).grown HG.out (by simp) (fun k hk => by simp [Value.ownBlock] at hk; omega)
end Go.Proofs.Ytmgpfkckafdbmaa
