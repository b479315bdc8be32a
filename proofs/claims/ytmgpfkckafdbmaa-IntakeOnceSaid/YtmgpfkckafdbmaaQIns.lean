/-
  slices.Insert of one producer into a table that fills its block.
-/
import Derived.Test.YtmgpfkckafdbmaaQClone
namespace Go.Proofs.Ytmgpfkckafdbmaa
set_option maxRecDepth 100000
open Go Go.RowKit Pq

theorem sizeElemPP (wx : World) : ((sizeOf (Try.prog.elem 45)).run Try.prog wx) = .ok 4 wx := by
  obtain ⟨i0, hi, hz0, hz1, hz2⟩ := info_parts infoPP
  have e : Try.prog.elem 45 = 70 := by kernel_rfl
  rw [e]; simp [sizeOf, typeInfo, hi, hz1]
theorem pp_from (a : Option Addr) (n c k : Nat) (h : k ≤ n) : ∃ A, (∀ wx : World, (Instr.slice 45 (.slice a n c) (some (.int .i64 (k : Int))) none none).run Try.prog wx = .ok (.slice A (n - k) (c - k)) wx) ∧ (k < c → A = a.map (·.add (k * 4))) := by
  refine ⟨if c = k then a else a.map (·.add (k * 4)), fun wx => ?_, fun h => by simp [show c ≠ k by omega]⟩
  have hs := run_slice_l (P := Try.prog) wx 45 a n c Try.underlying45 .i64 k (by omega) (by omega)
  rw [hs, sizeElemPP wx]
  simp [Result.andThen, sliced]
theorem pp_to (a : Option Addr) (n c h : Nat) (h2 : h ≤ c) (wx : World) : (Instr.slice 45 (.slice a n c) none (some (.int .i64 (h : Int))) none).run Try.prog wx = .ok (.slice a h c) wx := by
  have hs := run_slice_h (P := Try.prog) wx 45 a n c Try.underlying45 .i64 h (by omega) (by omega)
  rw [hs, sizeElemPP wx]
  cases a <;> simp [Result.andThen, sliced, Addr.add]
theorem splice_app {α : Type} (A R cs : List α) : splice (A ++ R) A.length cs = A ++ (cs ++ R.drop cs.length) := by
  unfold splice
  rw [List.take_left, List.drop_length_add_append]
theorem src_block {G : Nat → Prop} {w : World} {b : Nat} {cs xs : List Value} {T : TypeId} {f : Nat × Nat} (h : w.heap[b]? = some (.cells cs.toArray T f)) (hG : G b) {n c : Nat} (hn : n ≤ c) (hx : ∃ R, cs = xs ++ R) : Src G w (some ⟨b, 0, none⟩) c n xs := by
  obtain ⟨R, rfl⟩ := hx
  refine ⟨hn, fun _ => ⟨b, 0, rfl, hG, fun j u hu => ?_⟩⟩
  rw [Nat.zero_add]
  refine cell_block h ?_
  rw [List.getElem?_append_left (List.getElem?_eq_some_iff.1 hu).1]
  exact hu
set_option maxHeartbeats 4000000 in
theorem insert_c {w : World} {T B n : Nat} {l : List PP} {x : PP} (hT : w.heap[T]? = some (.cells (ppsV l).toArray 70 (0, 0))) (hB : x.at w B) (hl : n = l.length) (hn : n ≤ 1000) {k : Nat} (hk : k ≤ n) :
    Calls Try.prog 50 #[.slice (some ⟨T, 0, none⟩) n n, .int .i64 (k : Int), .slice (some ⟨B, 0, none⟩) 1 1] w fun r w' => ∃ a' c', r = .returned (.slice a' (n + 1) c') ∧ Src (fun b => T ≤ b) w' a' c' (n + 1) (ppsV (l.take k ++ x :: l.drop k)) ∧ Kept (fun b => b = T) w w' := by
  have hTl : T < w.heap.size := box_lt hT
  obtain ⟨A1, hA1, hA1'⟩ := pp_from (some ⟨T, 0, none⟩) n n k hk
  have hxc : ppsV [x] = x.cells := by simp [ppsV]
  by_cases hkn : k = n
  · subst hkn
    obtain ⟨i0, hi0, hz0, hz1, hz2⟩ := info_parts infoPP
    have hown : w.ownsRow 0 70 4 (.slice (some ⟨T, 0, none⟩) k k) k (ppsV l) := ⟨by rw [ppsV_length, hl], Or.inr ⟨T, k, _, rfl, Nat.zero_le _, hT, Nat.le_refl _, by unfold maxLen; omega, by simp [ppsV_length, hl], by rw [List.take_of_length_le (by simp [ppsV_length, hl])]⟩⟩
    obtain ⟨v', w', hr, hown', hgr, hbl⟩ := run_append_any_own (P := Try.prog) w 0 45 45 70 i0 _ 4 48 Try.underlying45 hi0 hz0 hz1 hz2 rfl (by decide) _ k (ppsV l) hown
      (some ⟨B, 0, none⟩) 1 1 (ppsV [x]) (ppsV_length _) (fun _ => ⟨_, rfl, fun j u hu => by
        rw [Lib.add_plain, Nat.zero_add]
        rw [hxc] at hu
        exact cell_block (cs := x.cells) hB hu⟩) (ppsV_one _) (by unfold maxLen; omega) (by omega) (Nat.zero_le _)
    obtain ⟨a', c', rfl, hc', _⟩ := own_shape hown'
    rw [← ppsV_app] at hown'
    have e : l.take k ++ x :: l.drop k = l ++ [x] := by rw [hl, List.take_length, List.drop_length]
    rw [e]
    have HS := Lib.hid (Src.own (G := fun b => T ≤ b) hown' (fun j hj => by
      rcases hbl with e | e
      · rw [hj] at e
        have e : j = T := by simpa [Value.ownBlock] using e
        show T ≤ j
        omega
      · rw [hj] at e
        injection e with e
        show T ≤ j
        omega))
    have HK := Lib.hid (Kept.grown (S := fun b => b = T) hgr (fun j hj => by injection hj with hj; exact hj.symm))
    have HR := Lib.hid hr
    clear hT hB hown hown' hgr hbl hr hl hA1' e
    go_enter Try.func50, Try.ntmps50
    go_wp2_with (at_builtin; refine Lib.wpList_append_run _ rfl _ _ _ _ rfl _ _ rfl rfl _ w' HR.out ?_)
    go_ret
    exact ⟨a', c', rfl, HS.out, HK.out⟩
  · have hkn' : k < n := by omega
    have hkn2 : ((k : Int) == (n : Int)) = false := by simp; omega
    have hto := pp_to (some ⟨T, 0, none⟩) n n k hk
    obtain ⟨i0, hi0, hz0, hz1, hz2⟩ := info_parts infoPP
    obtain ⟨q, hq⟩ : ∃ q : Nat, q = n + 1 - k := ⟨_, rfl⟩
    have holds : (Builtin.firstCells i0.size k (.slice (some ⟨T, 0, none⟩) k n)).run Try.prog w.drew = .ok (ppsV (l.take k)).toArray w.drew := by
      have hl4 : k * i0.size = (ppsV (l.take k)).length := by rw [hz1, ppsV_length, List.length_take]; congr 1; omega
      show (loadCells _ (k * i0.size)).run _ _ = _
      rw [hl4]
      refine run_loadCells_list w.drew _ _ (fun j u hu => ?_)
      rw [Lib.add_plain, Nat.zero_add]
      refine cell_block (show w.drew.heap[T]? = _ from hT) ?_
      rw [← ppsV_take, List.getElem?_take] at hu
      split at hu
      · exact hu
      · cases hu
    have hgr := Lib.run_append_grow_zeros (P := Try.prog) w 45 3 45 70 i0 _ .i64 .i64 Try.underlying45 Try.underlying3 hi0 hz0 (some ⟨T, 0, none⟩) k n (ppsV (l.take k)) holds q (by omega) (by rw [hz1]; omega) (by omega) (by omega) (by rw [hz2]; omega) (by rw [hz2]; exact growslice_fits (by omega) (by omega))
    have hge := grownCap_ge w (k + q) n 70
    rw [show k + q = n + 1 by omega] at hgr hge
    generalize grownCap w (n + 1) n 70 = C at hgr hge
    obtain ⟨R, hR, hRl⟩ : ∃ R : List Value, (ppsV (l.take k)).toArray ++ Builtin.zeroCells (Value.agg #[Value.int .i64 0, .int .i64 0, .int .i64 0, .slice none 0 0]).cells q ++ Builtin.zeroCells (Value.agg #[Value.int .i64 0, .int .i64 0, .int .i64 0, .slice none 0 0]).cells (C - (n + 1)) = (ppsV (l.take k) ++ R).toArray ∧ R.length = (q + (C - (n + 1))) * 4 := by
      refine ⟨(Builtin.zeroCells (Value.agg #[Value.int .i64 0, .int .i64 0, .int .i64 0, .slice none 0 0]).cells q).toList ++ (Builtin.zeroCells (Value.agg #[Value.int .i64 0, .int .i64 0, .int .i64 0, .slice none 0 0]).cells (C - (n + 1))).toList, ?_, ?_⟩
      · apply Array.toList_inj.1
        simp
      · rw [List.length_append, Array.length_toList, Array.length_toList, size_zeroCells, size_zeroCells, Nat.add_mul]
        rfl
    rw [hR] at hgr
    obtain ⟨WA, hWA⟩ : ∃ WA, WA = w.drew.alloc (.cells (ppsV (l.take k) ++ R).toArray 70) := ⟨_, rfl⟩
    rw [← hWA] at hgr
    have hbA : Below w.heap.size w WA := by rw [hWA]; exact (below_drew (Below.refl _ _)).trans (below_new w.drew _)
    have hgA : WA.heap[w.heap.size]? = some (.cells (ppsV (l.take k) ++ R).toArray 70 (0, 0)) := by rw [hWA]; exact box_new w.drew _
    have hTk : (l.take k).length = k := by rw [List.length_take]; omega
    have hl1 : (ppsV (l.take k)).length = k * 4 := by rw [ppsV_length, hTk]
    obtain ⟨A2, hA2, hA2'⟩ := pp_from (some ⟨w.heap.size, 0, none⟩) (n + 1) C k (by omega)
    obtain ⟨w1, hc1, hg1, hk1⟩ := run_copy_blk (P := Try.prog) WA 45 45 3 70 4 w.heap.size (k * 4) (n + 1 - k) (C - k) (some ⟨B, 0, none⟩) 1 1 _ _ (ppsV [x]) Try.underlying45 sizePP hgA 1 (show 1 = min 1 (n + 1 - k) by omega) (by rw [ppsV_length]; rfl) A2
      (fun _ => ⟨by rw [hA2' (by omega), Option.map_some, Lib.add_plain, Nat.zero_add], _, rfl, fun j u hu => by
        rw [Lib.add_plain, Nat.zero_add]
        rw [hxc] at hu
        exact cell_block (cs := x.cells) (box_on hB hbA) hu⟩) (by rw [ppsV_length, List.length_append, hl1, hRl]; simp; omega) (ppsV_one _)
    rw [← hl1, splice_app, ← List.append_assoc, ← ppsV_app] at hg1
    obtain ⟨A3, hA3, hA3'⟩ := pp_from (some ⟨w.heap.size, 0, none⟩) (n + 1) C (k + 1) (by omega)
    have hdl : (l.drop k).length = n - k := by rw [List.length_drop, hl]
    have hl2 : (ppsV (l.take k ++ [x])).length = (k + 1) * 4 := by rw [ppsV_length, List.length_append, hTk]; rfl
    obtain ⟨w2, hc2, hg2, hk2⟩ := run_copy_blk (P := Try.prog) w1.drew 45 45 3 70 4 w.heap.size ((k + 1) * 4) (n + 1 - (k + 1)) (C - (k + 1)) A1 (n - k) (n - k) _ _ (ppsV (l.drop k)) Try.underlying45 sizePP hg1 (n - k) (show n - k = min (n - k) (n + 1 - (k + 1)) by omega) (by rw [ppsV_length, hdl]) A3
      (fun _ => ⟨by rw [hA3' (by omega), Option.map_some, Lib.add_plain, Nat.zero_add], ⟨T, k * 4, none⟩, by rw [hA1' hkn', Option.map_some, Lib.add_plain, Nat.zero_add], fun j u hu => by
        rw [Lib.add_plain]
        have h1 : w1.heap[T]? = some (.cells (ppsV l).toArray 70 (0, 0)) := hk1.heap (box_on hT hbA) (by omega)
        refine cell_block (show w1.drew.heap[T]? = _ from h1) ?_
        rw [← ppsV_drop, List.getElem?_drop] at hu
        exact hu⟩) (by rw [ppsV_length, hdl, List.length_append, hl2, List.length_drop, hRl]; simp [ppsV_length]; omega) (ppsV_one _)
    rw [← hl2, splice_app, ← List.append_assoc, ← ppsV_app, List.append_assoc] at hg2
    have hb2 : Below w.heap.size w w2 := hbA.trans ((hk1.toBelow hbA.size (fun k hk => by omega)).trans ((below_drew (Below.refl _ _)).trans (hk2.toBelow (Nat.le_trans hbA.size hk1.size) (fun k hk => by omega))))
    have HS := Lib.hid (src_block (G := fun b => T ≤ b) (n := n + 1) (c := C) hg2 (Nat.le_of_lt hTl) hge ⟨_, rfl⟩)
    have HB := Lib.hid hb2
    have hwq : IntKind.i64.wrap ((n : Int) + 1 - (k : Int)) = (q : Int) := by rw [IntKind.wrap_i64]; omega
    simp only [Int.natCast_add, Int.natCast_one] at hA3
    have hwk : IntKind.i64.wrap ((k : Int) + 1) = (k : Int) + 1 := by rw [IntKind.wrap_i64]; omega
    rw [show n + 1 - (k + 1) = n - k by omega] at hA3 hc2
    have HG := Lib.hid hgr
    have HC1 := Lib.hid hc1
    have HC2 := Lib.hid hc2
    clear hT hB hgr hWA hbA hgA hg1 hk1 hc1 hc2 hg2 hk2 hb2 hR hRl holds hl1 hl2 hdl hTk hl hA1' hA2' hA3' hz0 hi0 hz1 hz2 hq
    go_enter Try.func50, Try.ntmps50
    go_upto_region 11 with (first | (at_builtin; refine Lib.wpList_append_run _ rfl _ _ _ _ rfl _ _ rfl rfl _ WA HG.out ?_) | ((with_reducible show wpList _ _ _ (Oper.mk _ (Op.call { callee := Callee.builtin Builtin.copy, args := _, argTypes := _ }) _ _ _ _ :: _) _ _); refine wpList_copy_run rfl _ _ _ _ rfl _ _ rfl rfl _ _ HC1.out ?_))
    have hc2 := HC2.out
    go_region
    all_goals (go_wp2_with fail)
    all_goals go_ret
    all_goals exact ⟨_, C, rfl, HS.out, Kept.below HB.out⟩
end Go.Proofs.Ytmgpfkckafdbmaa
