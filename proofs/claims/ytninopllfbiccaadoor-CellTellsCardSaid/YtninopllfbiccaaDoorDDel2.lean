/-
  slices.DeleteFunc with the predicate of disk.settle.
-/
import Derived.Test.YtninopllfbiccaaDoorDDel
namespace Go.Proofs.YtninopllfbiccaaDoor
set_option maxRecDepth 100000
open Go Go.RowKit Go.Maps Dk

def noF (f : Nat) (q : List (Nat × Nat)) : List (Nat × Nat) := q.filter fun p => p.1 != f
theorem noF_none {q : List (Nat × Nat)} {f : Nat} (h : NoneOf q f) : noF f q = q := List.filter_eq_self.2 fun p hp => by simpa using h p hp
theorem noF_take {q : List (Nat × Nat)} {f i : Nat} (h : NoneTo q f i) : noF f (q.take i) = q.take i := List.filter_eq_self.2 fun p hp => by
  obtain ⟨j, hj, e⟩ := List.mem_iff_getElem.1 hp
  have hj' : j < i := by simp at hj; omega
  have hp' := h j hj' p (by rw [← e, List.getElem_take]; exact List.getElem?_eq_getElem _)
  simpa using hp'
theorem noF_succ (q : List (Nat × Nat)) (f j : Nat) (p : Nat × Nat) (hp : q[j]? = some p) : noF f (q.take (j + 1)) = noF f (q.take j) ++ (if p.1 = f then [] else [p]) := by
  rw [List.take_add_one, hp]
  unfold noF
  rw [List.filter_append]
  congr 1
  by_cases h : p.1 = f <;> simp [h]
theorem noF_len (q : List (Nat × Nat)) (f j : Nat) : (noF f (q.take j)).length ≤ j := by
  have := List.length_filter_le (fun p : Nat × Nat => p.1 != f) (q.take j)
  simp at this
  unfold noF
  omega

theorem own_at2 {w : World} {e : TypeId} {size : Nat} {v : Value} {n : Nat} {xs : List Value} (h : w.ownsRow 0 e size v n xs) {a : Option Addr} {c : Nat} (hv : v = .slice a n c) (h0 : 0 < n) : ∃ g, a = some ⟨g, 0, none⟩ ∧ v.ownBlock = some g := by
  rcases h.2 with ⟨rfl, rfl⟩ | ⟨g, cap, cur, rfl, _⟩
  · omega
  · injection hv with hv
    exact ⟨g, hv.symm, rfl⟩

set_option maxHeartbeats 1000000 in
set_option maxRecDepth 100000 in
theorem del_c (f : Nat) (bf : Nat) (v : Value) (q : List (Nat × Nat)) (w : World) (h : w.ownsRow 0 84 2 v q.length (secsV q)) (hb : w.cell? ⟨bf, 0, none⟩ = some (.int .i64 (f : Int))) (hap : v.ownBlock ≠ some bf) :
    Calls Tryd.prog 63 #[v, .func (.func 64) #[] #[.pointer (some ⟨bf, 0, none⟩)]] w fun e w' => ∃ v', e = .returned v' ∧ w'.ownsRow 0 84 2 v' (noF f q).length (secsV (noF f q)) ∧ v'.ownBlock = v.ownBlock ∧ Kept (fun k => v.ownBlock = some k) w w' := by
  have hq := (idx_c f bf v q w h hb).mono (R' := fun e w' => Hid (Below w.heap.size w w') ∧ ((∃ i : Nat, i < q.length ∧ ((i : Int) == -1) = false ∧ Hid (FirstAt q f i) ∧ e = .returned (.int .i64 (i : Int))) ∨ (Hid (NoneOf q f) ∧ e = .returned (.int .i64 (-1))))) (by
    rintro e w' ⟨h1, ⟨i, h2, h3⟩ | ⟨h2, h3⟩⟩
    · exact ⟨h1, Or.inl ⟨i, by obtain ⟨n, hn, _⟩ := h2; exact (List.getElem?_eq_some_iff.1 hn).1, by simp, h2, h3⟩⟩
    · exact ⟨h1, Or.inr ⟨h2, h3⟩⟩)
  obtain ⟨a, c, rfl, hc, hcm, hno⟩ := own_shape h
  obtain ⟨L, hL⟩ : ∃ L, L = q.length := ⟨_, rfl⟩
  rw [← hL] at h hc hq hap ⊢
  have hLm : L ≤ 9223372036854775807 := by unfold maxLen at hcm; omega
  have H := Lib.hid h
  have HL := Lib.hid hL
  have HB := Lib.hid hb
  have HN := Lib.hid hno
  have HAP := Lib.hid hap
  have Q := Lib.hid hq
  have HC := Lib.hid hcm
  clear h hL hb hcm hno hap hq
  go_enter Tryd.func63, Tryd.ntmps63
  go_wp2_with (go_at_call 65; refine Q.out.mono ?_; rintro e w1 ⟨hb1, ⟨i0, hi0, hi0n, hfi, rfl⟩ | ⟨hnf, rfl⟩⟩)
  · obtain ⟨n0, hn0, hto⟩ := hfi.out
    have hb1' := hb1.out
    have hk1 : Kept (fun k => k = k) w w1 := Kept.below hb1'
    obtain ⟨g, rfl, hg⟩ := own_at2 H.out rfl (by omega)
    have hk01 : Kept (fun k => k = g) w w1 := Kept.below hb1'
    have h1 := own_kept H.out (Kept.below (S := fun _ => False) hb1') (fun _ _ e => e)
    have H1 := Lib.hid h1
    have HN0 := Lib.hid hn0
    have HTO := Lib.hid hto
    have HK01 := Lib.hid hk01
    have hgl : g < w1.heap.size := own_lt h1 rfl
    have hbf : g ≠ bf := fun e => HAP.out (by rw [e]; rfl)
    have hb' := (Kept.below (S := fun _ => False) hb1').cell HB.out (fun e => e)
    have HB1 := Lib.hid hb'
    clear hn0 hto hb1' hk1 hg hk01 h1 hb' hb1 hfi
    go_loopw [5, 6] (fun v5 v6 wr => ∃ (j : Nat) (M : List (Nat × Nat)), j ≤ L ∧ v6 = .int .i64 (j : Int) ∧ v5 = .int .i64 ((noF f (q.take j)).length : Int) ∧ M.length = L ∧ M.take (noF f (q.take j)).length = noF f (q.take j) ∧ M.drop j = q.drop j ∧
        wr.ownsRow 0 84 2 (.slice (some ⟨g, 0, none⟩) L c) L (secsV M) ∧ Kept (fun k => k = g) w1 wr) (fun _ v6 _ => L - (intOf v6).toNat)
    case atStart =>
      have e : noF f (q.take (i0 + 1)) = q.take i0 := by rw [noF_succ q f i0 _ HN0.out, noF_take HTO.out]; simp
      have e2 : (q.take i0).length = i0 := by have := HL.out; simp; omega
      exact ⟨i0 + 1, q, by omega, by go_num, by rw [e, e2], HL.out.symm, by rw [e, e2], rfl, H1.out, Kept.refl _ _⟩
    case round =>
      obtain ⟨j, M, hj, rfl, rfl, hM, hMt, hMd, hown, hK⟩ := hrel
      obtain ⟨i, hi⟩ : ∃ i, i = (noF f (q.take j)).length := ⟨_, rfl⟩
      rw [← hi]
      have hij : i ≤ j := by rw [hi]; exact noF_len q f j
      have HI := Lib.hid hi
      have HMT := Lib.hid hMt
      have HMD := Lib.hid hMd
      have HO := Lib.hid hown
      have HK := Lib.hid hK
      have HM := Lib.hid hM
      by_cases hjL : j < L
      · have hjL2 : (j : Int) < (L : Int) := by omega
        obtain ⟨p, hp⟩ : ∃ p, q[j]? = some p := ⟨q[j]'(by have := HL.out; omega), List.getElem?_eq_getElem _⟩
        obtain ⟨x, n⟩ := p
        have hMj : M[j]? = some (x, n) := by
          have : (M.drop j)[0]? = (q.drop j)[0]? := by rw [hMd]
          simpa [hp] using this
        have c1 : wr.cell? ⟨g, j * 2, none⟩ = some (.int .i64 (x : Int)) := by
          have := own_cell_size hown rfl _ _ (secsV_get _ j _ hMj).1
          rw [Lib.add_plain, Nat.zero_add] at this
          exact this
        have c2 : wr.cell? ⟨g, j * 2 + 1, none⟩ = some (.int .i64 (n : Int)) := by
          have := own_cell_size hown rfl _ _ (secsV_get _ j _ hMj).2
          rw [Lib.add_plain, Nat.zero_add] at this
          exact this
        have hgw : g < wr.heap.size := own_lt hown rfl
        have hgn : ¬ g = wr.heap.size := by omega
        have hgn' : ¬ wr.heap.size = g := by omega
        obtain ⟨W1, hW1⟩ : ∃ W1, W1 = wr.alloc (.cells #[.int .i64 (x : Int), .int .i64 (n : Int)] 84) := ⟨_, rfl⟩
        have hal : Kept (fun _ => False) wr W1 := by rw [hW1]; exact Kept.alloc _ _ _
        have hbW : W1.cell? ⟨bf, 0, none⟩ = some (.int .i64 (f : Int)) := hal.cell (hK.cell HB1.out (fun e => hbf e.symm)) (fun e => e)
        have hoW := own_kept hown hal (fun _ _ e => e)
        have hsucc := noF_succ q f j _ hp
        have HSC := Lib.hid hsucc
        have HW1 := Lib.hid hW1
        have HAL := Lib.hid hal
        have HOW := Lib.hid hoW
        have HP := Lib.hid hp
        have q0 := pred_c f x n bf W1 hbW
        by_cases hxf : x = f
        · subst hxf
          have e : ((x : Int) == (x : Int)) = true := by simp
          rw [e] at q0
          have Q1 := Lib.hid q0
          clear hM hMt hMd hown hK q0 e hW1 hal hbW hoW hsucc hp hi hMj
          go_wp2_with (go_at_call 64; rw [← HW1.out]; refine Q1.out.mono ?_; rintro e w2 ⟨rfl, hb2⟩)
          go_roundw
          case rel =>
            have hk2 : Kept (fun _ => False) W1 w2 := Kept.below hb2
            have e1 : noF x (q.take (j + 1)) = noF x (q.take j) := by rw [HSC.out]; simp
            exact ⟨j + 1, M, hjL, by go_num, by rw [e1, HI.out], HM.out, by rw [e1]; exact HMT.out, by rw [← List.drop_drop, HMD.out, List.drop_drop], own_kept HOW.out hk2 (fun _ _ e => e), (HK.out.trans HAL.out (fun _ _ e => e.elim)).trans hk2 (fun _ _ e => e.elim)⟩
          case measure => simp [intOf]; omega
        · have e : ((x : Int) == (f : Int)) = false := by simp; omega
          rw [e] at q0
          have q1 := q0.mono (R' := fun e w2 => e = .returned (.bool false) ∧ (w2.cell? ⟨wr.heap.size, 0, none⟩ = some (.int .i64 (x : Int)) ∧ w2.cell? ⟨wr.heap.size, 1, none⟩ = some (.int .i64 (n : Int))) ∧ (∃ y1 y2 : Value, w2.cell? ⟨g, i * 2, none⟩ = some y1 ∧ w2.cell? ⟨g, i * 2 + 1, none⟩ = some y2 ∧ w2.frozen? ⟨g, i * 2, none⟩ = false ∧ w2.frozen? ⟨g, i * 2 + 1, none⟩ = false) ∧ Hid (Below W1.heap.size W1 w2)) (by
            rintro e w2 ⟨rfl, hb2⟩
            have hk2 : Kept (fun _ => False) W1 w2 := Kept.below hb2
            have ho2 := own_kept hoW hk2 (fun _ _ e => e)
            have d1 : W1.cell? ⟨wr.heap.size, 0, none⟩ = some (.int .i64 (x : Int)) := by rw [hW1, Lib.cell_of_heap (heap_alloc_new wr _)]; rfl
            have d2 : W1.cell? ⟨wr.heap.size, 1, none⟩ = some (.int .i64 (n : Int)) := by rw [hW1, Lib.cell_of_heap (heap_alloc_new wr _)]; rfl
            have hiL : i < M.length := by omega
            obtain ⟨p, hp⟩ : ∃ p, M[i]? = some p := ⟨M[i], List.getElem?_eq_getElem hiL⟩
            have g1 := own_cell_size ho2 rfl _ _ (secsV_get _ i _ hp).1
            have g2 := own_cell_size ho2 rfl _ _ (secsV_get _ i _ hp).2
            rw [Lib.add_plain, Nat.zero_add] at g1 g2
            refine ⟨rfl, ⟨hk2.cell d1 (fun e => e), hk2.cell d2 (fun e => e)⟩, ⟨_, _, g1, g2, ?_, ?_⟩, hb2⟩
            · rcases ho2.2 with ⟨e, _⟩ | ⟨g', cap, cur, e, _, hg', _⟩
              · cases e
              · injection e with e; injection e with e; injection e with e; subst e
                exact Lib.frozen_of_heap hg' _
            · rcases ho2.2 with ⟨e, _⟩ | ⟨g', cap, cur, e, _, hg', _⟩
              · cases e
              · injection e with e; injection e with e; injection e with e; subst e
                exact Lib.frozen_of_heap hg' _)
          have Q1 := Lib.hid q1
          have hiL2 : (i : Int) < (L : Int) := by omega
          have hiL : i < L := by omega
          clear hM hMt hMd hown hK q0 q1 e hW1 hal hbW hoW hsucc hp hi hMj
          go_wp2_with (go_at_call 64; rw [← HW1.out]; refine Q1.out.mono ?_; rintro e w2 ⟨rfl, ⟨d1, d2⟩, ⟨y1, y2, i1, i2, z1, z2⟩, hb2⟩)
          go_roundw
          case rel =>
            have hk2 : Kept (fun _ => False) W1 w2 := Kept.below hb2.out
            have ho2 := own_kept HOW.out hk2 (fun _ _ e => e)
            obtain ⟨o1, g1⟩ := ho2.stored (i * 2) (.int .i64 (x : Int))
            obtain ⟨o2, g2⟩ := o1.stored (i * 2 + 1) (.int .i64 (n : Int))
            have hiM : i < M.length := by have := HM.out; omega
            rw [secsV_set M i (x, n) hiM] at o2
            have e1 : noF f (q.take (j + 1)) = noF f (q.take j) ++ [(x, n)] := by rw [HSC.out, if_neg hxf]
            have e2 : (noF f (q.take (j + 1))).length = i + 1 := by rw [e1, List.length_append, ← HI.out]; rfl
            refine ⟨j + 1, M.set i (x, n), hjL, by go_num, by rw [e2]; go_num, by rw [List.length_set]; exact HM.out, ?_, ?_, o2, ?_⟩
            · rw [e2, e1, ← HMT.out, ← HI.out, List.set_eq_take_append_cons_drop, if_pos hiM, List.take_append]
              have e3 : (M.take i).length = i := by simp; omega
              rw [e3, List.take_of_length_le (by simp; omega)]
              simp
            · rw [List.drop_set_of_lt (by omega), ← List.drop_drop, HMD.out, List.drop_drop]
            · exact (((HK.out.trans HAL.out (fun _ _ e => e.elim)).trans hk2 (fun _ _ e => e.elim)).trans (Kept.grown g1 (fun k e => e)) (fun k _ e => by injection e with e; exact e.symm)).trans (Kept.grown g2 (fun k e => e)) (fun k _ e => by injection e with e; exact e.symm)
          case measure => simp [intOf]; omega
      · have hjL2 : ¬ (j : Int) < (L : Int) := by omega
        have hje : j = L := by omega
        have hqt : q.take j = q := List.take_of_length_le (by have := HL.out; omega)
        obtain ⟨A, hA, hA1⟩ := sec_from (some ⟨g, 0, none⟩) L c i (by omega)
        have hst := sec_to (some ⟨g, 0, none⟩) L c i (by omega)
        obtain ⟨wc, hrc, hoc, hgc⟩ := run_clear_tail (P := Tryd.prog) wr 58 0 84 (.agg #[.int .i64 0, .int .i64 0]) 2 Tryd.underlying58 (fun w => by kernel_rfl) rfl (by intro u hu; simp [Value.cells] at hu; rcases hu with rfl | rfl <;> rfl) g L c (secsV M) hown i (by omega) A (c - i) (fun h0 => by rw [hA1 (by omega)]; simp [Addr.add_lit])
        have HRC := Lib.hid hrc
        have HOC := Lib.hid hoc
        have HGC := Lib.hid hgc
        have HQT := Lib.hid hqt
        clear hM hMt hMd hown hK hA1 hrc hoc hgc hi hqt
        go_wp2_with ((with_reducible show wpList _ _ _ (Oper.mk _ (Op.call { callee := Callee.builtin Builtin.clear, args := _, argTypes := _ }) _ _ _ _ :: _) _ _); refine wpList_clear_run rfl _ _ rfl _ rfl wc HRC.out ?_)
        go_ret
        have e1 : noF f q = noF f (q.take j) := by rw [HQT.out]
        have e2 : (noF f q).length = i := by rw [e1, HI.out]
        have hkc : Kept (fun k => Value.ownBlock (.slice (some ⟨g, 0, none⟩) L c) = some k) w wc := by
          have h1 := (HK01.out.trans HK.out (fun _ _ e => e)).trans (Kept.grown HGC.out (fun k e => e)) (fun k _ e => by injection e with e; exact e.symm)
          exact h1.mono (fun k _ e => by rw [e]; rfl)
        refine ⟨.slice (some ⟨g, 0, none⟩) i c, rfl, ?_, rfl, hkc⟩
        have h2 := HOC.out
        have e3 : M.take i = noF f q := by rw [HI.out, HMT.out, e1]
        rw [secsV_take, e3] at h2
        rw [e2]
        exact h2
  · go_ret
    refine ⟨_, rfl, ?_, rfl, Kept.below hb1.out⟩
    rw [noF_none hnf.out, ← HL.out]
    exact own_kept H.out (Kept.below (S := fun _ => False) hb1.out) (fun _ _ e => e)
end Go.Proofs.YtninopllfbiccaaDoor
