/-
  clone: a table with memory of its own.
-/
import Derived.Test.YtmgpfkckafdbmaaQLookC
import Derived.Deep.OwnRows
namespace Go.Proofs.Ytmgpfkckafdbmaa
set_option maxRecDepth 100000
open Go Go.RowKit Pq

theorem mk_pps (n : Nat) (hn : n ≤ 100000) : ∃ Z : List Value, Z.length = n * 4 ∧ ∀ W : World, (Instr.makeSlice 45 (.int .i64 (n : Int)) (.int .i64 (n : Int))).run Try.prog W = .ok (.slice (some ⟨W.heap.size, 0, none⟩) n n) (W.alloc (.cells Z.toArray 70)) := by
  obtain ⟨i, hi, hz, hs, hb⟩ := info_parts infoPP
  refine ⟨(madeCells #[Value.int .i64 0, .int .i64 0, .int .i64 0, .slice none 0 0] (n * 4)).toList, by simp [size_madeCells], fun W => ?_⟩
  have hr := run_make (P := Try.prog) W 45 70 i _ Try.underlying45 hi hz .i64 .i64 n n (by omega) (Int.le_refl _) (by rw [hb]; omega) (by omega)
  simp only [Int.toNat_natCast, hs] at hr
  exact hr
theorem infoIntQ : (Try.prog.info? 3).map (fun i => (i.zero, i.size, i.bytes)) = some (some (.int .i64 0), 1, 8) := by kernel_rfl
theorem mk_nums (n : Nat) (hn : n ≤ 100000) : ∃ Z : List Value, Z.length = n ∧ ∀ W : World, (Instr.makeSlice 32 (.int .i64 (n : Int)) (.int .i64 (n : Int))).run Try.prog W = .ok (.slice (some ⟨W.heap.size, 0, none⟩) n n) (W.alloc (.cells Z.toArray 3)) :=
  ⟨(madeCells #[Value.int .i64 0] n).toList, by simp [size_madeCells], fun W => run_make_row' (P := Try.prog) 32 3 (.int .i64 0) 8 Try.underlying32 infoIntQ rfl .i64 .i64 n (by omega) (by omega) W⟩
theorem splice_all {α : Type} (Z cs : List α) (h : Z.length = cs.length) : splice Z 0 cs = cs := by
  unfold splice
  rw [List.take_zero, List.nil_append, Nat.zero_add, ← h, List.drop_length, List.append_nil]
theorem sizeInt : (Try.prog.info? 3).map (·.size) = some 1 := by kernel_rfl
theorem cell_block {w : World} {b : Nat} {cs : List Value} {T : TypeId} {f : Nat × Nat} (h : w.heap[b]? = some (.cells cs.toArray T f)) {j : Nat} {v : Value} (hj : cs[j]? = some v) : w.cell? ⟨b, j, none⟩ = some v := by
  rw [Lib.cell_of_heap h]
  simpa using hj
set_option maxHeartbeats 4000000 in
theorem clone_c {w : World} {a : Option Addr} {c : Nat} {l : List PP} (h : Tb (fun _ => True) w a c l) (hn : l.length ≤ 100000) (hd : ∀ x ∈ l, x.p.last.length ≤ 100000) :
    Calls Try.prog 40 #[.slice a l.length c] w fun r w' => r = .returned (.slice (some ⟨w.heap.size, 0, none⟩) l.length l.length) ∧ (∃ L' : List PP, tab L' = tab l ∧ w'.heap[w.heap.size]? = some (.cells (ppsV L').toArray 70 (0, 0)) ∧ ∀ x ∈ L', x.ok (fun k => w.heap.size < k) w') ∧ Below w.heap.size w w' := by
  obtain ⟨n, hL⟩ : ∃ n, n = l.length := ⟨_, rfl⟩
  obtain ⟨Z, hZ, hmk⟩ := mk_pps n (by omega)
  obtain ⟨W1, hW1⟩ : ∃ W1, W1 = w.alloc (.cells Z.toArray 70) := ⟨_, rfl⟩
  have hmk1 := hmk w
  rw [← hW1] at hmk1
  have hb1 : Below w.heap.size w W1 := by rw [hW1]; exact below_new w _
  have hg1 : W1.heap[w.heap.size]? = some (.cells Z.toArray 70 (0, 0)) := by rw [hW1]; exact box_new w _
  obtain ⟨w2, hcp, hg2, hk2⟩ := run_copy_blk (P := Try.prog) W1 45 45 3 70 4 w.heap.size 0 n n a n c Z _ (ppsV l) Try.underlying45 sizePP hg1 n (by simp) (by rw [ppsV_length, hL]) (some ⟨w.heap.size, 0, none⟩)
    (fun h0 => ⟨rfl, by
      obtain ⟨b, off, e, _, hc⟩ := (h.row.on hb1).2 (by omega)
      exact ⟨⟨b, off, none⟩, e, fun j u hu => by rw [Lib.add_plain]; exact hc j u hu⟩⟩) (by rw [ppsV_length, hZ, hL]; omega) (ppsV_one l)
  rw [splice_all _ _ (by rw [ppsV_length, hZ, hL])] at hg2
  have hb2 : Below w.heap.size w w2 := hb1.trans (hk2.toBelow hb1.size (fun k hk => by omega))
  have hlt2 : w.heap.size < w2.heap.size := (Array.getElem?_eq_some_iff.1 hg2).1
  have HL := Lib.hid hL
  have HT := Lib.hid (fun (W : World) (hW : Below w.heap.size w W) => h.on hW)
  have HD := Lib.hid hd
  have HCP := Lib.hid hcp
  have HG2 := Lib.hid hg2
  have HB2 := Lib.hid hb2
  rw [← hL] at hn ⊢
  clear hmk hW1 hb1 hg1 hk2 hcp hg2 hb2 h hd hL hZ
  go_enter Try.func40, Try.ntmps40
  go_wp2_with ((with_reducible show wpList _ _ _ (Oper.mk _ (Op.call { callee := Callee.builtin Builtin.copy, args := _, argTypes := _ }) _ _ _ _ :: _) _ _); refine wpList_copy_run rfl _ _ _ _ rfl _ _ rfl rfl _ _ HCP.out ?_)
  go_loopw [14] (fun v14 wr => ∃ (k : Nat) (L' : List PP), k ≤ n ∧ v14 = .int .i64 (k : Int) ∧ Hid (tab L' = tab l) ∧ Hid (wr.heap[w.heap.size]? = some (.cells (ppsV L').toArray 70 (0, 0))) ∧ Hid (∀ i x, i < k → L'[i]? = some x → x.ok (fun b => w.heap.size < b) wr) ∧ Hid (∀ i, k ≤ i → L'[i]? = l[i]?) ∧ Hid (Below w.heap.size w wr)) (fun v14 _ => n - (intOf v14).toNat)
  case atStart => exact ⟨0, l, Nat.zero_le _, rfl, Lib.hid rfl, HG2, Lib.hid (fun i x hi => absurd hi (Nat.not_lt_zero _)), Lib.hid (fun i _ => rfl), HB2⟩
  case round =>
    obtain ⟨k, L', hk, rfl, h1, h2, h3, h4, h5⟩ := hrel
    by_cases hkn : k < n
    · have hkn' : (k : Int) < (n : Int) := by omega
      obtain ⟨x, hx⟩ : ∃ x, l[k]? = some x := ⟨l[k]'(by have := HL.out; omega), List.getElem?_eq_getElem _⟩
      have hx' : L'[k]? = some x := by rw [h4.out k (Nat.le_refl _), hx]
      have hxm : x ∈ l := List.mem_of_getElem? hx
      have hlast := HD.out x hxm
      have hTw := HT.out wr h5.out
      obtain ⟨b, off, rfl, hc⟩ := pp_cells hTw.row rfl hx
      have c0 := hc.c0
      have c1 := hc.c1
      have c2 := hc.c2
      have c3 := hc.c3
      have hTlt : w.heap.size < wr.heap.size := (Array.getElem?_eq_some_iff.1 h2.out).1
      obtain ⟨W2, hW2⟩ : ∃ W2, W2 = wr.alloc x.obj := ⟨_, rfl⟩
      have hb2 : Below wr.heap.size wr W2 := by rw [hW2]; exact below_new wr _
      have hx2 : x.at W2 wr.heap.size := by rw [hW2]; exact box_new wr _
      have hs2 : W2.heap.size = wr.heap.size + 1 := by rw [hW2]; simp
      have d3 := hx2.cells.c3
      obtain ⟨Zk, hZk, hmk⟩ := mk_nums x.p.last.length hlast
      obtain ⟨W3, hW3⟩ : ∃ W3, W3 = W2.alloc (.cells Zk.toArray 3) := ⟨_, rfl⟩
      have hmk3 := hmk W2
      rw [← hW3] at hmk3
      have hb3 : Below W2.heap.size W2 W3 := by rw [hW3]; exact below_new W2 _
      have hg3 : W3.heap[W2.heap.size]? = some (.cells Zk.toArray 3 (0, 0)) := by rw [hW3]; exact box_new W2 _
      have hT3 : W3.heap[w.heap.size]? = some (.cells (ppsV L').toArray 70 (0, 0)) := box_on (box_on h2.out hb2) hb3
      have cT := cell_block hT3 (ppsV_get L' k x hx' 3 _ rfl)
      have fT := Lib.frozen_of_heap hT3 (k * 4 + 3)
      obtain ⟨W4, hW4⟩ : ∃ W4, W4 = W3.setCell ⟨w.heap.size, k * 4 + 3, none⟩ (.slice (some ⟨W2.heap.size, 0, none⟩) x.p.last.length x.p.last.length) := ⟨_, rfl⟩
      have hk4 : Kept (fun b => b = w.heap.size) W3 W4 := by rw [hW4]; exact Kept.set _ _ _ _
      have hT4 : W4.heap[w.heap.size]? = some (.cells (ppsV (L'.set k ⟨x.p, some ⟨W2.heap.size, 0, none⟩, x.p.last.length⟩)).toArray 70 (0, 0)) := by
        rw [hW4, box_set hT3, List.setIfInBounds_toArray, ppsV_set L' k x ⟨x.p, some ⟨W2.heap.size, 0, none⟩, x.p.last.length⟩ hx' rfl]
      have hg4 : W4.heap[W2.heap.size]? = some (.cells Zk.toArray 3 (0, 0)) := hk4.heap hg3 (by omega)
      have hx4 : x.at W4 wr.heap.size := hk4.heap (box_on hx2 hb3) (by omega)
      have hset : (L'.set k ⟨x.p, some ⟨W2.heap.size, 0, none⟩, x.p.last.length⟩)[k]? = some ⟨x.p, some ⟨W2.heap.size, 0, none⟩, x.p.last.length⟩ := List.getElem?_set_self (List.getElem?_eq_some_iff.1 hx').1
      have e3 := cell_block hT4 (ppsV_get _ k _ hset 3 _ rfl)
      have e4 := hx4.cells.c3
      have hok4 : x.ok (fun _ => True) W4 := by
        have h0 := (hTw.last x hxm).on hb2
        have hbb : Below w.heap.size w W2 := h5.out.trans (hb2.mono (Nat.le_of_lt hTlt))
        have hb4 : Below w.heap.size w W4 := (hbb.trans (hb3.mono (by omega))).trans (hk4.toBelow (by have := hb3.size; omega) (fun k hk => by omega))
        exact (HT.out W4 hb4).last x hxm
      obtain ⟨w5, hcp5, hg5, hk5⟩ := run_copy_blk (P := Try.prog) W4.drew 32 32 3 3 1 W2.heap.size 0 x.p.last.length x.p.last.length x.a x.p.last.length x.c Zk _ (numsV x.p.last) Try.underlying32 sizeInt hg4 x.p.last.length (by simp) (by rw [numsV_length]; omega) (some ⟨W2.heap.size, 0, none⟩)
        (fun h0 => ⟨rfl, by
          obtain ⟨b, off, e, _, hc⟩ := hok4.2 h0
          exact ⟨⟨b, off, none⟩, e, fun j u hu => by rw [Lib.add_plain]; exact hc j u hu⟩⟩) (by rw [numsV_length, hZk]; omega) (numsV_one _)
      rw [splice_all _ _ (by rw [numsV_length, hZk])] at hg5
      have hkk : Kept (fun b => b = w.heap.size) wr w5 := by
        have k1 : Kept (fun b => b = w.heap.size) wr W3 := (Kept.below hb2).trans (Kept.below hb3) (fun _ _ e => e)
        have k2 := k1.trans hk4 (fun _ _ e => e)
        have k3 := k2.trans (Kept.drew (fun b => b = w.heap.size) W4) (fun _ _ e => e)
        exact k3.trans hk5 (fun i hi e => by omega)
      have HK5 := Lib.hid hkk
      have HC5 := Lib.hid hcp5
      have HT5 := Lib.hid (hk5.heap (show W4.drew.heap[w.heap.size]? = _ from hT4) (by omega))
      have HG5 := Lib.hid hg5
      have HX := Lib.hid (And.intro hx hx')
      have Hs2 := Lib.hid (show w.heap.size < W2.heap.size by omega)
      obtain ⟨⟨i, pe, nx, last⟩, xa, xc⟩ := x
      unfold PP.obj at hW2
      dsimp only at *
      clear hx hx' hxm hTw hc hb2 hx2 hmk hb3 hg3 hT3 hk4 hT4 hg4 hx4 hset hok4 hk5 hg5 hkk hcp5 hW3 hs2
      obtain ⟨L2, hL2⟩ : ∃ L2, L2 = L'.set k ⟨⟨i, pe, nx, last⟩, some ⟨W2.heap.size, 0, none⟩, last.length⟩ := ⟨_, rfl⟩
      have h1' : tab L2 = tab l := by
        obtain ⟨hx, hx'⟩ := HX.out
        rw [hL2, ← h1.out]
        unfold tab
        rw [List.map_set]
        apply List.ext_getElem?
        intro j
        rw [List.getElem?_set]
        split
        · next e =>
          subst e
          rw [List.getElem?_map, hx']
          split
          · rfl
          · next e => exact absurd (by rw [List.length_map]; exact (List.getElem?_eq_some_iff.1 hx').1) e
        · rfl
      have h3' : ∀ j y, j < k + 1 → L2[j]? = some y → y.ok (fun b => w.heap.size < b) w5 := by
        obtain ⟨hx, hx'⟩ := HX.out
        intro j y hj hy
        rw [hL2] at hy
        by_cases e : j = k
        · subst e
          rw [List.getElem?_set_self (List.getElem?_eq_some_iff.1 hx').1] at hy
          injection hy with hy
          subst hy
          refine ⟨Nat.le_refl _, fun _ => ⟨_, 0, rfl, Hs2.out, fun m u hu => ?_⟩⟩
          rw [Nat.zero_add]
          exact cell_block HG5.out hu
        · rw [List.getElem?_set_ne (by omega)] at hy
          exact (h3.out j y (by omega) hy).kept HK5.out (fun j _ e f => by omega)
      have h4' : ∀ j, k + 1 ≤ j → L2[j]? = l[j]? := by
        intro j hj
        rw [hL2, List.getElem?_set_ne (by omega)]
        exact h4.out j (by omega)
      rw [← hL2] at HT5
      have H1 := Lib.hid h1'
      have H3 := Lib.hid h3'
      have H4 := Lib.hid h4'
      have H5 := Lib.hid (h5.out.trans (HK5.out.toBelow h5.out.size (fun k hk => by omega)))
      clear h1' h3' h4' hL2
      go_upto_region 6 with fail
      rw [← hW2]
      clear hW2
      go_upto_region 7 with fail
      rw [← hW4]
      clear hW4 cT fT d3
      go_region_law (refine step_copy_run rfl _ _ _ _ rfl _ _ rfl rfl _ _ HC5.out ?_)
      all_goals (go_wp2_with fail)
      all_goals go_roundw
      case rel => exact ⟨k + 1, L2, hkn, by go_num, H1, HT5, H3, H4, H5⟩
      case measure => simp [intOf]; omega
      all_goals first | exact ⟨k + 1, L2, hkn, by go_num, H1, HT5, H3, H4, H5⟩ | (simp [intOf]; omega)
    · have hkn' : ¬ (k : Int) < (n : Int) := by omega
      go_wp2_with fail
      go_ret
      exact ⟨rfl, ⟨L', h1.out, h2.out, fun x hx => by
        obtain ⟨i, hi⟩ := List.getElem?_of_mem hx
        have hle : i < n := by
          have e1 := (List.getElem?_eq_some_iff.1 hi).1
          have e2 := congrArg List.length h1.out
          rw [tab_length, tab_length, ← HL.out] at e2
          omega
        exact h3.out i x (by omega) hi⟩, h5.out⟩
end Go.Proofs.Ytmgpfkckafdbmaa
