/-
  The reference's Put: bytes put into a string at an offset.
  The reference's disk: a write that is possible.
  The reference's disk: settle.
-/
import Derived.Test.YtninopllfbiccaaDoorDGx
import Derived.Lib.ConvBytes
import Derived.Laws.Sem
namespace Go.Proofs.YtninopllfbiccaaDoor
set_option maxRecDepth 100000
open Go Go.RowKit Go.Maps Dk

/-- A row of bytes of the call's own, at which a string's conversion may have frozen what lies behind its end. -/
def BufAt (w : World) (g cap : Nat) (b : List UInt8) : Prop :=
  ∃ cur fz, w.heap[g]? = some (.cells cur 5 fz) ∧ b.length ≤ cap ∧ cap ≤ maxLen ∧ cur.size = cap ∧ (fz.2 = 0 ∨ cap ≤ fz.1) ∧ cur.toList.take b.length = bytesV b
theorem BufAt.lt {w : World} {g cap : Nat} {b : List UInt8} (h : BufAt w g cap b) : g < w.heap.size := by
  obtain ⟨cur, fz, h1, _⟩ := h
  exact (Array.getElem?_eq_some_iff.1 h1).1
theorem BufAt.kept {w w' : World} {S : Nat → Prop} {g cap : Nat} {b : List UInt8} (h : BufAt w g cap b) (hk : Kept S w w') (hn : ¬ S g) : BufAt w' g cap b := by
  obtain ⟨cur, fz, h1, h2⟩ := h
  exact ⟨cur, fz, hk.heap h1 hn, h2⟩
theorem buf_get {cur : Array Value} {b : List UInt8} (h : cur.toList.take b.length = bytesV b) {j : Nat} (hj : j < b.length) : cur[j]? = some (.int .u8 (bt b j).toNat) := by
  have e := bytesV_get hj
  rw [← h, List.getElem?_take_of_lt hj] at e
  simpa using e
theorem BufAt.cell {w : World} {g cap : Nat} {b : List UInt8} (h : BufAt w g cap b) {j : Nat} (hj : j < b.length) : w.cell? ⟨g, j, none⟩ = some (.int .u8 (bt b j).toNat) := by
  obtain ⟨cur, fz, h1, _, _, _, _, h2⟩ := h
  rw [Lib.cell_of_heap h1]
  exact buf_get h2 hj
theorem frozen_at {w : World} {g cap j : Nat} {cur : Array Value} {e : TypeId} {fz : Nat × Nat} (h : w.heap[g]? = some (.cells cur e fz)) (hf : fz.2 = 0 ∨ cap ≤ fz.1) (hj : j < cap) : w.frozen? ⟨g, j, none⟩ = false := by
  obtain ⟨lo, hi⟩ := fz
  simp only [World.frozen?, h, Bool.and_eq_false_iff, decide_eq_false_iff_not]
  simp only at hf
  omega
theorem BufAt.z {w : World} {g cap : Nat} {b : List UInt8} (h : BufAt w g cap b) {j : Nat} (hj : j < b.length) : w.frozen? ⟨g, j, none⟩ = false := by
  obtain ⟨cur, fz, h1, h2, _, _, h3, _⟩ := h
  exact frozen_at h1 h3 (Nat.lt_of_lt_of_le hj h2)
theorem setCell_row {w : World} {g j : Nat} {cur : Array Value} {e : TypeId} {fz : Nat × Nat} (h : w.heap[g]? = some (.cells cur e fz)) (v : Value) : (w.setCell ⟨g, j, none⟩ v).heap[g]? = some (.cells (cur.setIfInBounds j v) e fz) := by
  simp [World.setCell, Array.getElem?_modify, h]
theorem bytesV_set (b : List UInt8) (j : Nat) (x : UInt8) : bytesV (b.set j x) = (bytesV b).set j (.int .u8 x.toNat) := by simp [bytesV, List.map_set]
theorem BufAt.set {w : World} {g cap : Nat} {b : List UInt8} (h : BufAt w g cap b) (j : Nat) (x : UInt8) : BufAt (w.setCell ⟨g, j, none⟩ (.int .u8 x.toNat)) g cap (b.set j x) := by
  obtain ⟨cur, fz, h1, h2, h3, h4, h5, h6⟩ := h
  refine ⟨_, fz, setCell_row h1 _, by simpa using h2, h3, by simpa using h4, h5, ?_⟩
  rw [bytesV_set, List.length_set, ← h6, Array.toList_setIfInBounds, List.take_set]
theorem BufAt.conv (s : List UInt8) (hs : s.length ≤ 100000000) (w : World) : BufAt (Lib.bytesWorld w 5 ⟨s.toArray⟩) w.heap.size (grownCap w s.length 0 5) s := by
  have e : (⟨s.toArray⟩ : ByteArray).size = s.length := by show s.toArray.size = _; simp
  have hge := grownCap_ge w s.length 0 5
  have hsz : (Lib.bytesCells w 5 ⟨s.toArray⟩).size = grownCap w s.length 0 5 := by
    unfold Lib.bytesCells
    rw [e]
    simp
    omega
  refine ⟨_, _, Lib.bytesWorld_at_new w 5 ⟨s.toArray⟩, hge, grownCap_le_maxLen w s.length 0 5 (by unfold maxLen; omega), hsz, Or.inr (by rw [hsz]; exact Nat.le_refl _), ?_⟩
  unfold Lib.bytesCells bytesV
  rw [Array.toList_append, List.take_append_of_le_length (by simp)]
  simp
  exact List.take_of_length_le (by simp)
theorem infoU8' : (Tryd.prog.info? 5).map (fun i => (i.zero, i.size, i.bytes)) = some (some (.int .u8 0), 1, 1) := by kernel_rfl
/-- A byte 0 appended. -/
theorem app_zero (w : World) (g cap : Nat) (b : List UInt8) (h : BufAt w g cap b) (hl : b.length ≤ 100000000) :
    ∃ g' cap' w', (Builtin.append_ #[54, 54] 54 #[.slice (some ⟨g, 0, none⟩) b.length cap, .slice (some ⟨w.heap.size, 0, none⟩) 1 1]).run Tryd.prog (w.alloc (.cells #[.int .u8 0] 5)) = .ok (.slice (some ⟨g', 0, none⟩) (b.length + 1) cap') w' ∧
      BufAt w' g' cap' (b ++ [0]) ∧ (g' = g ∨ w.heap.size ≤ g') ∧ Kept (fun k => k = g) w w' := by
  obtain ⟨i, hi, hz, hsize, hby⟩ := info_parts infoU8'
  have hgl := h.lt
  obtain ⟨W, hW⟩ : ∃ W, W = w.alloc (.cells #[.int .u8 0] 5) := ⟨_, rfl⟩
  have hk0 : Kept (fun k => k = g) w W := by rw [hW]; exact Kept.alloc _ _ _
  have hk00 : Kept (fun _ => False) w W := by rw [hW]; exact Kept.alloc _ _ _
  have hnc : ∀ j u, ([.int .u8 0] : List Value)[j]? = some u → W.cell? ((⟨w.heap.size, 0, none⟩ : Addr).add j) = some u := fun j u hu => by
    rw [Lib.add_plain, hW, Lib.cell_of_heap (heap_alloc_new w _)]
    match j, hu with
    | 0, hu => simpa using hu
  have hWs : W.heap.size = w.heap.size + 1 := by rw [hW]; simp
  rw [← hW]
  have hcells : ∀ j u, (bytesV b)[j]? = some u → W.cell? ((⟨g, 0, none⟩ : Addr).add j) = some u := fun j u hu => by
    have hj : j < b.length := by have := (List.getElem?_eq_some_iff.1 hu).1; rwa [bytesV_length] at this
    rw [bytesV_get hj] at hu
    rw [Lib.add_plain, Nat.zero_add, ← hu]
    exact (h.kept hk00 (fun e => e)).cell hj
  obtain ⟨cur, fz, h1, h2, h3, h4, h5, h6⟩ := h
  by_cases hroom : b.length + 1 ≤ cap
  · have hh := hk00.heap h1 (fun e => e)
    have hc : W.cell? ⟨g, b.length, none⟩ = some (cur[b.length]'(by omega)) := by
      rw [Lib.cell_of_heap hh]
      exact Array.getElem?_eq_getElem _
    have hfr : W.frozen? ⟨g, b.length, none⟩ = false := frozen_at hh h5 (by omega)
    have hst : (storeCells ⟨g, b.length, none⟩ [.int .u8 0] 0).run Tryd.prog W = .ok () (W.setCell ⟨g, b.length, none⟩ (.int .u8 0)) := by
      have hs1 : (store ((⟨g, b.length, none⟩ : Addr).add 0) (.int .u8 0)).run Tryd.prog W = .ok () (W.setCell ⟨g, b.length, none⟩ (.int .u8 0)) := by
        rw [Lib.add_plain, Nat.add_zero, run_store Tryd.prog W _ _ _ rfl, hc]
        simp [hfr]
      simp only [storeCells, Sem.run_bind, hs1, Result.andThen_ok]
      rfl
    have hf := run_firstCells_some (P := Tryd.prog) W 1 1 ⟨w.heap.size, 0, none⟩ 1 1 [.int .u8 0] rfl hnc
    have hadd : (⟨g, 0, none⟩ : Addr).add b.length = ⟨g, b.length, none⟩ := by rw [Lib.add_plain, Nat.zero_add]
    refine ⟨g, cap, _, ?_, ?_, Or.inl rfl, hk0.trans (Kept.set g b.length W (.int .u8 0)) (fun _ _ e => e)⟩
    · simp [Builtin.append_, run_underlying Tryd.underlying54, sizeOf, typeInfo, hi, Builtin.lenOf, hroom, hf, hsize, hadd, hst]
    · refine ⟨_, fz, setCell_row hh _, by simpa using hroom, h3, by simpa using h4, h5, ?_⟩
      rw [List.length_append, List.length_singleton, bytesV_app, ← h6, Array.toList_setIfInBounds, List.take_set, List.take_add_one]
      have : cur.toList[b.length]? = some (cur[b.length]'(by omega)) := by simp
      rw [this]
      simp only [Option.toList_some]
      rw [List.set_append_right _ _ (by simp; omega)]
      simp
      congr 1
      rw [show b.length - min b.length cur.size = 0 by omega]
      rfl
  · have hr := run_append_grow (P := Tryd.prog) W 54 54 5 i (.int .u8 0) Tryd.underlying54 hi hz ⟨g, 0, none⟩ b.length cap (bytesV b) (by rw [hsize, bytesV_length]; omega) hcells ⟨w.heap.size, 0, none⟩ 1 1 [.int .u8 0] (by rw [hsize]; rfl) hnc (by omega) (by omega) (growslice_fits (by omega) (by rw [hby]; omega))
    have hge := grownCap_ge W (b.length + 1) cap 5
    refine ⟨_, _, _, hr, ⟨_, (0, 0), heap_alloc_new W.drew _, by simpa using hge, grownCap_le_maxLen W (b.length + 1) cap 5 (by unfold maxLen; omega), ?_, Or.inl rfl, ?_⟩, Or.inr (by omega), ?_⟩
    · simp [size_zeroCells, bytesV_length]
      have : (Value.cells (.int .u8 0)).size = 1 := rfl
      rw [this]
      omega
    · rw [List.length_append, List.length_singleton, bytesV_app, Array.toList_append, List.take_append_of_le_length (by simp [bytesV_length])]
      simp [bytesV_length, List.take_of_length_le]
      rfl
    · exact (hk0.trans (Kept.drew (fun k => k = g) W) (fun _ _ e => e)).trans (Kept.alloc _ _ _) (fun _ _ e => e)

def putR (s : List UInt8) (a : Nat) (t : List UInt8) : List UInt8 := if t = [] then s else put s a t
def lenV : Value → Nat
  | .slice _ n _ => n
  | _ => 0

/-- After k bytes: what was written, elsewhere the string. -/
structure Half (s : List UInt8) (a : Nat) (t : List UInt8) (k : Nat) (b : List UInt8) : Prop where
  len : b.length = max s.length (a + t.length)
  at' : ∀ j, bt b j = if a ≤ j ∧ j < a + k then bt t (j - a) else bt s j
theorem Half.first (s : List UInt8) (a : Nat) (t : List UInt8) {m : Nat} (hm : s.length + m = max s.length (a + t.length)) : Half s a t 0 (s ++ List.replicate m 0) := by
  refine ⟨by simp [hm], fun j => ?_⟩
  rw [if_neg (by omega), bt_append, bt_replicate]
  split
  · rfl
  · next h => exact (bt_ge (by omega)).symm
theorem bt_set (b : List UInt8) (i j : Nat) (x : UInt8) (hi : i < b.length) : bt (b.set i x) j = if j = i then x else bt b j := by
  unfold bt List.getD
  rw [List.getElem?_set]
  by_cases h : j = i
  · subst h
    rw [if_pos rfl, if_pos hi, if_pos rfl]
    rfl
  · rw [if_neg (fun e => h e.symm), if_neg h]
theorem Half.next {s : List UInt8} {a : Nat} {t : List UInt8} {k : Nat} {b : List UInt8} (h : Half s a t k b) (hk : k < t.length) : Half s a t (k + 1) (b.set (a + k) (bt t k)) := by
  have hl := h.len
  refine ⟨by rw [List.length_set]; exact hl, fun j => ?_⟩
  rw [bt_set _ _ _ _ (by omega), h.at']
  by_cases h1 : j = a + k
  · subst h1
    rw [if_pos rfl, if_pos (by omega)]
    congr 1
    omega
  · rw [if_neg h1]
    by_cases h2 : a ≤ j ∧ j < a + k
    · rw [if_pos h2, if_pos (by omega)]
    · rw [if_neg h2, if_neg (by omega)]
theorem Half.last {s : List UInt8} {a : Nat} {t : List UInt8} {b : List UInt8} (h : Half s a t t.length b) : b = put s a t := by
  refine bt_ext (by rw [h.len, put_length]) fun j _ => ?_
  rw [h.at', put_bt]

set_option maxHeartbeats 2000000 in
set_option maxRecDepth 100000 in
theorem rput_c (s : List UInt8) (a : Nat) (t : List UInt8) (hs : s.length ≤ 16777216) (ha : a + t.length ≤ 16777280) (w : World) :
    Calls Tryd.prog 57 #[.string ⟨s.toArray⟩, .int .i64 (a : Int), .string ⟨t.toArray⟩] w fun e w' => e = .returned (.string ⟨(putR s a t).toArray⟩) ∧ Below w.heap.size w w' := by
  unfold putR
  by_cases ht : t = []
  · rw [if_pos ht]
    subst ht
    go_enter Tryd.func57, Tryd.ntmps57
    go_wp2_with fail
    go_ret
    exact ⟨rfl, Below.refl _ _⟩
  · rw [if_neg ht]
    have hte : (t == []) = false := by simpa using ht
    have hcv := conv_str s w
    obtain ⟨W1, hW1⟩ : ∃ W1, W1 = Lib.bytesWorld w 5 ⟨s.toArray⟩ := ⟨_, rfl⟩
    obtain ⟨cc, hcc⟩ : ∃ cc, cc = grownCap w s.length 0 5 := ⟨_, rfl⟩
    have hbuf := BufAt.conv s (by omega) w
    have hbw : Below w.heap.size w W1 := by rw [hW1]; exact Lib.bytesWorld_below w _ _
    rw [← hW1, ← hcc] at hcv hbuf
    have HB := Lib.hid hbw
    have HU := Lib.hid hbuf
    obtain ⟨T, hT⟩ : ∃ T, T = max s.length (a + t.length) := ⟨_, rfl⟩
    have hTs : T ≤ 16777280 := by omega
    have HT := Lib.hid hT
    have htl : t.length ≤ 16777280 := by omega
    clear hW1 hcc hbw hbuf hT
    go_enter Tryd.func57, Tryd.ntmps57
    go_wp2_with fail
    go_loopw [7] (fun v7 wr => ∃ g cap m : Nat, v7 = .slice (some ⟨g, 0, none⟩) (s.length + m) cap ∧ s.length + m ≤ T ∧ w.heap.size ≤ g ∧ BufAt wr g cap (s ++ List.replicate m 0) ∧ Below w.heap.size w wr) (fun v7 _ => T - lenV v7)
    case atStart => exact ⟨w.heap.size, cc, 0, rfl, by have := HT.out; omega, Nat.le_refl _, by simpa using HU.out, HB.out⟩
    case round =>
      obtain ⟨g, cap, m, rfl, hm, hg, hbuf, hb⟩ := hrel
      have HBB := Lib.hid hb
      have HUU := Lib.hid hbuf
      by_cases hlt : s.length + m < a + t.length
      · have hlt' : (((s.length + m : Nat) : Int)) < (a : Int) + (t.length : Int) := by omega
        have hlt2 : (s.length : Int) + (m : Int) < (a : Int) + (t.length : Int) := by omega
        have hlb : (s ++ List.replicate m (0 : UInt8)).length = s.length + m := by simp
        obtain ⟨g', cap', w5, hr, hu5, hg5, hk5⟩ := app_zero wr g cap (s ++ List.replicate m 0) hbuf (by omega)
        rw [hlb] at hr
        have hrel : ∃ g2 cap2 m2 : Nat, Value.slice (some ⟨g', 0, none⟩) (s.length + m + 1) cap' = .slice (some ⟨g2, 0, none⟩) (s.length + m2) cap2 ∧ s.length + m2 ≤ T ∧ w.heap.size ≤ g2 ∧ BufAt w5 g2 cap2 (s ++ List.replicate m2 0) ∧ Below w.heap.size w w5 := by
          have hT := HT.out
          refine ⟨g', cap', m + 1, rfl, by omega, ?_, ?_, ?_⟩
          · rcases hg5 with e | e
            · omega
            · have := hb.size; omega
          · rw [List.replicate_succ', ← List.append_assoc]; exact hu5
          · exact hb.trans (hk5.toBelow hb.size (fun k e => by omega))
        have HR := Lib.hid hr
        have HREL := Lib.hid hrel
        have hTl : s.length + m + 1 ≤ T := by have := HT.out; omega
        obtain ⟨P, hP⟩ : ∃ P, P = s.length + m := ⟨_, rfl⟩
        rw [← hP] at HR HREL hlt' hTl ⊢
        clear hr hu5 hg5 hk5 hrel hbuf hb hlb hP hlt2
        go_wp2_with (at_builtin; refine Lib.wpList_append_run _ rfl _ _ _ _ rfl _ _ rfl rfl _ w5 HR.out ?_)
        go_roundw
        case rel => exact HREL.out
        case measure => simp [lenV]; omega
      · have hge : T = s.length + m := by have := HT.out; omega
        have hlt' : ¬ (((s.length + m : Nat) : Int)) < (a : Int) + (t.length : Int) := by omega
        have HH := Lib.hid (Half.first s a t (m := m) (by have := HT.out; omega))
        obtain ⟨P, hP⟩ : ∃ P, P = s.length + m := ⟨_, rfl⟩
        have hPl : a + t.length ≤ P := by omega
        have hPs : P ≤ 16777280 := by omega
        have hlb : (s ++ List.replicate m (0 : UInt8)).length = P := by simp [hP]
        rw [← hP] at hlt' ⊢
        obtain ⟨b0, hb0⟩ : ∃ b0, b0 = s ++ List.replicate m (0 : UInt8) := ⟨_, rfl⟩
        rw [← hb0] at HH HUU hlb
        have HLB := Lib.hid hlb
        clear hbuf hb hge hP hb0 hlb
        go_wp2_with fail
        go_loopw [8] (fun v8 wx => ∃ (k : Nat) (b : List UInt8), k ≤ t.length ∧ v8 = .int .i64 (k : Int) ∧ Hid (Half s a t k b) ∧ Hid (b.length = P) ∧ BufAt wx g cap b ∧ Below w.heap.size w wx) (fun v8 _ => t.length - (intOf v8).toNat)
        case atStart => exact ⟨0, b0, Nat.zero_le _, rfl, HH, HLB, HUU.out, HBB.out⟩
        case round =>
          obtain ⟨k, b, hk, rfl, HK, HLK, hbuf, hb⟩ := hrel
          have HBB := Lib.hid hb
          have HUU := Lib.hid hbuf
          by_cases hkl : k < t.length
          · have hkl' : (k : Int) < (t.length : Int) := by omega
            obtain ⟨ix, hix⟩ : ∃ ix, ix = a + k := ⟨_, rfl⟩
            have hak : ix < b.length := by have := HLK.out; omega
            have ci := hbuf.cell hak
            have zi := hbuf.z hak
            have ht1 : ∀ h, (⟨t.toArray⟩ : ByteArray)[k]'h = bt t k := fun h => (bt_lt hkl).symm
            have hidx : (a : Int) + (k : Int) = (ix : Int) := by omega
            have hixP : (ix : Int) < (P : Int) := by omega
            have hix0 : ix ≤ 16777280 := by omega
            have hn := HK.out.next hkl
            rw [← hix] at hn
            have HN := Lib.hid hn
            have HNB := Lib.hid (hbuf.set ix (bt t k))
            have HNL := Lib.hid (show (b.set ix (bt t k)).length = P by rw [List.length_set]; exact HLK.out)
            clear hn hix
            clear hbuf hb hak
            go_wp2_with fail
            go_roundw
            case rel => exact ⟨k + 1, _, hkl, by go_num, HN, HNL, HNB.out, HBB.out.setCell hg _⟩
            case measure => simp [intOf]; omega
          · have hkl' : ¬ (k : Int) < (t.length : Int) := by omega
            have hke : k = t.length := by omega
            have HE := Lib.hid (show b = put s a t from (by rw [hke] at HK; exact HK.out.last))
            have hcb := conv_src (some ⟨g, 0, none⟩) cap b wr (fun _ => ⟨g, 0, rfl, fun j u hu => by
              have hj : j < b.length := by have := (List.getElem?_eq_some_iff.1 hu).1; rwa [bytesV_length] at this
              rw [bytesV_get hj] at hu
              rw [Nat.zero_add, ← hu]
              exact hbuf.cell hj⟩)
            rw [HLK.out] at hcb
            clear hbuf hb hke
            go_wp2_with fail
            go_ret
            exact ⟨congrArg (fun z : List UInt8 => Ending.returned (.string ⟨z.toArray⟩)) HE.out, HBB.out⟩
end Go.Proofs.YtninopllfbiccaaDoor

namespace Go.Proofs.YtninopllfbiccaaDoor
set_option maxRecDepth 100000
open Go Go.RowKit Go.Maps Dk

/-- The reference's disk behind a step: its rows lie where they lay, or are new. -/
def RStep (w w' : World) (r : Nat) (fv qv kv : Value) (X : R) : Prop :=
  ∃ fv' qv', RAt w' r fv' qv' kv X ∧ (∀ k, fv'.ownBlock = some k → fv.ownBlock = some k ∨ w.heap.size ≤ k) ∧ (∀ k, qv'.ownBlock = some k → qv.ownBlock = some k ∨ w.heap.size ≤ k) ∧ Kept (fun k => k = r ∨ fv.ownBlock = some k ∨ qv.ownBlock = some k) w w'
theorem RStep.mk {w w' : World} {r : Nat} {fv qv kv fv' qv' : Value} {X : R} (h : RAt w' r fv' qv' kv X) (h1 : ∀ k, fv'.ownBlock = some k → fv.ownBlock = some k ∨ w.heap.size ≤ k) (h2 : ∀ k, qv'.ownBlock = some k → qv.ownBlock = some k ∨ w.heap.size ≤ k)
    (hk : Kept (fun k => k = r ∨ fv.ownBlock = some k ∨ qv.ownBlock = some k) w w') : RStep w w' r fv qv kv X := ⟨fv', qv', h, h1, h2, hk⟩
theorem RStep.trans {w w1 w2 : World} {r : Nat} {fv qv kv fv1 qv1 : Value} {X1 X2 : R} (_ : RAt w1 r fv1 qv1 kv X1) (h1 : ∀ k, fv1.ownBlock = some k → fv.ownBlock = some k ∨ w.heap.size ≤ k) (h2 : ∀ k, qv1.ownBlock = some k → qv.ownBlock = some k ∨ w.heap.size ≤ k)
    (hk : Kept (fun k => k = r ∨ fv.ownBlock = some k ∨ qv.ownBlock = some k) w w1) (hs : RStep w1 w2 r fv1 qv1 kv X2) : RStep w w2 r fv qv kv X2 := by
  obtain ⟨fv2, qv2, a0, a1, a2, ak⟩ := hs
  have hsz := hk.size
  refine ⟨fv2, qv2, a0, fun k e => ?_, fun k e => ?_, hk.trans ak (fun k hkl e => ?_)⟩
  · rcases a1 k e with e | e
    · exact h1 k e
    · exact Or.inr (by omega)
  · rcases a2 k e with e | e
    · exact h2 k e
    · exact Or.inr (by omega)
  · rcases e with e | e | e
    · exact Or.inl e
    · rcases h1 k e with e | e
      · exact Or.inr (Or.inl e)
      · omega
    · rcases h2 k e with e | e
      · exact Or.inr (Or.inr e)
      · omega
theorem RStep.below {w w' : World} {r : Nat} {fv qv kv : Value} {X : R} (h : RAt w r fv qv kv X) (hb : Below w.heap.size w w') : RStep w w' r fv qv kv X := ⟨fv, qv, h.on hb, fun _ e => Or.inl e, fun _ e => Or.inl e, Kept.below hb⟩
theorem RStep.then {w w1 w2 : World} {r : Nat} {fv qv kv : Value} {X1 X2 : R} (h : RStep w w1 r fv qv kv X1) (h2 : ∀ fv1 qv1, RAt w1 r fv1 qv1 kv X1 → RStep w1 w2 r fv1 qv1 kv X2) : RStep w w2 r fv qv kv X2 := by
  obtain ⟨fv1, qv1, a0, a1, a2, ak⟩ := h
  exact RStep.trans a0 a1 a2 ak (h2 fv1 qv1 a0)

/-! ### The model -/
def newR (q : List (Nat × Nat)) (f : Nat) (l : List Nat) : List (Nat × Nat) := (l.filter fun n : Nat => !pendR q (f : Int) (n : Int)).map fun n => (f, n)
def addR (X : R) (f a : Nat) (s : List UInt8) : R :=
  if s = [] then X else { X with fs := setR X.fs ⟨(f : Int), put (getR X.fs (f : Int)).now a s, (getR X.fs (f : Int)).dur⟩, q := X.q ++ newR X.q f (secs a s.length) }
theorem pendR_app (q q' : List (Nat × Nat)) (f n : Int) : pendR (q ++ q') f n = (pendR q f n || pendR q' f n) := by unfold pendR; rw [List.any_append]
theorem pendR_new (q : List (Nat × Nat)) (f n : Nat) (l : List Nat) (hn : n ∉ l) : pendR (newR q f l) (f : Int) (n : Int) = false := by
  unfold pendR newR
  rw [List.any_eq_false]
  rintro ⟨a, b⟩ hp
  obtain ⟨m, hm, e⟩ := List.mem_map.1 hp
  injection e with e1 e2
  subst e1 e2
  have hml := (List.mem_filter.1 hm).1
  have : m ≠ n := fun e => hn (e ▸ hml)
  simp
  omega
theorem newR_snoc (q : List (Nat × Nat)) (f n : Nat) (l : List Nat) : newR q f (l ++ [n]) = newR q f l ++ (if pendR q (f : Int) (n : Int) then [] else [(f, n)]) := by
  unfold newR
  rw [List.filter_append, List.map_append]
  congr 1
  cases h : pendR q (f : Int) (n : Int) <;> simp [h]

/-- A sector appended and stored. -/
theorem rstep_sec {w w6 : World} {r : Nat} {fv qv kv : Value} {X : R} (h : RAt w r fv qv kv X) (p : Nat × Nat) {a' : Option Addr} {n' c' : Nat} (ho : w6.ownsRow 0 80 2 (.slice a' n' c') (X.q ++ [p]).length (secsV (X.q ++ [p])))
    (hb : (Value.slice a' n' c').ownBlock = qv.ownBlock ∨ ∃ y, (Value.slice a' n' c').ownBlock = some y ∧ w.heap.size ≤ y) (hk : Kept (fun k => qv.ownBlock = some k) w w6) : RStep w (w6.setCell ⟨r, 1, none⟩ (.slice a' n' c')) r fv qv kv { X with q := X.q ++ [p] } := by
  have hrw : r < w.heap.size := h.lt (Or.inl rfl)
  have hcell := hk.heap h.cell h.nq
  have hk2 := Kept.set r 1 w6 (.slice a' n' c')
  have hown : ∀ k, (Value.slice a' n' c').ownBlock = some k → qv.ownBlock = some k ∨ w.heap.size ≤ k := fun k e => by
    rcases hb with e' | ⟨y, e', hy⟩
    · rw [e'] at e; exact Or.inl e
    · rw [e'] at e; injection e with e; exact Or.inr (by omega)
  have hnq : (Value.slice a' n' c').ownBlock ≠ some r := fun e => by
    rcases hown r e with e | e
    · exact h.nq e
    · omega
  refine RStep.mk (fv' := fv) (qv' := .slice a' n' c') { cell := cells6_set hcell 1 _ (by omega), files := ?_, queue := ?_, keep := ?_, nf := h.nf, nq := hnq, nk := h.nk, fq := fun k e e' => ?_, fk := h.fk, qk := fun k e e' => ?_ } (fun k e => Or.inl e) hown ((hk.mono (fun k _ e => Or.inr (Or.inr e))).trans hk2 (fun k _ e => Or.inl e))
  · exact own_kept (own_kept h.files hk (fun k e e' => h.fq k e e')) hk2 (fun k e e' => h.nf (by rw [e, e']))
  · exact own_kept ho hk2 (fun k e e' => hnq (by rw [e, e']))
  · exact own_kept (own_kept h.keep hk (fun k e e' => h.qk k e' e)) hk2 (fun k e e' => h.nk (by rw [e, e']))
  · rcases hown k e' with e' | e'
    · exact h.fq k e e'
    · have := h.lt (Or.inr (Or.inl e)); omega
  · rcases hown k e with e | e
    · exact h.qk k e e'
    · have := h.lt (Or.inr (Or.inr (Or.inr e'))); omega

set_option maxHeartbeats 4000000 in
set_option maxRecDepth 100000 in
theorem radd_c (r : Nat) (fv qv kv : Value) (X : R) (hX : X.Ok) (f a : Nat) (_ : f < 16) (s : List UInt8) (ha : a + s.length ≤ 16777216) (w : World) (h : RAt w r fv qv kv X) :
    Calls Tryd.prog 54 #[.pointer (some ⟨r, 0, none⟩), .int .i64 (f : Int), .int .i64 (a : Int), .string ⟨s.toArray⟩] w fun e w' => e = .returned (.tuple #[]) ∧ RStep w w' r fv qv kv (addR X f a s) := by
  unfold addR
  by_cases hs : s = []
  · rw [if_pos hs]
    subst hs
    have H := Lib.hid h
    clear h
    go_enter Tryd.func54, Tryd.ntmps54
    go_wp2_with fail
    refine bodyPost_ret (results_none rfl _ _ _) rfl ?_
    exact ⟨rfl, RStep.below H.out (Below.refl _ _)⟩
  · rw [if_neg hs]
    have hse : (s == []) = false := by simpa using hs
    have hfew := hX.few
    have q1 := rget_c r fv qv kv X (f : Int) w h (by omega)
    have hsm := getR_small hX (f : Int)
    obtain ⟨x, hx⟩ : ∃ x, x = getR X.fs (f : Int) := ⟨_, rfl⟩
    have hxn : x.num = (f : Int) := by rw [hx]; exact getR_num _ _
    rw [← hx] at q1 hsm ⊢
    unfold rfV at q1
    have Q1 := Lib.hid q1
    have H := Lib.hid h
    have hpos : 0 < s.length := List.length_pos_iff.2 hs
    obtain ⟨n0, hn0⟩ : ∃ n0, n0 = a / 64 := ⟨_, rfl⟩
    obtain ⟨n1, hn1⟩ : ∃ n1, n1 = (a + s.length - 1) / 64 := ⟨_, rfl⟩
    obtain ⟨M, hM⟩ : ∃ M, M = n1 + 1 - n0 := ⟨_, rfl⟩
    have hn01 : n0 ≤ n1 := by rw [hn0, hn1]; exact Nat.div_le_div_right (by omega)
    have hn1s : n1 ≤ 262144 := by omega
    have hq1 : (a : Int).tdiv 64 = (n0 : Int) := by rw [Int.tdiv_eq_ediv_of_nonneg (by omega)]; omega
    have hq2 : (a : Int) / 64 = (n0 : Int) := by omega
    have hq3 : ((a : Int) + (s.length : Int) - 1).tdiv 64 = (n1 : Int) := by rw [Int.tdiv_eq_ediv_of_nonneg (by omega)]; omega
    have hq4 : ((a : Int) + (s.length : Int) - 1) / 64 = (n1 : Int) := by omega
    have HSE := Lib.hid (show secs a s.length = List.range' n0 M by unfold secs; rw [← hn0, ← hn1, ← hM])
    have HML := Lib.hid hM
    have HXN := Lib.hid hxn
    obtain ⟨y, hy⟩ : ∃ y : RF, y = ⟨(f : Int), put x.now a s, x.dur⟩ := ⟨_, rfl⟩
    rw [← hy]
    have HY := Lib.hid hy
    have hsl : s.length ≤ 16777216 := by omega
    obtain ⟨hsm1, hsm2⟩ := hsm
    clear h q1 hx hn0 hn1 hM hy
    go_enter Tryd.func54, Tryd.ntmps54
    go_wp2_with (go_at_call 49; refine Q1.out.mono ?_; rintro e w2 ⟨rfl, hb2⟩)
    obtain ⟨W2, hW2⟩ : ∃ W2, W2 = w2.alloc (.cells #[.int .i64 (f : Int), .string ⟨x.now.toArray⟩, .string ⟨x.dur.toArray⟩] 82) := ⟨_, rfl⟩
    rw [← hW2]
    have hbx : FBox W2 w2.heap.size ⟨(f : Int), x.now, x.dur⟩ := by rw [hW2]; exact FBox.new w2 ⟨(f : Int), x.now, x.dur⟩
    have hB2 : Below w.heap.size w W2 := by rw [hW2]; exact hb2.alloc hb2.size _
    obtain ⟨b, hbe⟩ : ∃ b, b = w2.heap.size := ⟨_, rfl⟩
    have hbw : w.heap.size ≤ b := by have := hb2.size; omega
    rw [← hbe] at hbx ⊢
    clear hW2 hb2 hbe
    have q2 := rput_c x.now a s hsm1 (by omega) W2
    unfold putR at q2
    rw [if_neg hs] at q2
    refine q2.mono ?_
    rintro e w3 ⟨rfl, hb3⟩
    have hbx3 := hbx.on hb3
    have hB3 := hB2.trans (hb3.mono hB2.size)
    have d0 := hbx3.c0
    have d1 := hbx3.c1
    have d2 := hbx3.c2
    have z1 := hbx3.z 1
    obtain ⟨W4, hW4⟩ : ∃ W4, W4 = w3.setCell ⟨b, 1, none⟩ (.string ⟨(put x.now a s).toArray⟩) := ⟨_, rfl⟩
    have hB4 : Below w.heap.size w W4 := by rw [hW4]; exact hB3.setCell hbw _
    have q3 := rset_c r fv qv kv X y (by omega) W4 (H.out.on hB4)
    rw [show rfV y = .agg #[.int .i64 (f : Int), .string ⟨(put x.now a s).toArray⟩, .string ⟨x.dur.toArray⟩] by rw [HY.out]; rfl] at q3
    have Q3 := Lib.hid q3
    have HB4 := Lib.hid hB4
    clear q2 hbx hb3 hbx3 hB2 hB3 hB4 q3
    go_wp2_with fail
    rw [← hW4]
    clear hW4 d0 d1 d2 z1
    refine Q3.out.mono ?_
    rintro e w5 ⟨rfl, fv5, hR5, hf5, hk5⟩
    have hst : RStep w w5 r fv qv kv { X with fs := setR X.fs y } := RStep.mk hR5 (fun k e => Or.inr (by have := hf5 k e; have := HB4.out.size; omega)) (fun k e => Or.inl e) (((Kept.below (S := fun k => k = r ∨ fv.ownBlock = some k ∨ qv.ownBlock = some k) HB4.out)).trans hk5 (fun k _ e => Or.inl e))
    have HST := Lib.hid hst
    clear hR5 hf5 hk5 hst Q3
    go_wp2_with fail
    go_loopw [9] (fun v9 wr => ∃ k : Nat, k ≤ M ∧ v9 = .int .i64 ((n0 + k : Nat) : Int) ∧ Hid (RStep w wr r fv qv kv { X with fs := setR X.fs y, q := X.q ++ newR X.q f (List.range' n0 k) })) (fun v9 _ => n0 + M - (intOf v9).toNat)
    case atStart => exact ⟨0, Nat.zero_le _, rfl, Lib.hid (by show RStep w w5 r fv qv kv { X with fs := setR X.fs y, q := X.q ++ [] }; rw [List.append_nil]; exact HST.out)⟩
    case round =>
      obtain ⟨k, hk, rfl, HR⟩ := hrel
      obtain ⟨nn, hnn⟩ : ∃ nn, nn = n0 + k := ⟨_, rfl⟩
      rw [← hnn]
      by_cases hkl : k < M
      · have hle : (nn : Int) ≤ (n1 : Int) := by have := HML.out; omega
        have hnn0 : nn ≤ 262144 := by have := HML.out; omega
        have hsnoc : List.range' n0 (k + 1) = List.range' n0 k ++ [nn] := by rw [List.range'_concat, hnn]; simp
        have hpe : pendR (X.q ++ newR X.q f (List.range' n0 k)) (f : Int) (nn : Int) = pendR X.q (f : Int) (nn : Int) := by
          rw [pendR_app, pendR_new _ _ _ _ (by rw [List.mem_range'_1]; omega), Bool.or_false]
        have hql : (X.q ++ newR X.q f (List.range' n0 k)).length ≤ 5000000 := by
          have h1 := hX.len
          have h2 : (newR X.q f (List.range' n0 k)).length ≤ k := by
            unfold newR
            rw [List.length_map]
            exact Nat.le_trans (List.length_filter_le _ _) (by simp)
          have := HML.out
          rw [List.length_append]
          omega
        obtain ⟨fv1, qv1, hR, hf1, hq1', hk1⟩ := HR.out
        have hpc := rpending_c r fv1 qv1 kv _ (f : Int) (nn : Int) wr hR (by show (X.q ++ newR X.q f (List.range' n0 k)).length ≤ _; omega)
        have hpc' : Calls Tryd.prog 61 #[.pointer (some ⟨r, 0, none⟩), .int .i64 (f : Int), .int .i64 (nn : Int)] wr fun e w' => e = .returned (.bool (pendR X.q (f : Int) (nn : Int))) ∧ w' = wr := by rw [← hpe]; exact hpc
        have PC := Lib.hid hpc'
        have hnew : newR X.q f (List.range' n0 (k + 1)) = newR X.q f (List.range' n0 k) ++ (if pendR X.q (f : Int) (nn : Int) then [] else [(f, nn)]) := by rw [hsnoc, newR_snoc]
        have hnk : n0 + (k + 1) = nn + 1 := by omega
        have HNN := Lib.hid hnn
        cases hpd : pendR X.q (f : Int) (nn : Int) with
        | true =>
          rw [hpd, if_pos rfl, List.append_nil] at hnew
          rw [hpd] at PC
          have HN := Lib.hid hnew
          have HNK := Lib.hid hnk
          clear hpc hpc' hpe hR hf1 hq1' hk1 hnew hsnoc hnk hnn hpd
          go_wp2_with (go_at_call 61; refine PC.out.mono ?_; rintro e w6 ⟨rfl, h6⟩; rw [h6]; clear h6)
          go_roundw
          case rel => exact ⟨k + 1, hkl, by rw [HNK.out]; go_num, by rw [HN.out]; exact HR⟩
          case measure => have := HML.out; have := HNN.out; simp [intOf]; omega
        | false =>
          rw [hpd, if_neg (by simp)] at hnew
          rw [hpd] at PC
          obtain ⟨qa, qc, rfl, _⟩ := own_shape hR.queue
          obtain ⟨QL, hQL⟩ : ∃ QL, QL = (X.q ++ newR X.q f (List.range' n0 k)).length := ⟨_, rfl⟩
          have hqq : X.q ++ newR X.q f (List.range' n0 (k + 1)) = X.q ++ newR X.q f (List.range' n0 k) ++ [(f, nn)] := by rw [hnew, List.append_assoc]
          obtain ⟨a', c', w6, hr, ho6, hb6, hk6⟩ := app_sec wr 0 _ _ (f, nn) hR.queue (by show (X.q ++ newR X.q f (List.range' n0 k)).length ≤ _; omega) (Nat.zero_le _)
          have hst2 := rstep_sec hR (f, nn) ho6 hb6 hk6
          have hstep : RStep w (w6.setCell ⟨r, 1, none⟩ (.slice a' ((X.q ++ newR X.q f (List.range' n0 k)).length + 1) c')) r fv qv kv { X with fs := setR X.fs y, q := X.q ++ newR X.q f (List.range' n0 (k + 1)) } := by
            rw [hqq]
            exact RStep.trans hR hf1 hq1' hk1 hst2
          have j1 : w6.cell? ⟨r, 1, none⟩ = some (.slice qa (X.q ++ newR X.q f (List.range' n0 k)).length qc) := by
            rw [Lib.cell_of_heap (hk6.heap hR.cell hR.nq)]; rfl
          have z1 : w6.frozen? ⟨r, 1, none⟩ = false := Lib.frozen_of_heap (hk6.heap hR.cell hR.nq) 1
          have hr : (Builtin.append_ #[64, 64] 64 #[.slice qa (X.q ++ newR X.q f (List.range' n0 k)).length qc, .slice (some ⟨wr.heap.size, 0, none⟩) 1 1]).run Tryd.prog (wr.alloc (.cells #[.int .i64 (f : Int), .int .i64 (nn : Int)] 80)) = .ok (.slice a' ((X.q ++ newR X.q f (List.range' n0 k)).length + 1) c') w6 := hr
          have c1 : wr.cell? ⟨r, 1, none⟩ = some (.slice qa (X.q ++ newR X.q f (List.range' n0 k)).length qc)   := hR.c1
          rw [← hQL] at hr c1 j1 hstep
          have HRR := Lib.hid hr
          have HSTEP := Lib.hid hstep
          have HNK := Lib.hid hnk
          clear hpc hpc' hpe hR hf1 hq1' hk1 hnew hsnoc hnk hnn hpd hqq hr ho6 hb6 hk6 hst2 hstep hQL hql
          go_wp2_with (first | (go_at_call 61; refine PC.out.mono ?_; rintro e w7 ⟨rfl, h6⟩; rw [h6]; clear h6) | (at_builtin; refine Lib.wpList_append_run _ rfl _ _ _ _ rfl _ _ rfl rfl _ w6 HRR.out ?_))
          go_roundw
          case rel => exact ⟨k + 1, hkl, by rw [HNK.out]; go_num, HSTEP⟩
          case measure => have := HML.out; have := HNN.out; simp [intOf]; omega
      · have hle : ¬ (nn : Int) ≤ (n1 : Int) := by have := HML.out; omega
        have hke : k = M := by omega
        rw [hke, ← HSE.out] at HR
        clear hke
        go_wp2_with fail
        go_end0
        exact ⟨rfl, HR.out⟩
end Go.Proofs.YtninopllfbiccaaDoor

namespace Go.Proofs.YtninopllfbiccaaDoor
set_option maxRecDepth 100000
open Go Go.RowKit Go.Maps Dk

def noR (q : List (Nat × Nat)) (f : Int) : List (Nat × Nat) := q.filter fun p => (p.1 : Int) != f
def settleR (X : R) (f : Int) (s : List UInt8) : R := { X with fs := setR X.fs ⟨f, s, s⟩, q := noR X.q f }
theorem noR_len (q : List (Nat × Nat)) (f : Int) : (noR q f).length ≤ q.length := List.length_filter_le _ _

/-- Another list of pending sectors, in memory of its own. -/
theorem rstep_q {w w' : World} {r : Nat} {fv qv kv : Value} {X : R} (h : RAt w r fv qv kv X) {v : Value} {q' : List (Nat × Nat)} (ho : w'.ownsRow 0 80 2 v q'.length (secsV q')) (hb : Below w.heap.size w w') (hv : ∀ k, v.ownBlock = some k → w.heap.size ≤ k) :
    RStep w (w'.setCell ⟨r, 1, none⟩ v) r fv qv kv { X with q := q' } := by
  have hrw : r < w.heap.size := h.lt (Or.inl rfl)
  have h' := h.on hb
  have hk2 := Kept.set r 1 w' v
  have hnq : v.ownBlock ≠ some r := fun e => by have := hv r e; omega
  refine RStep.mk (fv' := fv) (qv' := v) { cell := cells6_set h'.cell 1 _ (by omega), files := ?_, queue := ?_, keep := ?_, nf := h.nf, nq := hnq, nk := h.nk, fq := fun k e e' => ?_, fk := h.fk, qk := fun k e e' => ?_ } (fun k e => Or.inl e) (fun k e => Or.inr (hv k e)) ((Kept.below (S := fun k => k = r ∨ fv.ownBlock = some k ∨ qv.ownBlock = some k) hb).trans hk2 (fun k _ e => Or.inl e))
  · exact own_kept h'.files hk2 (fun k e e' => h.nf (by rw [e, e']))
  · exact own_kept ho hk2 (fun k e e' => hnq (by rw [e, e']))
  · exact own_kept h'.keep hk2 (fun k e e' => h.nk (by rw [e, e']))
  · have h1 := h.lt (Or.inr (Or.inl e)); have h2 := hv k e'; omega
  · have h1 := h.lt (Or.inr (Or.inr (Or.inr e'))); have h2 := hv k e; omega
/-- Another list of files, in memory of its own. -/
theorem rstep_f {w w' : World} {r : Nat} {fv qv kv : Value} {X : R} (h : RAt w r fv qv kv X) {v : Value} {fs' : List RF} (ho : w'.ownsRow 0 82 3 v fs'.length (filesV fs')) (hb : Below w.heap.size w w') (hv : ∀ k, v.ownBlock = some k → w.heap.size ≤ k) :
    RStep w (w'.setCell ⟨r, 0, none⟩ v) r fv qv kv { X with fs := fs' } := by
  have hrw : r < w.heap.size := h.lt (Or.inl rfl)
  have h' := h.on hb
  have hk2 := Kept.set r 0 w' v
  have hnf : v.ownBlock ≠ some r := fun e => by have := hv r e; omega
  refine RStep.mk (fv' := v) (qv' := qv) { cell := cells6_set h'.cell 0 _ (by omega), files := ?_, queue := ?_, keep := ?_, nf := hnf, nq := h.nq, nk := h.nk, fq := fun k e e' => ?_, fk := fun k e e' => ?_, qk := h.qk } (fun k e => Or.inr (hv k e)) (fun k e => Or.inl e) ((Kept.below (S := fun k => k = r ∨ fv.ownBlock = some k ∨ qv.ownBlock = some k) hb).trans hk2 (fun k _ e => Or.inl e))
  · exact own_kept ho hk2 (fun k e e' => hnf (by rw [e, e']))
  · exact own_kept h'.queue hk2 (fun k e e' => h.nq (by rw [e, e']))
  · exact own_kept h'.keep hk2 (fun k e e' => h.nk (by rw [e, e']))
  · have h1 := h.lt (Or.inr (Or.inr (Or.inl e'))); have h2 := hv k e; omega
  · have h1 := h.lt (Or.inr (Or.inr (Or.inr e'))); have h2 := hv k e; omega

set_option maxHeartbeats 2000000 in
set_option maxRecDepth 100000 in
theorem rsettle_c (r : Nat) (fv qv kv : Value) (X : R) (hX : X.Ok) (f : Int) (s : List UInt8) (w : World) (h : RAt w r fv qv kv X) :
    Calls Tryd.prog 56 #[.pointer (some ⟨r, 0, none⟩), .int .i64 f, .string ⟨s.toArray⟩] w fun e w' => e = .returned (.tuple #[]) ∧ RStep w w' r fv qv kv (settleR X f s) := by
  have hfew := hX.few
  have hql := hX.len
  obtain ⟨qa, qc, rfl, _⟩ := own_shape h.queue
  obtain ⟨L, hL⟩ : ∃ L, L = X.q.length := ⟨_, rfl⟩
  rw [← hL] at h ⊢
  have q1 := rset_c r fv (.slice qa L qc) kv X ⟨f, s, s⟩ (by omega) w h
  rw [show rfV ⟨f, s, s⟩ = .agg #[.int .i64 f, .string ⟨s.toArray⟩, .string ⟨s.toArray⟩] from rfl] at q1
  have Q1 := Lib.hid q1
  have HL := Lib.hid hL
  have hLs : L ≤ 4456449 := by omega
  clear h q1 hL hql
  go_enter Tryd.func56, Tryd.ntmps56
  go_wp2_with (go_at_call 58; refine Q1.out.mono ?_; rintro e w1 ⟨rfl, fv1, hR1, hf1, hk1⟩)
  have HR1 := Lib.hid hR1
  have HF1 := Lib.hid hf1
  have HK1 := Lib.hid hk1
  clear hR1 hf1 hk1 Q1
  go_loopw [6, 7] (fun v6 v7 wr => ∃ k : Nat, k ≤ L ∧ v7 = .int .i64 (k : Int) ∧ Hid (wr.ownsRow w1.heap.size 80 2 v6 (noR (X.q.take k) f).length (secsV (noR (X.q.take k) f))) ∧ Below w1.heap.size w1 wr) (fun _ v7 _ => L - (intOf v7).toNat)
  case atStart => exact ⟨0, Nat.zero_le _, rfl, Lib.hid (World.ownsRow_nil _ _ _ _), Below.refl _ _⟩
  case round =>
    obtain ⟨k, hk, rfl, HO, hb⟩ := hrel
    have hR := HR1.out.on hb
    have c1 := hR.c1
    have HBB := Lib.hid hb
    by_cases hkl : k < L
    · have hkl' : (k : Int) < (L : Int) := by omega
      obtain ⟨p, hp⟩ : ∃ p, X.q[k]? = some p := ⟨X.q[k]'(by have := HL.out; omega), List.getElem?_eq_getElem _⟩
      obtain ⟨g, rfl, _, d0, d1⟩ := secs_cells (by have := hR.queue; exact this) hp
      have HP := Lib.hid hp
      clear hp
      by_cases hne : (p.1 : Int) = f
      · have hno : noR (X.q.take (k + 1)) f = noR (X.q.take k) f := by
          unfold noR
          rw [List.take_add_one, HP.out, List.filter_append]
          simp [hne]
        have HNO := Lib.hid hno
        clear hR hb hno
        go_wp2_with fail
        go_roundw
        case rel => exact ⟨k + 1, hkl, by go_num, by rw [HNO.out]; exact HO, HBB.out⟩
        case measure => simp [intOf]; omega
      · have hno : noR (X.q.take (k + 1)) f = noR (X.q.take k) f ++ [p] := by
          unfold noR
          rw [List.take_add_one, HP.out, List.filter_append]
          simp [hne]
        have hn10 : (noR (X.q.take k) f).length ≤ 10000000 := by
          have h1 := noR_len (X.q.take k) f
          have h2 : (X.q.take k).length ≤ k := by rw [List.length_take]; omega
          omega
        obtain ⟨a', c', w5, hr, ho5, hb5, hk5⟩ := app_sec wr w1.heap.size _ _ p HO.out hn10 hb.size
        rw [← hno] at ho5
        have hab : ∀ j, _ := fun j (e : _ = some j) => own_above HO.out e
        have hrel : ∃ k' : Nat, k' ≤ L ∧ Value.int .i64 ((k : Int) + 1) = .int .i64 (k' : Int) ∧ Hid (w5.ownsRow w1.heap.size 80 2 (.slice a' ((noR (X.q.take k) f).length + 1) c') (noR (X.q.take k') f).length (secsV (noR (X.q.take k') f))) ∧ Below w1.heap.size w1 w5 :=
          ⟨k + 1, hkl, by go_num, Lib.hid ho5, hb.trans (hk5.toBelow hb.size (fun j e => hab j e))⟩
        have HR := Lib.hid hr
        have HREL := Lib.hid hrel
        clear hR hb hno hr ho5 hb5 hk5 hrel hab hn10
        go_wp2_with (at_builtin; refine Lib.wpList_append_run _ rfl _ _ _ _ rfl _ _ rfl rfl _ w5 HR.out ?_)
        go_roundw
        case rel => exact HREL.out
        case measure => simp [intOf]; omega
    · have hkl' : ¬ (k : Int) < (L : Int) := by omega
      have htk : X.q.take k = X.q := List.take_of_length_le (by have := HL.out; omega)
      rw [htk] at HO
      obtain ⟨va, vc, hve, _⟩ := own_shape (own_base HO.out)
      have z1 := hR.z 1
      have hstep := rstep_q HR1.out (q' := noR X.q f) (own_base HO.out) hb (fun j e => own_above HO.out e)
      have hfin : RStep w (wr.setCell ⟨r, 1, none⟩ u6) r fv (.slice qa L qc) kv (settleR X f s) :=
        RStep.trans HR1.out (fun j e => Or.inr (HF1.out j e)) (fun j e => Or.inl e) (HK1.out.mono (fun j _ e => Or.inl e)) hstep
      have HFIN := Lib.hid hfin
      clear hR hb hstep hfin htk HO
      rw [hve] at HFIN ⊢
      clear hve
      go_wp2_with fail
      go_end0
      exact ⟨rfl, HFIN.out⟩
end Go.Proofs.YtninopllfbiccaaDoor
