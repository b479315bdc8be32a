/-
  The reference's Put: bytes put into a string at an offset.
-/
import Derived.Test.YthibikdnoogfoaaDGc
import Derived.Lib.ConvBytes
import Derived.Laws.Sem
namespace Go.Proofs.Ythibikdnoogfoaa
open Go Go.RowKit Go.Maps Dk

/-- A row of bytes of the call's own, at which a string's conversion may have frozen what lies behind its end. -/
def BufAt (w : World) (g cap : Nat) (b : List UInt8) : Prop :=
  ∃ cur fz, w.heap[g]? = some (.cells cur 5 fz) ∧ b.length ≤ cap ∧ cap ≤ maxLen ∧ cur.size = cap ∧ (fz.2 = 0 ∨ cap ≤ fz.1) ∧ cur.toList.take b.length = bytesV b
theorem BufAt.lt {w : World} {g cap : Nat} {b : List UInt8} (h : BufAt w g cap b) : g < w.heap.size := by
  obtain ⟨cur, fz, h1, _⟩ := h
  exact (Array.getElem?_eq_some_iff.1 h1).1
theorem BufAt.kept {w w' : World} {S : Nat → Prop} {g cap : Nat} {b : List UInt8} (h : BufAt w g cap b) (hk : Kept S w w') (hn : ¬ S g) : BufAt w' g cap b := by
  obtain ⟨cur, fz, h1, h2⟩ := h
  exact ⟨cur, fz, hk.heap h1 hn, h2⟩
theorem buf_get {cur : Array Value} {b : List UInt8} (h : cur.toList.take b.length = bytesV b) {j : Nat} (hj : j < b.length) : cur[j]? = some (.int .u8 (bt b j).toNat) := by
  have e := bytesV_get hj
  rw [← h, List.getElem?_take_of_lt hj] at e
  simpa using e
theorem BufAt.cell {w : World} {g cap : Nat} {b : List UInt8} (h : BufAt w g cap b) {j : Nat} (hj : j < b.length) : w.cell? ⟨g, j, none⟩ = some (.int .u8 (bt b j).toNat) := by
  obtain ⟨cur, fz, h1, _, _, _, _, h2⟩ := h
  rw [Lib.cell_of_heap h1]
  exact buf_get h2 hj
theorem frozen_at {w : World} {g cap j : Nat} {cur : Array Value} {e : TypeId} {fz : Nat × Nat} (h : w.heap[g]? = some (.cells cur e fz)) (hf : fz.2 = 0 ∨ cap ≤ fz.1) (hj : j < cap) : w.frozen? ⟨g, j, none⟩ = false := by
  obtain ⟨lo, hi⟩ := fz
  simp only [World.frozen?, h, Bool.and_eq_false_iff, decide_eq_false_iff_not]
  simp only at hf
  omega
theorem BufAt.z {w : World} {g cap : Nat} {b : List UInt8} (h : BufAt w g cap b) {j : Nat} (hj : j < b.length) : w.frozen? ⟨g, j, none⟩ = false := by
  obtain ⟨cur, fz, h1, h2, _, _, h3, _⟩ := h
  exact frozen_at h1 h3 (Nat.lt_of_lt_of_le hj h2)
theorem setCell_row {w : World} {g j : Nat} {cur : Array Value} {e : TypeId} {fz : Nat × Nat} (h : w.heap[g]? = some (.cells cur e fz)) (v : Value) : (w.setCell ⟨g, j, none⟩ v).heap[g]? = some (.cells (cur.setIfInBounds j v) e fz) := by
  simp [World.setCell, Array.getElem?_modify, h]
theorem bytesV_set (b : List UInt8) (j : Nat) (x : UInt8) : bytesV (b.set j x) = (bytesV b).set j (.int .u8 x.toNat) := by simp [bytesV, List.map_set]
theorem BufAt.set {w : World} {g cap : Nat} {b : List UInt8} (h : BufAt w g cap b) (j : Nat) (x : UInt8) : BufAt (w.setCell ⟨g, j, none⟩ (.int .u8 x.toNat)) g cap (b.set j x) := by
  obtain ⟨cur, fz, h1, h2, h3, h4, h5, h6⟩ := h
  refine ⟨_, fz, setCell_row h1 _, by simpa using h2, h3, by simpa using h4, h5, ?_⟩
  rw [bytesV_set, List.length_set, ← h6, Array.toList_setIfInBounds, List.take_set]
theorem BufAt.conv (s : List UInt8) (hs : s.length ≤ 100000000) (w : World) : BufAt (Lib.bytesWorld w 5 ⟨s.toArray⟩) w.heap.size (grownCap w s.length 0 5) s := by
  have e : (⟨s.toArray⟩ : ByteArray).size = s.length := by show s.toArray.size = _; simp
  have hge := grownCap_ge w s.length 0 5
  have hsz : (Lib.bytesCells w 5 ⟨s.toArray⟩).size = grownCap w s.length 0 5 := by
    unfold Lib.bytesCells
    rw [e]
    simp
    omega
  refine ⟨_, _, Lib.bytesWorld_at_new w 5 ⟨s.toArray⟩, hge, grownCap_le_maxLen w s.length 0 5 (by unfold maxLen; omega), hsz, Or.inr (by rw [hsz]; exact Nat.le_refl _), ?_⟩
  unfold Lib.bytesCells bytesV
  rw [Array.toList_append, List.take_append_of_le_length (by simp)]
  simp
  exact List.take_of_length_le (by simp)
theorem infoU8' : (Try.prog.info? 5).map (fun i => (i.zero, i.size, i.bytes)) = some (some (.int .u8 0), 1, 1) := by kernel_rfl
/-- A byte 0 appended. -/
theorem app_zero (w : World) (g cap : Nat) (b : List UInt8) (h : BufAt w g cap b) (hl : b.length ≤ 100000000) :
    ∃ g' cap' w', (Builtin.append_ #[64, 64] 64 #[.slice (some ⟨g, 0, none⟩) b.length cap, .slice (some ⟨w.heap.size, 0, none⟩) 1 1]).run Try.prog (w.alloc (.cells #[.int .u8 0] 5)) = .ok (.slice (some ⟨g', 0, none⟩) (b.length + 1) cap') w' ∧
      BufAt w' g' cap' (b ++ [0]) ∧ (g' = g ∨ w.heap.size ≤ g') ∧ Kept (fun k => k = g) w w' := by
  obtain ⟨i, hi, hz, hsize, hby⟩ := info_parts infoU8'
  have hgl := h.lt
  obtain ⟨W, hW⟩ : ∃ W, W = w.alloc (.cells #[.int .u8 0] 5) := ⟨_, rfl⟩
  have hk0 : Kept (fun k => k = g) w W := by rw [hW]; exact Kept.alloc _ _ _
  have hk00 : Kept (fun _ => False) w W := by rw [hW]; exact Kept.alloc _ _ _
  have hnc : ∀ j u, ([.int .u8 0] : List Value)[j]? = some u → W.cell? ((⟨w.heap.size, 0, none⟩ : Addr).add j) = some u := fun j u hu => by
    rw [Lib.add_plain, hW, Lib.cell_of_heap (heap_alloc_new w _)]
    match j, hu with
    | 0, hu => simpa using hu
  have hWs : W.heap.size = w.heap.size + 1 := by rw [hW]; simp
  rw [← hW]
  have hcells : ∀ j u, (bytesV b)[j]? = some u → W.cell? ((⟨g, 0, none⟩ : Addr).add j) = some u := fun j u hu => by
    have hj : j < b.length := by have := (List.getElem?_eq_some_iff.1 hu).1; rwa [bytesV_length] at this
    rw [bytesV_get hj] at hu
    rw [Lib.add_plain, Nat.zero_add, ← hu]
    exact (h.kept hk00 (fun e => e)).cell hj
  obtain ⟨cur, fz, h1, h2, h3, h4, h5, h6⟩ := h
  by_cases hroom : b.length + 1 ≤ cap
  · have hh := hk00.heap h1 (fun e => e)
    have hc : W.cell? ⟨g, b.length, none⟩ = some (cur[b.length]'(by omega)) := by
      rw [Lib.cell_of_heap hh]
      exact Array.getElem?_eq_getElem _
    have hfr : W.frozen? ⟨g, b.length, none⟩ = false := frozen_at hh h5 (by omega)
    have hst : (storeCells ⟨g, b.length, none⟩ [.int .u8 0] 0).run Try.prog W = .ok () (W.setCell ⟨g, b.length, none⟩ (.int .u8 0)) := by
      have hs1 : (store ((⟨g, b.length, none⟩ : Addr).add 0) (.int .u8 0)).run Try.prog W = .ok () (W.setCell ⟨g, b.length, none⟩ (.int .u8 0)) := by
        rw [Lib.add_plain, Nat.add_zero, run_store Try.prog W _ _ _ rfl, hc]
        simp [hfr]
      simp only [storeCells, Sem.run_bind, hs1, Result.andThen_ok]
      rfl
    have hf := run_firstCells_some (P := Try.prog) W 1 1 ⟨w.heap.size, 0, none⟩ 1 1 [.int .u8 0] rfl hnc
    have hadd : (⟨g, 0, none⟩ : Addr).add b.length = ⟨g, b.length, none⟩ := by rw [Lib.add_plain, Nat.zero_add]
    refine ⟨g, cap, _, ?_, ?_, Or.inl rfl, hk0.trans (Kept.set g b.length W (.int .u8 0)) (fun _ _ e => e)⟩
    · simp [Builtin.append_, run_underlying Try.underlying64, sizeOf, typeInfo, hi, Builtin.lenOf, hroom, hf, hsize, hadd, hst]
    · refine ⟨_, fz, setCell_row hh _, by simpa using hroom, h3, by simpa using h4, h5, ?_⟩
      rw [List.length_append, List.length_singleton, bytesV_app, ← h6, Array.toList_setIfInBounds, List.take_set, List.take_add_one]
      have : cur.toList[b.length]? = some (cur[b.length]'(by omega)) := by simp
      rw [this]
      simp only [Option.toList_some]
      rw [List.set_append_right _ _ (by simp; omega)]
      simp
      congr 1
      rw [show b.length - min b.length cur.size = 0 by omega]
      rfl
  · have hr := run_append_grow (P := Try.prog) W 64 64 5 i (.int .u8 0) Try.underlying64 hi hz ⟨g, 0, none⟩ b.length cap (bytesV b) (by rw [hsize, bytesV_length]; omega) hcells ⟨w.heap.size, 0, none⟩ 1 1 [.int .u8 0] (by rw [hsize]; rfl) hnc (by omega) (by omega) (growslice_fits (by omega) (by rw [hby]; omega))
    have hge := grownCap_ge W (b.length + 1) cap 5
    refine ⟨_, _, _, hr, ⟨_, (0, 0), heap_alloc_new W.drew _, by simpa using hge, grownCap_le_maxLen W (b.length + 1) cap 5 (by unfold maxLen; omega), ?_, Or.inl rfl, ?_⟩, Or.inr (by omega), ?_⟩
    · simp [size_zeroCells, bytesV_length]
      have : (Value.cells (.int .u8 0)).size = 1 := rfl
      rw [this]
      omega
    · rw [List.length_append, List.length_singleton, bytesV_app, Array.toList_append, List.take_append_of_le_length (by simp [bytesV_length])]
      simp [bytesV_length, List.take_of_length_le]
      rfl
    · exact (hk0.trans (Kept.drew (fun k => k = g) W) (fun _ _ e => e)).trans (Kept.alloc _ _ _) (fun _ _ e => e)

def putR (s : List UInt8) (a : Nat) (t : List UInt8) : List UInt8 := if t = [] then s else put s a t
def lenV : Value → Nat
  | .slice _ n _ => n
  | _ => 0

/-- After k bytes: what was written, elsewhere the string. -/
structure Half (s : List UInt8) (a : Nat) (t : List UInt8) (k : Nat) (b : List UInt8) : Prop where
  len : b.length = max s.length (a + t.length)
  at' : ∀ j, bt b j = if a ≤ j ∧ j < a + k then bt t (j - a) else bt s j
theorem Half.first (s : List UInt8) (a : Nat) (t : List UInt8) {m : Nat} (hm : s.length + m = max s.length (a + t.length)) : Half s a t 0 (s ++ List.replicate m 0) := by
  refine ⟨by simp [hm], fun j => ?_⟩
  rw [if_neg (by omega), bt_append, bt_replicate]
  split
  · rfl
  · next h => exact (bt_ge (by omega)).symm
theorem bt_set (b : List UInt8) (i j : Nat) (x : UInt8) (hi : i < b.length) : bt (b.set i x) j = if j = i then x else bt b j := by
  unfold bt List.getD
  rw [List.getElem?_set]
  by_cases h : j = i
  · subst h
    rw [if_pos rfl, if_pos hi, if_pos rfl]
    rfl
  · rw [if_neg (fun e => h e.symm), if_neg h]
theorem Half.next {s : List UInt8} {a : Nat} {t : List UInt8} {k : Nat} {b : List UInt8} (h : Half s a t k b) (hk : k < t.length) : Half s a t (k + 1) (b.set (a + k) (bt t k)) := by
  have hl := h.len
  refine ⟨by rw [List.length_set]; exact hl, fun j => ?_⟩
  rw [bt_set _ _ _ _ (by omega), h.at']
  by_cases h1 : j = a + k
  · subst h1
    rw [if_pos rfl, if_pos (by omega)]
    congr 1
    omega
  · rw [if_neg h1]
    by_cases h2 : a ≤ j ∧ j < a + k
    · rw [if_pos h2, if_pos (by omega)]
    · rw [if_neg h2, if_neg (by omega)]
theorem Half.last {s : List UInt8} {a : Nat} {t : List UInt8} {b : List UInt8} (h : Half s a t t.length b) : b = put s a t := by
  refine bt_ext (by rw [h.len, put_length]) fun j _ => ?_
  rw [h.at', put_bt]

set_option maxHeartbeats 2000000 in
set_option maxRecDepth 100000 in
theorem rput_c (s : List UInt8) (a : Nat) (t : List UInt8) (hs : s.length ≤ 16777216) (ha : a + t.length ≤ 16777280) (w : World) :
    Calls Try.prog 67 #[.string ⟨s.toArray⟩, .int .i64 (a : Int), .string ⟨t.toArray⟩] w fun e w' => e = .returned (.string ⟨(putR s a t).toArray⟩) ∧ Below w.heap.size w w' := by
  unfold putR
  by_cases ht : t = []
  · rw [if_pos ht]
    subst ht
    go_enter Try.func67, Try.ntmps67
    go_wp2_with fail
    go_ret
    exact ⟨rfl, Below.refl _ _⟩
  · rw [if_neg ht]
    have hte : (t == []) = false := by simpa using ht
    have hcv := conv_str s w
    obtain ⟨W1, hW1⟩ : ∃ W1, W1 = Lib.bytesWorld w 5 ⟨s.toArray⟩ := ⟨_, rfl⟩
    obtain ⟨cc, hcc⟩ : ∃ cc, cc = grownCap w s.length 0 5 := ⟨_, rfl⟩
    have hbuf := BufAt.conv s (by omega) w
    have hbw : Below w.heap.size w W1 := by rw [hW1]; exact Lib.bytesWorld_below w _ _
    rw [← hW1, ← hcc] at hcv hbuf
    have HB := Lib.hid hbw
    have HU := Lib.hid hbuf
    obtain ⟨T, hT⟩ : ∃ T, T = max s.length (a + t.length) := ⟨_, rfl⟩
    have hTs : T ≤ 16777280 := by omega
    have HT := Lib.hid hT
    have htl : t.length ≤ 16777280 := by omega
    clear hW1 hcc hbw hbuf hT
    go_enter Try.func67, Try.ntmps67
    go_wp2_with fail
    go_loopw [7] (fun v7 wr => ∃ g cap m : Nat, v7 = .slice (some ⟨g, 0, none⟩) (s.length + m) cap ∧ s.length + m ≤ T ∧ w.heap.size ≤ g ∧ BufAt wr g cap (s ++ List.replicate m 0) ∧ Below w.heap.size w wr) (fun v7 _ => T - lenV v7)
    case atStart => exact ⟨w.heap.size, cc, 0, rfl, by have := HT.out; omega, Nat.le_refl _, by simpa using HU.out, HB.out⟩
    case round =>
      obtain ⟨g, cap, m, rfl, hm, hg, hbuf, hb⟩ := hrel
      have HBB := Lib.hid hb
      have HUU := Lib.hid hbuf
      by_cases hlt : s.length + m < a + t.length
      · have hlt' : (((s.length + m : Nat) : Int)) < (a : Int) + (t.length : Int) := by omega
        have hlt2 : (s.length : Int) + (m : Int) < (a : Int) + (t.length : Int) := by omega
        have hlb : (s ++ List.replicate m (0 : UInt8)).length = s.length + m := by simp
        obtain ⟨g', cap', w5, hr, hu5, hg5, hk5⟩ := app_zero wr g cap (s ++ List.replicate m 0) hbuf (by omega)
        rw [hlb] at hr
        have hrel : ∃ g2 cap2 m2 : Nat, Value.slice (some ⟨g', 0, none⟩) (s.length + m + 1) cap' = .slice (some ⟨g2, 0, none⟩) (s.length + m2) cap2 ∧ s.length + m2 ≤ T ∧ w.heap.size ≤ g2 ∧ BufAt w5 g2 cap2 (s ++ List.replicate m2 0) ∧ Below w.heap.size w w5 := by
          have hT := HT.out
          refine ⟨g', cap', m + 1, rfl, by omega, ?_, ?_, ?_⟩
          · rcases hg5 with e | e
            · omega
            · have := hb.size; omega
          · rw [List.replicate_succ', ← List.append_assoc]; exact hu5
          · exact hb.trans (hk5.toBelow hb.size (fun k e => by omega))
        have HR := Lib.hid hr
        have HREL := Lib.hid hrel
        have hTl : s.length + m + 1 ≤ T := by have := HT.out; omega
        obtain ⟨P, hP⟩ : ∃ P, P = s.length + m := ⟨_, rfl⟩
        rw [← hP] at HR HREL hlt' hTl ⊢
        clear hr hu5 hg5 hk5 hrel hbuf hb hlb hP hlt2
        go_wp2_with (at_builtin; refine Lib.wpList_append_run _ rfl _ _ _ _ rfl _ _ rfl rfl _ w5 HR.out ?_)
        go_roundw
        case rel => exact HREL.out
        case measure => simp [lenV]; omega
      · have hge : T = s.length + m := by have := HT.out; omega
        have hlt' : ¬ (((s.length + m : Nat) : Int)) < (a : Int) + (t.length : Int) := by omega
        have HH := Lib.hid (Half.first s a t (m := m) (by have := HT.out; omega))
        obtain ⟨P, hP⟩ : ∃ P, P = s.length + m := ⟨_, rfl⟩
        have hPl : a + t.length ≤ P := by omega
        have hPs : P ≤ 16777280 := by omega
        have hlb : (s ++ List.replicate m (0 : UInt8)).length = P := by simp [hP]
        rw [← hP] at hlt' ⊢
        obtain ⟨b0, hb0⟩ : ∃ b0, b0 = s ++ List.replicate m (0 : UInt8) := ⟨_, rfl⟩
        rw [← hb0] at HH HUU hlb
        have HLB := Lib.hid hlb
        clear hbuf hb hge hP hb0 hlb
        go_wp2_with fail
        go_loopw [8] (fun v8 wx => ∃ (k : Nat) (b : List UInt8), k ≤ t.length ∧ v8 = .int .i64 (k : Int) ∧ Hid (Half s a t k b) ∧ Hid (b.length = P) ∧ BufAt wx g cap b ∧ Below w.heap.size w wx) (fun v8 _ => t.length - (intOf v8).toNat)
        case atStart => exact ⟨0, b0, Nat.zero_le _, rfl, HH, HLB, HUU.out, HBB.out⟩
        case round =>
          obtain ⟨k, b, hk, rfl, HK, HLK, hbuf, hb⟩ := hrel
          have HBB := Lib.hid hb
          have HUU := Lib.hid hbuf
          by_cases hkl : k < t.length
          · have hkl' : (k : Int) < (t.length : Int) := by omega
            obtain ⟨ix, hix⟩ : ∃ ix, ix = a + k := ⟨_, rfl⟩
            have hak : ix < b.length := by have := HLK.out; omega
            have ci := hbuf.cell hak
            have zi := hbuf.z hak
            have ht1 : ∀ h, (⟨t.toArray⟩ : ByteArray)[k]'h = bt t k := fun h => (bt_lt hkl).symm
            have hidx : (a : Int) + (k : Int) = (ix : Int) := by omega
            have hixP : (ix : Int) < (P : Int) := by omega
            have hix0 : ix ≤ 16777280 := by omega
            have hn := HK.out.next hkl
            rw [← hix] at hn
            have HN := Lib.hid hn
            have HNB := Lib.hid (hbuf.set ix (bt t k))
            have HNL := Lib.hid (show (b.set ix (bt t k)).length = P by rw [List.length_set]; exact HLK.out)
            clear hn hix
            clear hbuf hb hak
            go_wp2_with fail
            go_roundw
            case rel => exact ⟨k + 1, _, hkl, by go_num, HN, HNL, HNB.out, HBB.out.setCell hg _⟩
            case measure => simp [intOf]; omega
          · have hkl' : ¬ (k : Int) < (t.length : Int) := by omega
            have hke : k = t.length := by omega
            have HE := Lib.hid (show b = put s a t from (by rw [hke] at HK; exact HK.out.last))
            have hcb := conv_src (some ⟨g, 0, none⟩) cap b wr (fun _ => ⟨g, 0, rfl, fun j u hu => by
              have hj : j < b.length := by have := (List.getElem?_eq_some_iff.1 hu).1; rwa [bytesV_length] at this
              rw [bytesV_get hj] at hu
              rw [Nat.zero_add, ← hu]
              exact hbuf.cell hj⟩)
            rw [HLK.out] at hcb
            clear hbuf hb hke
            go_wp2_with fail
            go_ret
            exact ⟨congrArg (fun z : List UInt8 => Ending.returned (.string ⟨z.toArray⟩)) HE.out, HBB.out⟩
end Go.Proofs.Ythibikdnoogfoaa
