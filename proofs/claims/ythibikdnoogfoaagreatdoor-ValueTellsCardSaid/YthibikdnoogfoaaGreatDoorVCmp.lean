/-
  Compare and CompareRows, SameRows of package value, with the library's generic functions that they call: each returns what chapter 3 says; of what was there nothing has turned.
-/
import Derived.Test.YthibikdnoogfoaaGreatDoorVRight
namespace Go.Proofs.YthibikdnoogfoaaGreatDoor
open Go Go.RowKit Go.Sort Wire Txt Vl

/-- The three cells of a value. -/
def CellsV (w : World) (b o : Nat) (v : V) : Prop := w.cell? ⟨b, o, none⟩ = some (.int .i64 v.k) ∧ w.cell? ⟨b, o + 1, none⟩ = some (.int .i64 v.n) ∧ w.cell? ⟨b, o + 2, none⟩ = some (.string ⟨v.s.toArray⟩)
theorem CellsV.on {B b o : Nat} {v : V} {w w' : World} (h : CellsV w b o v) (hb : Below B w w') (hB : w.heap.size ≤ B) : CellsV w' b o v := by
  obtain ⟨h0, h1, h2⟩ := h
  exact ⟨(hb.cell (Nat.lt_of_lt_of_le (lt_of_cell h0) hB)).trans h0, (hb.cell (Nat.lt_of_lt_of_le (lt_of_cell h1) hB)).trans h1, (hb.cell (Nat.lt_of_lt_of_le (lt_of_cell h2) hB)).trans h2⟩
/-- x is a slice whose elements are the values of l. -/
def RowV (w : World) (x : Value) (l : List V) : Prop :=
  l.length ≤ 9223372036854775807 ∧ ∃ a cap, x = .slice a l.length cap ∧ (l ≠ [] → ∃ b off, a = some ⟨b, off, none⟩ ∧ ∀ i v, l[i]? = some v → CellsV w b (off + i * 3) v)
theorem RowV.on {B : Nat} {w w' : World} {x : Value} {l : List V} (h : RowV w x l) (hb : Below B w w') (hB : w.heap.size ≤ B) : RowV w' x l := by
  obtain ⟨h0, a, cap, h1, h2⟩ := h
  refine ⟨h0, a, cap, h1, fun hne => ?_⟩
  obtain ⟨b, off, h3, h4⟩ := h2 hne
  exact ⟨b, off, h3, fun i v hv => (h4 i v hv).on hb hB⟩
theorem below_drewN' (B : Nat) (w : World) (k : Nat) : Below B w (w.drewN k) := ⟨rfl, rfl, rfl, Nat.le_refl _, fun _ _ => rfl⟩
theorem ne_of_lt {l : List V} {k : Nat} (h : k < l.length) : l ≠ [] := by rintro rfl; simp at h

/-- A variable more, by name. -/
theorem box_out (w : World) (v : V) : ∃ w2, w.alloc (.cells #[.int .i64 v.k, .int .i64 v.n, .string ⟨v.s.toArray⟩] 31) = w2 ∧ w2.cell? ⟨w.heap.size, 0, none⟩ = some (.int .i64 v.k) ∧ w2.cell? ⟨w.heap.size, 1, none⟩ = some (.int .i64 v.n) ∧ w2.cell? ⟨w.heap.size, 2, none⟩ = some (.string ⟨v.s.toArray⟩) ∧ Below w.heap.size w w2 :=
  ⟨_, rfl, boxed_0 w v.k v.n v.s, boxed_1 w v.k v.n v.s, boxed_2 w v.k v.n v.s, boxed_below w v.k v.n v.s⟩
theorem keep_cell {w w2 : World} (hb : Below w.heap.size w w2) {p : Addr} {x : Value} (h : w.cell? p = some x) : w2.cell? p = some x := (hb.cell (lt_of_cell h)).trans h
theorem cmpInt_c (x y : Int) (w : World) : Calls Tryz.prog 53 #[.int .i64 x, .int .i64 y] w fun e w' => e = .returned (.int .i64 (Lib.compareInt x y)) ∧ w = w' :=
  (Tryz.cmp_Compare_int x y w).mono fun e w' ⟨he, hw⟩ => ⟨he, hw.symm⟩
theorem cmpStr_c (s t : List UInt8) (w : World) : Calls Tryz.prog 54 #[.string ⟨s.toArray⟩, .string ⟨t.toArray⟩] w fun e w' => e = .returned (.int .i64 (Lib.compareBytes s t)) ∧ w = w' :=
  (Tryz.strings_Compare ⟨s.toArray⟩ ⟨t.toArray⟩ w).mono fun e w' ⟨he, hw⟩ => ⟨by rw [he], hw.symm⟩

set_option maxRecDepth 100000 in
theorem compare_same (k n : Int) (s : List UInt8) (w : World) : Calls Tryz.prog 22 #[.agg #[.int .i64 k, .int .i64 n, .string ⟨s.toArray⟩], .agg #[.int .i64 k, .int .i64 n, .string ⟨s.toArray⟩]] w fun e w' => e = .returned (.int .i64 0) ∧ Below w.heap.size w w' := by
  go_enter Tryz.func22, Tryz.ntmps22
  go_wp2_with fail
  go_ret
  exact ⟨rfl, by go_grown⟩
set_option maxRecDepth 100000 in
theorem compare_k (k k' n n' : Int) (s s' : List UInt8) (w : World) (h : ¬ k = k') : Calls Tryz.prog 22 #[.agg #[.int .i64 k, .int .i64 n, .string ⟨s.toArray⟩], .agg #[.int .i64 k', .int .i64 n', .string ⟨s'.toArray⟩]] w fun e w' => e = .returned (.int .i64 (Lib.compareInt k k')) ∧ Below w.heap.size w w' := by
  go_enter Tryz.func22, Tryz.ntmps22
  go_wp2_with fail
  refine (cmpInt_c _ _ _).mono ?_
  rintro e w1 ⟨rfl, rfl⟩
  go_wp2_with fail
  go_ret
  exact ⟨rfl, by go_grown⟩
set_option maxRecDepth 100000 in
theorem compare_n (k n n' : Int) (s s' : List UInt8) (w : World) (h : ¬ n = n') : Calls Tryz.prog 22 #[.agg #[.int .i64 k, .int .i64 n, .string ⟨s.toArray⟩], .agg #[.int .i64 k, .int .i64 n', .string ⟨s'.toArray⟩]] w fun e w' => e = .returned (.int .i64 (Lib.compareInt n n')) ∧ Below w.heap.size w w' := by
  go_enter Tryz.func22, Tryz.ntmps22
  go_wp2_with fail
  refine (cmpInt_c _ _ _).mono ?_
  rintro e w1 ⟨rfl, rfl⟩
  go_wp2_with fail
  go_ret
  exact ⟨rfl, by go_grown⟩
set_option maxRecDepth 100000 in
theorem compare_s (k n : Int) (s s' : List UInt8) (w : World) (h : ¬ s = s') : Calls Tryz.prog 22 #[.agg #[.int .i64 k, .int .i64 n, .string ⟨s.toArray⟩], .agg #[.int .i64 k, .int .i64 n, .string ⟨s'.toArray⟩]] w fun e w' => e = .returned (.int .i64 (Lib.compareBytes s s')) ∧ Below w.heap.size w w' := by
  go_enter Tryz.func22, Tryz.ntmps22
  go_wp2_with fail
  refine (cmpStr_c _ _ _).mono ?_
  rintro e w1 ⟨rfl, rfl⟩
  go_wp2_with fail
  go_ret
  exact ⟨rfl, by go_grown⟩
theorem compare_c (a b : V) (w : World) : Calls Tryz.prog 22 #[.agg #[.int .i64 a.k, .int .i64 a.n, .string ⟨a.s.toArray⟩], .agg #[.int .i64 b.k, .int .i64 b.n, .string ⟨b.s.toArray⟩]] w fun e w' => e = .returned (.int .i64 (cmpV a b)) ∧ Below w.heap.size w w' := by
  obtain ⟨k, n, s⟩ := a
  obtain ⟨k', n', s'⟩ := b
  by_cases hk : k = k'
  · subst hk
    by_cases hn : n = n'
    · subst hn
      by_cases hs : s = s'
      · subst hs
        exact (compare_same k n s w).mono fun e w' ⟨he, hb⟩ => ⟨by rw [he]; exact ret_int (tot_v.self _).symm, hb⟩
      · exact (compare_s k n s s' w hs).mono fun e w' ⟨he, hb⟩ => ⟨by rw [he]; exact ret_int (cmpV_s (a := ⟨k, n, s⟩) (b := ⟨k, n, s'⟩) rfl rfl).symm, hb⟩
    · exact (compare_n k n n' s s' w hn).mono fun e w' ⟨he, hb⟩ => ⟨by rw [he]; exact ret_int (cmpV_n (a := ⟨k, n, s⟩) (b := ⟨k, n', s'⟩) rfl hn).symm, hb⟩
  · exact (compare_k k k' n n' s s' w hk).mono fun e w' ⟨he, hb⟩ => ⟨by rw [he]; exact ret_int (cmpV_k (a := ⟨k, n, s⟩) (b := ⟨k', n', s'⟩) hk).symm, hb⟩

theorem take_next {a b : List V} {k : Nat} {u v : V} (h : a.take k = b.take k) (hu : a[k]? = some u) (hv : b[k]? = some v) (hz : cmpV u v = 0) : a.take (k + 1) = b.take (k + 1) := by
  rw [List.take_add_one, List.take_add_one, h, hu, hv, (tot_v.eq u v).1 hz]
theorem cmpR_diff {a b : List V} {k : Nat} {u v : V} (h : a.take k = b.take k) (hu : a[k]? = some u) (hv : b[k]? = some v) (hz : ¬ cmpV u v = 0) : cmpR a b = cmpV u v := by
  have := lex_at tot_v k a b u v h hu hv
  rw [if_pos hz] at this
  exact this
theorem cmpR_long {a b : List V} {k : Nat} (h : a.take k = b.take k) (hk : k < a.length) (hb : k = b.length) : cmpR a b = 1 := by
  have e : b.take k = b := List.take_of_length_le (by omega)
  have ea : a = b ++ a.drop k := by conv => lhs; rw [← List.take_append_drop k a, h, e]
  have hd : a.drop k ≠ [] := by intro h0; have := congrArg List.length h0; simp at this; omega
  have h1 : cmpR b a = -1 := by
    rw [ea]
    exact lex_longer tot_v b _ hd
  have := tot_r.anti b a
  omega
theorem cmpR_less {a b : List V} {k : Nat} (h : a.take k = b.take k) (hk : k = a.length) (hb : a.length < b.length) : cmpR a b = -1 := by
  have h1 := cmpR_long h.symm (by omega) hk
  have := tot_r.anti b a
  omega
theorem cmpR_same {a b : List V} {k : Nat} (h : a.take k = b.take k) (hk : k = a.length) (hb : ¬ a.length < b.length) (hkb : k ≤ b.length) : cmpR a b = 0 := by
  have e1 : a.take k = a := List.take_of_length_le (by omega)
  have e2 : b.take k = b := List.take_of_length_le (by omega)
  rw [e1, e2] at h
  rw [h]
  exact tot_r.self b
set_option maxHeartbeats 1000000 in
set_option maxRecDepth 100000 in
theorem compareFunc_c (a b : List V) (x y : Value) (w : World) (ha : RowV w x a) (hb : RowV w y b) :
    Calls Tryz.prog 38 #[x, y, .func (.func 22) #[] #[]] w fun e w' => e = .returned (.int .i64 (cmpR a b)) ∧ Below w.heap.size w w' := by
  obtain ⟨la, ax, ca, rfl, hca⟩ := ha
  obtain ⟨lb, ay, cb, rfl, hcb⟩ := hb
  have HA := Lib.hid hca
  have HB := Lib.hid hcb
  clear hca hcb
  go_enter Tryz.func38, Tryz.ntmps38
  go_wp2_with fail
  go_loopw [13] (fun i wr => ∃ k : Nat, k ≤ a.length ∧ k ≤ b.length ∧ a.take k = b.take k ∧ i = .int .i64 k ∧ Below w.heap.size w wr) (fun i _ => a.length - (intOf i).toNat)
  case atStart => exact ⟨0, Nat.zero_le _, Nat.zero_le _, rfl, rfl, Below.refl _ _⟩
  case round =>
    obtain ⟨k, hk, hkb, ht, rfl, hbk⟩ := hrel
    have HT := Lib.hid ht
    clear ht
    by_cases hlt : k < a.length
    · obtain ⟨u, hu⟩ : ∃ u, a[k]? = some u := ⟨a[k], List.getElem?_eq_getElem hlt⟩
      obtain ⟨bx, ox, rfl, hc⟩ := HA.out (ne_of_lt hlt)
      obtain ⟨u0, u1, u2⟩ := (hc k u hu).on hbk (Nat.le_refl _)
      have HU := Lib.hid hu
      clear hu hc
      by_cases hlb : k < b.length
      · obtain ⟨v, hv⟩ : ∃ v, b[k]? = some v := ⟨b[k], List.getElem?_eq_getElem hlb⟩
        obtain ⟨byy, oy, rfl, hd⟩ := HB.out (ne_of_lt hlb)
        obtain ⟨v0, v1, v2⟩ := (hd k v hv).on hbk (Nat.le_refl _)
        have HV := Lib.hid hv
        clear hv hd
        obtain ⟨w2, e2, p0, p1, p2, hb2⟩ := box_out wr u
        have y0 := keep_cell hb2 v0
        have y1 := keep_cell hb2 v1
        have y2 := keep_cell hb2 v2
        obtain ⟨w3, e3, q0, q1, q2, hb3⟩ := box_out w2 v
        have r0 := keep_cell hb3 p0
        have r1 := keep_cell hb3 p1
        have r2 := keep_cell hb3 p2
        have hb4 : Below w.heap.size w w3 := (hbk.trans (hb2.mono hbk.size)).trans (hb3.mono (Nat.le_trans hbk.size hb2.size))
        by_cases hz : cmpV u v = 0
        · go_wp2_with fail
          refine (compare_c u v _).mono ?_
          rintro e w4 ⟨rfl, hb5⟩
          go_wp2_with fail
          go_roundw
          case rel => exact ⟨k + 1, by omega, by omega, take_next HT.out HU.out HV.out hz, by go_num, hb4.trans (hb5.mono hb4.size)⟩
          case measure => simp [intOf]; omega
        · go_wp2_with fail
          refine (compare_c u v _).mono ?_
          rintro e w4 ⟨rfl, hb5⟩
          go_wp2_with fail
          go_ret
          exact ⟨ret_int (cmpR_diff HT.out HU.out HV.out hz).symm, hb4.trans (hb5.mono hb4.size)⟩
      · obtain ⟨w2, e2, p0, p1, p2, hb2⟩ := box_out wr u
        go_wp2_with fail
        go_ret
        exact ⟨ret_int (cmpR_long HT.out hlt (by omega)).symm, hbk.trans (hb2.mono hbk.size)⟩
    · by_cases hab : a.length < b.length
      · go_wp2_with fail
        go_ret
        exact ⟨ret_int (cmpR_less HT.out (by omega) hab).symm, hbk⟩
      · go_wp2_with fail
        go_ret
        exact ⟨ret_int (cmpR_same HT.out (by omega) hab hkb).symm, hbk⟩
theorem compareRows_c (a b : List V) (x y : Value) (w : World) (ha : RowV w x a) (hb : RowV w y b) :
    Calls Tryz.prog 8 #[x, y] w fun e w' => e = .returned (.int .i64 (cmpR a b)) ∧ Below w.heap.size w w' := by
  have HC := Lib.hid (compareFunc_c a b x y w ha hb)
  obtain ⟨la, ax, ca, rfl, _⟩ := ha
  obtain ⟨lb, ay, cb, rfl, _⟩ := hb
  go_enter Tryz.func8, Tryz.ntmps8
  go_wp2_with fail
  refine HC.out.mono ?_
  rintro e w1 ⟨rfl, hb⟩
  go_wp2_with fail
  go_ret
  exact ⟨rfl, hb⟩

theorem take_eq {a b : List V} {k : Nat} {u v : V} (h : a.take k = b.take k) (hu : a[k]? = some u) (hv : b[k]? = some v) (hz : u = v) : a.take (k + 1) = b.take (k + 1) := by
  rw [List.take_add_one, List.take_add_one, h, hu, hv, hz]
set_option maxHeartbeats 1000000 in
set_option maxRecDepth 100000 in
theorem equal_c (a b : List V) (x y : Value) (w : World) (ha : RowV w x a) (hb : RowV w y b) :
    Calls Tryz.prog 39 #[x, y] w fun e w' => e = .returned (.bool (decide (a = b))) ∧ Below w.heap.size w w' := by
  obtain ⟨la, ax, ca, rfl, hca⟩ := ha
  obtain ⟨lb, ay, cb, rfl, hcb⟩ := hb
  have HA := Lib.hid hca
  have HB := Lib.hid hcb
  clear hca hcb
  by_cases hl : a.length = b.length
  · go_enter Tryz.func39, Tryz.ntmps39
    go_wp2_with fail
    go_loopw [13] (fun i wr => ∃ k : Nat, k ≤ a.length ∧ a.take k = b.take k ∧ i = .int .i64 k ∧ Below w.heap.size w wr) (fun i _ => a.length - (intOf i).toNat)
    case atStart => exact ⟨0, Nat.zero_le _, rfl, rfl, Below.refl _ _⟩
    case round =>
      obtain ⟨k, hk, ht, rfl, hbk⟩ := hrel
      have HT := Lib.hid ht
      clear ht
      by_cases hlt : k < a.length
      · have hlb : k < b.length := by omega
        obtain ⟨u, hu⟩ : ∃ u, a[k]? = some u := ⟨a[k], List.getElem?_eq_getElem hlt⟩
        obtain ⟨bx, ox, rfl, hc⟩ := HA.out (ne_of_lt hlt)
        obtain ⟨u0, u1, u2⟩ := (hc k u hu).on hbk (Nat.le_refl _)
        have HU := Lib.hid hu
        obtain ⟨v, hv⟩ : ∃ v, b[k]? = some v := ⟨b[k], List.getElem?_eq_getElem hlb⟩
        obtain ⟨byy, oy, rfl, hd⟩ := HB.out (ne_of_lt hlb)
        obtain ⟨v0, v1, v2⟩ := (hd k v hv).on hbk (Nat.le_refl _)
        have HV := Lib.hid hv
        clear hu hc hv hd
        obtain ⟨k1, n1, s1⟩ := u
        obtain ⟨k2, n2, s2⟩ := v
        simp only at u0 u1 u2 v0 v1 v2
        have hno : ⟨k1, n1, s1⟩ ≠ (⟨k2, n2, s2⟩ : V) → decide (a = b) = false := by
          intro hne
          rw [decide_eq_false_iff_not]
          rintro rfl
          have := HU.out.symm.trans HV.out
          injection this with this
          exact hne this
        by_cases hkk : k1 = k2
        · by_cases hnn : n1 = n2
          · by_cases hss : s1 = s2
            · subst hkk hnn hss
              clear hno
              go_wp2_with fail
              go_quiet (fail)
              go_wp2_with fail
              go_roundw
              case rel => exact ⟨k + 1, by omega, take_eq HT.out HU.out HV.out rfl, by go_num, hbk.trans (below_drewN' _ _ _)⟩
              case measure => simp [intOf]; omega
            · have HN := Lib.hid (hno (by simp [hss]))
              clear hno
              subst hkk hnn
              go_wp2_with fail
              go_quiet (fail)
              go_wp2_with fail
              go_ret
              exact ⟨ret_bool HN.out.symm, hbk.trans (below_drewN' _ _ _)⟩
          · have HN := Lib.hid (hno (by simp [hnn]))
            clear hno
            subst hkk
            go_wp2_with fail
            go_quiet (fail)
            go_wp2_with fail
            go_ret
            exact ⟨ret_bool HN.out.symm, hbk.trans (below_drewN' _ _ _)⟩
        · have HN := Lib.hid (hno (by simp [hkk]))
          clear hno
          go_wp2_with fail
          go_quiet (fail)
          go_wp2_with fail
          go_ret
          exact ⟨ret_bool HN.out.symm, hbk.trans (below_drewN' _ _ _)⟩
      · have HN := Lib.hid (show decide (a = b) = true by
          have h1 := HT.out
          rw [List.take_of_length_le (by omega), List.take_of_length_le (by omega)] at h1
          simp [h1])
        go_wp2_with fail
        go_ret
        exact ⟨ret_bool HN.out.symm, hbk⟩
  · have HN := Lib.hid (show decide (a = b) = false by
      rw [decide_eq_false_iff_not]
      rintro rfl
      exact hl rfl)
    go_enter Tryz.func39, Tryz.ntmps39
    go_wp2_with fail
    go_ret
    exact ⟨ret_bool HN.out.symm, Below.refl _ _⟩
theorem sameRows_c (a b : List V) (x y : Value) (w : World) (ha : RowV w x a) (hb : RowV w y b) :
    Calls Tryz.prog 10 #[x, y] w fun e w' => e = .returned (.bool (decide (a = b))) ∧ Below w.heap.size w w' := by
  have HC := Lib.hid (equal_c a b x y w ha hb)
  obtain ⟨la, ax, ca, rfl, _⟩ := ha
  obtain ⟨lb, ay, cb, rfl, _⟩ := hb
  go_enter Tryz.func10, Tryz.ntmps10
  go_wp2_with fail
  refine HC.out.mono ?_
  rintro e w1 ⟨rfl, hb⟩
  go_wp2_with fail
  go_ret
  exact ⟨rfl, hb⟩
end Go.Proofs.YthibikdnoogfoaaGreatDoor
