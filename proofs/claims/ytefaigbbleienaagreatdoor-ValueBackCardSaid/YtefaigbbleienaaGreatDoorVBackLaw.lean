/-
  ValueBack returns true, for all rows and strings; of what was there nothing has turned.
-/
import Derived.Test.YtefaigbbleienaaGreatDoorVRead
import Derived.Test.YtefaigbbleienaaGreatDoorVArg
import Derived.Deep.DeepCutAuto
namespace Go.Proofs.YtefaigbbleienaaGreatDoor
open Go Go.RowKit Go.Sort Wire Txt Vl

theorem vbytes_ge (v : V) : v.s.length ≤ (vbytes v).length := by
  simp only [vbytes, eInt, eText, List.length_append, List.length_singleton]
  omega
theorem rbytes_ge {l : List V} : ∀ v ∈ l, v.s.length ≤ (rbytes l).length := by
  intro v hv
  have h1 := vbytes_ge v
  have h2 : (vbytes v).length ≤ (l.flatMap vbytes).length := by
    obtain ⟨a, b, rfl⟩ := List.append_of_mem hv
    simp [List.flatMap_append]
    omega
  simp only [rbytes, List.length_append]
  omega
theorem back_yes {l : List V} (hl : l.length ≤ 1000) (hf : ∀ v ∈ l, Fits v) {w w' : World} {e : Ending} (hp : ReadPost (rbytes l) w e w') : ∃ sv, e = .returned (.tuple #[sv, .bool true]) ∧ RowV w' sv l ∧ Below w.heap.size w w' := by
  have key : readR (rbytes l) = some l := (readR_iff _ _).2 ⟨by unfold InR; omega, hf, rfl⟩
  obtain ⟨h1 | h1, hb⟩ := hp
  · obtain ⟨sv, l', he, hl', _, hown⟩ := h1
    rw [key] at hl'
    injection hl' with hl'
    subst hl'
    exact ⟨sv, he, row_of_own hown (by omega), hb⟩
  · rw [key] at h1
    cases h1.2
/-- What Read of the second string has come to. -/
theorem read_cases (s : List UInt8) (hs : s.length ≤ 500) : (∃ v, readP s = .tuple #[.agg #[.int .i64 v.k, .int .i64 v.n, .string ⟨v.s.toArray⟩], .bool true] ∧ vbytes v = s ∧ Fits v ∧ v.s.length ≤ 500) ∨ readP s = .tuple #[.agg #[.int .i64 0, .int .i64 0, .string ⟨#[]⟩], .bool false] := by
  cases h : readV s with
  | some v =>
    obtain ⟨h1, h2⟩ := (readV_iff s v).1 h
    have := vbytes_ge v
    exact Or.inl ⟨v, readP_some h, h2.symm, h1, by rw [h2] at hs; omega⟩
  | none => exact Or.inr (readP_none h)
theorem readRow_cases {s : List UInt8} (hs : s.length ≤ 500) {w w' : World} {e : Ending} (hp : ReadPost s w e w') : ((∃ sv l, e = .returned (.tuple #[sv, .bool true]) ∧ rbytes l = s ∧ (∀ v ∈ l, Fits v ∧ v.s.length ≤ 1000000) ∧ l.length ≤ 1000 ∧ RowV w' sv l) ∨ e = .returned (.tuple #[.slice none 0 0, .bool false])) ∧ Below w.heap.size w w' := by
  obtain ⟨h1 | h1, hb⟩ := hp
  · obtain ⟨sv, l, he, hl, hll, hown⟩ := h1
    obtain ⟨_, h2, h3⟩ := (readR_iff s l).1 hl
    refine ⟨Or.inl ⟨sv, l, he, h3.symm, fun v hv => ⟨h2 v hv, ?_⟩, by omega, row_of_own hown (by omega)⟩, hb⟩
    have := rbytes_ge v hv
    rw [← h3] at this
    omega
  · exact ⟨Or.inr h1.1, hb⟩

section
variable (l : List V) (s : List UInt8) (x : Value) (w : World)
set_option maxRecDepth 100000 in
theorem back_out1 (ls : s.length ≤ 9223372036854775807) (hg : Good w) (hx : OArg w x l) (h : shortR l 15 = false) :
    Calls Tryz.prog 4 #[x, .string ⟨s.toArray⟩] w fun e w' => e = .returned (.bool true) ∧ Below w.heap.size w w' := by
  have HX := hx
  obtain ⟨a1, c1, rfl⟩ := hx.slc
  clear hx
  go_enter Tryz.func4, Tryz.ntmps4
  go_wp2_with fail
  refine (vsmall_c _ hg).mono ?_
  rintro e w1 ⟨rfl, hb1⟩
  go_wp2_with fail
  refine (short_c l _ 15 _ (fits_len HX) (HX.on hb1 (Nat.le_refl _)).1.row).mono ?_
  rw [h]
  rintro e w2 ⟨rfl, hb2⟩
  go_wp2_with fail
  go_ret
  exact ⟨rfl, chain hb1 hb2⟩
set_option maxRecDepth 100000 in
theorem back_out2 (ls : s.length ≤ 9223372036854775807) (hg : Good w) (hx : OArg w x l) (h : shortR l 15 = true) (h2 : ¬ s.length ≤ 500) :
    Calls Tryz.prog 4 #[x, .string ⟨s.toArray⟩] w fun e w' => e = .returned (.bool true) ∧ Below w.heap.size w w' := by
  have HX := hx
  obtain ⟨a1, c1, rfl⟩ := hx.slc
  clear hx
  go_enter Tryz.func4, Tryz.ntmps4
  go_wp2_with fail
  refine (vsmall_c _ hg).mono ?_
  rintro e w1 ⟨rfl, hb1⟩
  go_wp2_with fail
  refine (short_c l _ 15 _ (fits_len HX) (HX.on hb1 (Nat.le_refl _)).1.row).mono ?_
  rw [h]
  rintro e w2 ⟨rfl, hb2⟩
  go_wp2_with fail
  go_ret
  exact ⟨rfl, chain hb1 hb2⟩
set_option maxHeartbeats 2000000 in
set_option maxRecDepth 100000 in
theorem back_main (hg : Good w) (hx : OArg w x l) (h1 : shortR l 15 = true) (h2 : s.length ≤ 500) :
    Calls Tryz.prog 4 #[x, .string ⟨s.toArray⟩] w fun e w' => e = .returned (.bool true) ∧ Below w.heap.size w w' := by
  obtain ⟨la, ma⟩ := short_parts' h1
  have la' : l.length ≤ 15 := by omega
  have hfs : ∀ v ∈ l, Fits v ∧ v.s.length ≤ 1000000 := fun v hv => ⟨hx.2 v hv, by have := ma v hv; omega⟩
  have hrl : (rbytes l).length ≤ 10000000 := by
    have := rbytes_len l 300 (show InR (l.length : Int) by unfold InR; omega) (fun v hv => ⟨hx.2 v hv, ma v hv⟩)
    omega
  have HX := Lib.hid hx
  have H1 := Lib.hid h1
  have HFS := Lib.hid hfs
  obtain ⟨a1, c1, rfl⟩ := hx.slc
  clear hx h1 ma hfs
  go_enter Tryz.func4, Tryz.ntmps4
  go_wp2_with fail
  refine (vsmall_c _ hg).mono ?_
  rintro e w1 ⟨rfl, hb1⟩
  go_wp2_with fail
  refine (short_c l _ 15 _ (fits_len HX.out) (HX.out.on hb1 (Nat.le_refl _)).1.row).mono ?_
  rw [H1.out]
  rintro e w2 ⟨rfl, hb2⟩
  have hbb2 := chain hb1 hb2
  clear hb1 hb2
  go_wp2_with fail
  refine (rowBytes_c l _ _ (hg.on hbb2) HFS.out (by omega) (HX.out.on hbb2 (Nat.le_refl _)).1.row).mono ?_
  rintro e w3 ⟨rfl, hb3⟩
  have hbb3 := chain hbb2 hb3
  clear hbb2 hb3
  go_wp2_with fail
  refine (readRow_c (rbytes l) hrl _ (hg.on hbb3)).mono ?_
  intro e w4 hpp
  obtain ⟨sv, rfl, hp4, hb4⟩ := back_yes (by omega) (fun v hv => (HFS.out v hv).1) hpp
  have hbb4 := chain hbb3 hb4
  clear hpp hbb3 hb4
  go_wp2_with fail
  refine (sameRows_c l l _ _ _ hp4 (HX.out.on hbb4 (Nat.le_refl _)).1.row).mono ?_
  rw [show decide (l = l) = true by simp]
  rintro e w5 ⟨rfl, hb5⟩
  have hbb5 := chain hbb4 hb5
  clear hp4 hbb4 hb5
  go_wp2_with fail
  go_loopw [8] (fun s8 wr => ∃ k : Nat, k ≤ l.length ∧ s8 = .int .i64 k ∧ Below w.heap.size w wr) (fun s8 _ => l.length - (intOf s8).toNat)
  case atStart => exact ⟨0, Nat.zero_le _, rfl, hbb5⟩
  case round =>
    obtain ⟨k, hk, rfl, hbk⟩ := hrel
    clear hbb5
    by_cases hlt : k < l.length
    · obtain ⟨u, hu⟩ : ∃ u, l[k]? = some u := ⟨l[k], List.getElem?_eq_getElem hlt⟩
      obtain ⟨_, ax, cx, hxe, hcells⟩ := (HX.out.on hbk (Nat.le_refl _)).1.row
      injection hxe with hx1 _ hx3
      subst hx1 hx3
      obtain ⟨bx, ox, rfl, hc⟩ := hcells (ne_of_lt hlt)
      have hcu := hc k u hu
      obtain ⟨u0, u1, u2⟩ := hcu
      obtain ⟨huf, hul⟩ := HFS.out u (List.mem_of_getElem? hu)
      have hvl : (vbytes u).length ≤ 10000000 := by have := vbytes_len u huf; omega
      have HR := Lib.hid (readP_some (readV_bytes huf))
      clear hu hc hcells
      go_wp2_with fail
      refine (bytes_c u _ (hg.on hbk) huf (by omega)).mono ?_
      rintro e w6 ⟨rfl, hb6⟩
      go_wp2_with fail
      refine (read_c (vbytes u) hvl _ ((hg.on hbk).on hb6)).mono ?_
      rw [HR.out]
      rintro e w7 ⟨rfl, hb7⟩
      have hb67 := chain hb6 hb7
      have q0 := keep_cell hb67 u0
      have q1 := keep_cell hb67 u1
      have q2 := keep_cell hb67 u2
      obtain ⟨w8, e8, hy8, hb8⟩ := box_new w7 u
      have p0 := keep_cell hb8 q0
      have p1 := keep_cell hb8 q1
      have p2 := keep_cell hb8 q2
      have y0 := hy8.c0
      have y1 := hy8.c1
      have y2 := hy8.c2
      have hb68 := chain hb67 hb8
      clear hb6 hb7 hb8 hb67 u0 u1 u2 q0 q1 q2 hy8
      go_wp2_with fail
      go_quiet (fail)
      go_wp2_with fail
      go_roundw
      case rel => exact ⟨k + 1, by omega, by go_num, (chain hbk hb68).trans (below_drewN' _ _ _)⟩
      case measure => simp [intOf]; omega
    · go_wp2_with fail
      refine (read_c s (by omega) _ (hg.on hbk)).mono ?_
      rcases read_cases s h2 with ⟨v, hv, hve, hvf, hvl⟩ | hv
      · have HV := Lib.hid hve
        rw [hv]
        clear hv hve
        rintro e w6 ⟨rfl, hb6⟩
        obtain ⟨w7, e7, hy7, hb7⟩ := box_new w6 v
        have hbb7 := chain hbk (chain hb6 hb7)
        clear hbk hb6 hb7
        go_wp2_with fail
        refine (readRow_c s (by omega) _ (hg.on hbb7)).mono ?_
        intro e w8 hpp
        obtain ⟨h3, hb8⟩ := readRow_cases h2 hpp
        clear hpp
        have y0 := (hy7.on hb8).c0
        have y1 := (hy7.on hb8).c1
        have y2 := (hy7.on hb8).c2
        have hbb8 := chain hbb7 hb8
        have ys : (s == s) = true := by simp
        clear hy7 hbb7 hb8
        rcases h3 with ⟨sv, l2, rfl, hle, hlf, hll, hlr⟩ | rfl
        · have HL := Lib.hid hle
          clear hle
          go_wp2_with fail
          refine (bytes_c v _ (hg.on hbb8) hvf (by omega)).mono ?_
          rw [HV.out]
          rintro e w9 ⟨rfl, hb9⟩
          have hbb9 := chain hbb8 hb9
          go_wp2_with fail
          refine (rowBytes_c l2 _ _ (hg.on hbb9) hlf hll (hlr.on hb9 (Nat.le_refl _))).mono ?_
          rw [HL.out]
          rintro e wa ⟨rfl, hba⟩
          go_wp2_with fail
          go_ret
          exact ⟨rfl, chain hbb9 hba⟩
        · go_wp2_with fail
          refine (bytes_c v _ (hg.on hbb8) hvf (by omega)).mono ?_
          rw [HV.out]
          rintro e w9 ⟨rfl, hb9⟩
          go_wp2_with fail
          go_ret
          exact ⟨rfl, chain hbb8 hb9⟩
      · rw [hv]
        clear hv
        rintro e w6 ⟨rfl, hb6⟩
        go_wp2_with fail
        obtain ⟨w7, e7, hy7, hb7⟩ := box_new w6 ⟨0, 0, []⟩
        simp only at e7
        rw [e7]
        have hbb7 := chain hbk (chain hb6 hb7)
        clear e7 hbk hb6 hb7
        refine (readRow_c s (by omega) _ (hg.on hbb7)).mono ?_
        intro e w8 hpp
        obtain ⟨h3, hb8⟩ := readRow_cases h2 hpp
        clear hpp
        have y0 := (hy7.on hb8).c0
        have y1 := (hy7.on hb8).c1
        have y2 := (hy7.on hb8).c2
        have hbb8 := chain hbb7 hb8
        have ys : (s == s) = true := by simp
        clear hy7 hbb7 hb8
        rcases h3 with ⟨sv, l2, rfl, hle, hlf, hll, hlr⟩ | rfl
        · have HL := Lib.hid hle
          clear hle
          go_wp2_with fail
          refine (rowBytes_c l2 _ _ (hg.on hbb8) hlf hll hlr).mono ?_
          rw [HL.out]
          rintro e wa ⟨rfl, hba⟩
          go_wp2_with fail
          go_ret
          exact ⟨rfl, chain hbb8 hba⟩
        · go_wp2_with fail
          go_ret
          exact ⟨rfl, hbb8⟩
theorem vbackLaw_c (ls : s.length ≤ 9223372036854775807) (hg : Good w) (hx : OArg w x l) :
    Calls Tryz.prog 4 #[x, .string ⟨s.toArray⟩] w fun e w' => e = .returned (.bool true) ∧ Below w.heap.size w w' := by
  cases h : shortR l 15 with
  | false => exact back_out1 l s x w ls hg hx h
  | true =>
    by_cases h2 : s.length ≤ 500
    · exact back_main l s x w hg hx h h2
    · exact back_out2 l s x w ls hg hx h h2
end
end Go.Proofs.YtefaigbbleienaaGreatDoor
