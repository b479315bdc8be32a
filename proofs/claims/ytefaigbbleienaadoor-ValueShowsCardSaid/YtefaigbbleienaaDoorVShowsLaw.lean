/-
  ValueShows returns true, for all rows and strings; of what was there nothing has turned.
-/
import Derived.Test.YtefaigbbleienaaDoorVArg
import Derived.Deep.DeepCutAuto
namespace Go.Proofs.YtefaigbbleienaaDoor
open Go Go.RowKit Go.Sort Wire Txt Vl

theorem parse_cases (s : List UInt8) : (∃ v, parseP s = .tuple #[.agg #[.int .i64 v.k, .int .i64 v.n, .string ⟨v.s.toArray⟩], .bool true] ∧ showV v = s ∧ rightV v = true ∧ InR v.n) ∨ parseP s = .tuple #[.agg #[.int .i64 0, .int .i64 0, .string ⟨#[]⟩], .bool false] := by
  cases h : parseV s with
  | some v =>
    obtain ⟨h1, h2, h3⟩ := parseV_some h
    exact Or.inl ⟨v, parseP_some h, h3, h1, h2⟩
  | none => exact Or.inr (parseP_none h)
theorem parseRow_cases {s : List UInt8} (hs : s.length ≤ 500) {w w' : World} {e : Ending} (hp : ParsePost s w e w') : ((∃ sv l, e = .returned (.tuple #[sv, .bool true]) ∧ showR l = s ∧ (∀ v ∈ l, InR v.n) ∧ l.length ≤ 1000 ∧ RowV w' sv l) ∨ e = .returned (.tuple #[.slice none 0 0, .bool false])) ∧ Below w.heap.size w w' := by
  obtain ⟨h1 | h1, hb⟩ := hp
  · obtain ⟨sv, l, he, hl, hll, hown⟩ := h1
    exact ⟨Or.inl ⟨sv, l, he, hl.2, fun v hv => (hl.1 v hv).2, by omega, row_of_own hown (by omega)⟩, hb⟩
  · exact ⟨Or.inr h1.1, hb⟩
theorem parse_nil {w w' : World} {e : Ending} (hp : ParsePost [] w e w') : e = .returned (.tuple #[.slice none 0 0, .bool false]) ∧ Below w.heap.size w w' := by
  obtain ⟨h1 | h1, hb⟩ := hp
  · obtain ⟨sv, l, he, hl, _⟩ := h1
    have := rowText_body hl
    cases this
  · exact ⟨h1.1, hb⟩
theorem all_next (l : List V) (k : Nat) (u : V) (hu : l[k]? = some u) : (l.take (k + 1)).all rightV = ((l.take k).all rightV && rightV u) := by
  rw [List.take_add_one, List.all_append, hu]
  simp

section
variable (l : List V) (s : List UInt8) (x : Value) (w : World)
set_option maxRecDepth 100000 in
theorem shows_out1 (ls : s.length ≤ 9223372036854775807) (hg : Good w) (hx : OArg w x l) (h : shortR l 15 = false) :
    Calls Tryd.prog 4 #[x, .string ⟨s.toArray⟩] w fun e w' => e = .returned (.bool true) ∧ Below w.heap.size w w' := by
  have HX := hx
  obtain ⟨a1, c1, rfl⟩ := hx.slc
  clear hx
  go_enter Tryd.func4, Tryd.ntmps4
  go_wp2_with fail
  refine (vsmall_c _ hg).mono ?_
  rintro e w1 ⟨rfl, hb1⟩
  go_wp2_with fail
  refine (short_c l _ 15 _ (fits_len HX) (HX.on hb1 (Nat.le_refl _)).1.row).mono ?_
  rw [h]
  rintro e w2 ⟨rfl, hb2⟩
  go_wp2_with fail
  go_ret
  exact ⟨rfl, chain hb1 hb2⟩
set_option maxRecDepth 100000 in
theorem shows_out2 (ls : s.length ≤ 9223372036854775807) (hg : Good w) (hx : OArg w x l) (h : shortR l 15 = true) (h2 : ¬ s.length ≤ 500) :
    Calls Tryd.prog 4 #[x, .string ⟨s.toArray⟩] w fun e w' => e = .returned (.bool true) ∧ Below w.heap.size w w' := by
  have HX := hx
  obtain ⟨a1, c1, rfl⟩ := hx.slc
  clear hx
  go_enter Tryd.func4, Tryd.ntmps4
  go_wp2_with fail
  refine (vsmall_c _ hg).mono ?_
  rintro e w1 ⟨rfl, hb1⟩
  go_wp2_with fail
  refine (short_c l _ 15 _ (fits_len HX) (HX.on hb1 (Nat.le_refl _)).1.row).mono ?_
  rw [h]
  rintro e w2 ⟨rfl, hb2⟩
  go_wp2_with fail
  go_ret
  exact ⟨rfl, chain hb1 hb2⟩
/-- What is behind the rows: the second string, read and shown again. -/
def ShowsEnd (s : List UInt8) : Prop := s.length ≤ 500
set_option maxHeartbeats 3000000 in
set_option maxRecDepth 100000 in
theorem shows_main (hg : Good w) (hx : OArg w x l) (h1 : shortR l 15 = true) (h2 : s.length ≤ 500) :
    Calls Tryd.prog 4 #[x, .string ⟨s.toArray⟩] w fun e w' => e = .returned (.bool true) ∧ Below w.heap.size w w' := by
  obtain ⟨la, ma⟩ := short_parts' h1
  have la' : l.length ≤ 15 := by omega
  have hin : ∀ v ∈ l, InR v.n := fun v hv => (hx.2 v hv).2.1
  have hrl : (showR l).length < 9999999 := by
    have := body_len l hin
    unfold showR
    split
    · simp; omega
    · simp
  have HX := Lib.hid hx
  have H1 := Lib.hid h1
  have HIN := Lib.hid hin
  obtain ⟨a1, c1, rfl⟩ := hx.slc
  clear hx h1 ma hin
  go_enter Tryd.func4, Tryd.ntmps4
  go_wp2_with fail
  refine (vsmall_c _ hg).mono ?_
  rintro e w1 ⟨rfl, hb1⟩
  go_wp2_with fail
  refine (short_c l _ 15 _ (fits_len HX.out) (HX.out.on hb1 (Nat.le_refl _)).1.row).mono ?_
  rw [H1.out]
  rintro e w2 ⟨rfl, hb2⟩
  have hbb2 := chain hb1 hb2
  clear hb1 hb2
  go_wp2_with fail
  go_loopw [6, 7] (fun s6 s7 wr => ∃ (k : Nat) (g : Bool), k ≤ l.length ∧ s6 = .bool g ∧ s7 = .int .i64 k ∧ Hid (g = (l.take k).all rightV) ∧ Below w.heap.size w wr) (fun _ s7 _ => l.length - (intOf s7).toNat)
  case atStart => exact ⟨0, true, Nat.zero_le _, rfl, rfl, Lib.hid rfl, hbb2⟩
  case round =>
    obtain ⟨k, g, hk, rfl, rfl, HG, hbk⟩ := hrel
    clear hbb2
    by_cases hlt : k < l.length
    · obtain ⟨u, hu⟩ : ∃ u, l[k]? = some u := ⟨l[k], List.getElem?_eq_getElem hlt⟩
      obtain ⟨_, ax, cx, hxe, hcells⟩ := (HX.out.on hbk (Nat.le_refl _)).1.row
      injection hxe with hx1 _ hx3
      subst hx1 hx3
      obtain ⟨bx, ox, rfl, hc⟩ := hcells (ne_of_lt hlt)
      have hcu := hc k u hu
      obtain ⟨u0, u1, u2⟩ := hcu
      have hun := HIN.out u (List.mem_of_getElem? hu)
      have hvl : (showV u).length ≤ 10000000 := by have := showV_len u hun; omega
      have HA := Lib.hid (all_next l k u hu)
      clear hu hc hcells
      cases hr : rightV u with
      | true =>
        have HP := Lib.hid (parseP_some (parseV_show u hr hun))
        go_wp2_with fail
        refine (show_c u hun _ (hg.on hbk)).mono ?_
        rintro e w6 ⟨rfl, hb6⟩
        go_wp2_with fail
        refine (parse_c (showV u) hvl _ ((hg.on hbk).on hb6)).mono ?_
        rw [HP.out]
        rintro e w7 ⟨rfl, hb7⟩
        have hb67 := chain hb6 hb7
        have q0 := keep_cell hb67 u0
        have q1 := keep_cell hb67 u1
        have q2 := keep_cell hb67 u2
        go_upto_region 9 with (fail)
        obtain ⟨w8, e8, hy8, hb8⟩ := box_new w7 u
        rw [e8]
        have k0 := cell_regrown (keep_cell hb8 q0)
        have k1 := cell_regrown (keep_cell hb8 q1)
        have k2 := cell_regrown (keep_cell hb8 q2)
        have k3 := cell_regrown hy8.c0
        have k4 := cell_regrown hy8.c1
        have k5 := cell_regrown hy8.c2
        have hb68 := chain hb67 hb8
        have q1 : ∀ d os, Calls Tryd.prog 15 #[.agg #[.int .i64 u.k, .int .i64 u.n, .string ⟨u.s.toArray⟩]] (grow (redrawn w8 d) os) fun e w'' => e = .returned (.bool true) ∧ ∃ p : Regrown, w'' = grow (redrawn w8 p.d) p.os := fun d os => Calls.regrown_of (by rw [← hr]; exact right_c u.k u.n u.s _)
        have Q1 := Lib.hid q1
        clear q1 hb6 hb7 hb8 hb67 u0 u1 u2 hy8 e8
        refine wp_region_quiet_below (by kernel_rfl) (by kernel_rfl) ?_
        repeat (quiet_step (with_reducible exact Q1.out _ _))
        refine wpQuiet_nil ?_
        intro _ hw'
        obtain ⟨⟨dq, osq⟩, hw''⟩ := hw'
        subst hw''
        have hb9 := chain hb68 (below_regrown w8 dq osq)
        generalize grow (redrawn w8 dq) osq = w9 at hb9 ⊢
        clear k0 k1 k2 k3 k4 k5 Q1 hb68
        cases g with
        | true =>
          go_wp2_with fail
          go_roundw
          case rel => exact ⟨k + 1, true, by omega, rfl, by go_num, Lib.hid (by rw [HA.out, ← HG.out, hr]; rfl), chain hbk hb9⟩
          case measure => simp [intOf]; omega
        | false =>
          go_wp2_with fail
          go_roundw
          case rel => exact ⟨k + 1, false, by omega, rfl, by go_num, Lib.hid (by rw [HA.out, ← HG.out]; rfl), chain hbk hb9⟩
          case measure => simp [intOf]; omega
      | false =>
        have HP := Lib.hid (show parseP (showV u) = .tuple #[.agg #[.int .i64 0, .int .i64 0, .string ⟨#[]⟩], .bool false] by rw [showV_wrong hr]; exact parseP_none parseV_nil)
        go_wp2_with fail
        refine (show_c u hun _ (hg.on hbk)).mono ?_
        rintro e w6 ⟨rfl, hb6⟩
        go_wp2_with fail
        refine (parse_c (showV u) hvl _ ((hg.on hbk).on hb6)).mono ?_
        rw [HP.out]
        rintro e w7 ⟨rfl, hb7⟩
        have hb67 := chain hb6 hb7
        have q0 := keep_cell hb67 u0
        have q1 := keep_cell hb67 u1
        have q2 := keep_cell hb67 u2
        go_upto_region 9 with (fail)
        obtain ⟨w8, e8, hy8, hb8⟩ := box_new w7 ⟨0, 0, []⟩
        simp only at e8
        rw [e8]
        have k0 := cell_regrown (keep_cell hb8 q0)
        have k1 := cell_regrown (keep_cell hb8 q1)
        have k2 := cell_regrown (keep_cell hb8 q2)
        have hb68 := chain hb67 hb8
        have q1 : ∀ d os, Calls Tryd.prog 15 #[.agg #[.int .i64 u.k, .int .i64 u.n, .string ⟨u.s.toArray⟩]] (grow (redrawn w8 d) os) fun e w'' => e = .returned (.bool false) ∧ ∃ p : Regrown, w'' = grow (redrawn w8 p.d) p.os := fun d os => Calls.regrown_of (by rw [← hr]; exact right_c u.k u.n u.s _)
        have Q1 := Lib.hid q1
        clear q1 hb6 hb7 hb8 hb67 u0 u1 u2 hy8 e8
        refine wp_region_quiet_below (by kernel_rfl) (by kernel_rfl) ?_
        repeat (quiet_step (with_reducible exact Q1.out _ _))
        refine wpQuiet_nil ?_
        intro _ hw'
        obtain ⟨⟨dq, osq⟩, hw''⟩ := hw'
        subst hw''
        have hb9 := chain hb68 (below_regrown w8 dq osq)
        generalize grow (redrawn w8 dq) osq = w9 at hb9 ⊢
        clear k0 k1 k2 Q1 hb68
        cases g with
        | true =>
          go_wp2_with fail
          go_roundw
          case rel => exact ⟨k + 1, false, by omega, rfl, by go_num, Lib.hid (by rw [HA.out, hr]; simp), chain hbk hb9⟩
          case measure => simp [intOf]; omega
        | false =>
          go_wp2_with fail
          go_roundw
          case rel => exact ⟨k + 1, false, by omega, rfl, by go_num, Lib.hid (by rw [HA.out, ← HG.out]; rfl), chain hbk hb9⟩
          case measure => simp [intOf]; omega
    · have HE := Lib.hid (show g = l.all rightV by rw [HG.out, List.take_of_length_le (by omega)])
      go_upto_region 12 with (fail)
      go_cut [10, 11] (fun s10 s11 wx => ((g = true ∧ s11 = .bool true ∧ RowV wx s10 l) ∨ (g = false ∧ s11 = .bool false ∧ s10 = .slice none 0 0)) ∧ Below w.heap.size w wx)
      case first =>
        cases g with
        | true =>
          have hall := List.all_eq_true.1 HE.out.symm
          have HT := Lib.hid (show RowText (showR l) l from ⟨fun v hv => ⟨hall v hv, HIN.out v hv⟩, rfl⟩)
          clear hall
          go_wp2_with fail
          refine (showRow_c l _ _ (hg.on hbk) HIN.out (by omega) (HX.out.on hbk (Nat.le_refl _)).1.row).mono ?_
          rintro e w6 ⟨rfl, hb6⟩
          have hbb6 := chain hbk hb6
          go_wp2_with fail
          refine (parseRow_c (showR l) hrl _ (hg.on hbb6)).mono ?_
          intro e w7 hpp
          obtain ⟨sv, rfl, hp7, hb7⟩ := parse_yes HT.out hpp hrl
          go_wp2_with fail
          go_meet
          exact ⟨Or.inl ⟨by first | rfl | trivial, rfl, hp7⟩, chain hbb6 hb7⟩
        | false =>
          have HT := Lib.hid (show showR l = [] by unfold showR; rw [if_neg (by rw [← HE.out]; simp)])
          go_wp2_with fail
          refine (showRow_c l _ _ (hg.on hbk) HIN.out (by omega) (HX.out.on hbk (Nat.le_refl _)).1.row).mono ?_
          rw [HT.out]
          rintro e w6 ⟨rfl, hb6⟩
          have hbb6 := chain hbk hb6
          go_wp2_with fail
          refine (parseRow_c [] (by simp) _ (hg.on hbb6)).mono ?_
          intro e w7 hpp
          obtain ⟨rfl, hb7⟩ := parse_nil hpp
          go_wp2_with fail
          go_meet
          exact ⟨Or.inr ⟨by first | rfl | trivial, rfl, rfl⟩, chain hbb6 hb7⟩
      obtain ⟨hcc, hbc⟩ := hcut
      generalize wc = w6 at hcc hbc ⊢
      clear hbk
      go_upto_region 13 with (fail)
      go_cut [80] (fun t80 wx => t80 = .bool false ∧ Below w.heap.size w wx)
      case first =>
        rcases hcc with ⟨rfl, rfl, hp⟩ | ⟨rfl, rfl, rfl⟩
        · go_wp2_with fail
          refine (sameRows_c l l _ _ _ hp (HX.out.on hbc (Nat.le_refl _)).1.row).mono ?_
          rw [show decide (l = l) = true by simp]
          rintro e w7 ⟨rfl, hb7⟩
          go_wp2_with fail
          go_meet
          exact ⟨rfl, chain hbc hb7⟩
        · go_wp2_with fail
          go_meet
          exact ⟨rfl, hbc⟩
      obtain ⟨rfl, hbd⟩ := hcut
      generalize wc = w7 at hbd ⊢
      clear hbc hcc
      have hs7 : s.length ≤ 10000000 := by omega
      go_wp2_with fail
      refine (parse_c s hs7 _ (hg.on hbd)).mono ?_
      rcases parse_cases s with ⟨v, hv, hve, hvr, hvn⟩ | hv
      · have HV := Lib.hid hve
        rw [hv]
        clear hv hve
        rintro e w8 ⟨rfl, hb8⟩
        go_wp2_with fail
        obtain ⟨w9, e9, hy9, hb9⟩ := box_new w8 v
        rw [e9]
        have hbb9 := chain hbd (chain hb8 hb9)
        clear e9 hbd hb8 hb9
        refine (parseRow_c s (by omega) _ (hg.on hbb9)).mono ?_
        intro e wa hpp
        obtain ⟨h3, hba⟩ := parseRow_cases h2 hpp
        clear hpp
        have hya := hy9.on hba
        have y0 := hya.c0
        have y1 := hya.c1
        have y2 := hya.c2
        have hbba := chain hbb9 hba
        have ys : (s == s) = true := by simp
        clear hy9 hbb9 hba
        rcases h3 with ⟨sv, l2, rfl, hle, hlf, hll, hlr⟩ | rfl
        · have HL := Lib.hid hle
          clear hle
          go_wp2_with fail
          refine (show_c v hvn _ (hg.on hbba)).mono ?_
          rw [HV.out]
          rintro e wb ⟨rfl, hbb⟩
          have y0 := (hya.on hbb).c0
          have y1 := (hya.on hbb).c1
          have y2 := (hya.on hbb).c2
          have hlr2 := hlr.on hbb (Nat.le_refl _)
          go_wp2_with fail
          refine (right_c v.k v.n v.s _).mono ?_
          rw [show (⟨v.k, v.n, v.s⟩ : V) = v from rfl, hvr]
          rintro e wc ⟨rfl, hbc⟩
          have hbbc := chain hbba (chain hbb hbc)
          have hlr3 := hlr2.on hbc (Nat.le_refl _)
          clear hbba hbb hbc hlr hlr2 hya
          go_wp2_with fail
          refine (showRow_c l2 _ _ (hg.on hbbc) hlf hll hlr3).mono ?_
          rw [HL.out]
          rintro e wd ⟨rfl, hbd⟩
          go_wp2_with fail
          go_ret
          exact ⟨rfl, chain hbbc hbd⟩
        · go_wp2_with fail
          refine (show_c v hvn _ (hg.on hbba)).mono ?_
          rw [HV.out]
          rintro e wb ⟨rfl, hbb⟩
          have y0 := (hya.on hbb).c0
          have y1 := (hya.on hbb).c1
          have y2 := (hya.on hbb).c2
          go_wp2_with fail
          refine (right_c v.k v.n v.s _).mono ?_
          rw [show (⟨v.k, v.n, v.s⟩ : V) = v from rfl, hvr]
          rintro e wc ⟨rfl, hbc⟩
          go_wp2_with fail
          go_ret
          exact ⟨rfl, chain hbba (chain hbb hbc)⟩
      · rw [hv]
        clear hv
        rintro e w8 ⟨rfl, hb8⟩
        go_wp2_with fail
        obtain ⟨w9, e9, hy9, hb9⟩ := box_new w8 ⟨0, 0, []⟩
        simp only at e9
        rw [e9]
        have hbb9 := chain hbd (chain hb8 hb9)
        clear e9 hbd hb8 hb9
        refine (parseRow_c s (by omega) _ (hg.on hbb9)).mono ?_
        intro e wa hpp
        obtain ⟨h3, hba⟩ := parseRow_cases h2 hpp
        clear hpp
        have hya := hy9.on hba
        have y0 := hya.c0
        have y1 := hya.c1
        have y2 := hya.c2
        have hbba := chain hbb9 hba
        have ys : (s == s) = true := by simp
        clear hy9 hbb9 hba
        rcases h3 with ⟨sv, l2, rfl, hle, hlf, hll, hlr⟩ | rfl
        · have HL := Lib.hid hle
          clear hle
          go_wp2_with fail
          refine (showRow_c l2 _ _ (hg.on hbba) hlf hll hlr).mono ?_
          rw [HL.out]
          rintro e wd ⟨rfl, hbd⟩
          go_wp2_with fail
          go_ret
          exact ⟨rfl, chain hbba hbd⟩
        · go_wp2_with fail
          go_ret
          exact ⟨rfl, hbba⟩
theorem showsLaw_c (ls : s.length ≤ 9223372036854775807) (hg : Good w) (hx : OArg w x l) :
    Calls Tryd.prog 4 #[x, .string ⟨s.toArray⟩] w fun e w' => e = .returned (.bool true) ∧ Below w.heap.size w w' := by
  cases h : shortR l 15 with
  | false => exact shows_out1 l s x w ls hg hx h
  | true =>
    by_cases h2 : s.length ≤ 500
    · exact shows_main l s x w hg hx h h2
    · exact shows_out2 l s x w ls hg hx h h2
end
end Go.Proofs.YtefaigbbleienaaDoor
