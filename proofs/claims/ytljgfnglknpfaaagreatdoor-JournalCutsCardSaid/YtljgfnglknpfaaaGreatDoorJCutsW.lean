/-
  JournalCuts: the walk.
-/
import Derived.Test.YtljgfnglknpfaaaGreatDoorJCuts
namespace Go.Proofs.YtljgfnglknpfaaaGreatDoor
set_option maxRecDepth 100000
open Go Go.RowKit Go.Sort Dk

set_option maxHeartbeats 1000000 in
theorem jcuts_out (av bv : Value) (a b : List (List UInt8)) (n : Int) (hla : a.length ≤ 9223372036854775807) (hlb : b.length ≤ 9223372036854775807) (w : World) (ha : SrcV w 1 av a.length (strsV a)) (hb : SrcV w 1 bv b.length (strsV b)) (ht : Tab w) (hg : Good w) (he : ¬ (textsM a = true ∧ textsM b = true)) :
    Calls Tryz.prog 5 #[av, .int .i64 n, bv] w fun e w' => e = .returned (.bool true) ∧ RowKit.Below w.heap.size w w' := by
  have ha0 := ha
  obtain ⟨aa, ac, rfl, _⟩ := ha0
  have hb0 := hb
  obtain ⟨ba, bc, rfl, _⟩ := hb0
  have HA := Lib.hid ha
  have HB := Lib.hid hb
  clear ha hb
  go_enter Tryz.func5, Tryz.ntmps5
  go_wp2_with fail
  refine (jsmall_c w ht hg).mono ?_
  rintro e w1 ⟨rfl, hb1⟩
  have Q1 := Lib.hid (texts_c _ a w1 (HA.out.on hb1) hla)
  have Q2 := Lib.hid (texts_c _ b w1 (HB.out.on hb1) hlb)
  have HB1 := Lib.hid hb1
  clear hb1
  cases hx : textsM a with
  | false =>
    rw [hx] at Q1
    clear he hx
    go_wp2_with (go_at_call 20; refine Q1.out.mono ?_; rintro e w2 ⟨rfl, hw⟩; rw [hw]; clear hw)
    go_ret
    exact ⟨rfl, HB1.out⟩
  | true =>
    rw [hx] at Q1
    cases hy : textsM b with
    | false =>
      rw [hy] at Q2
      clear he hx hy
      go_wp2_with fail
      refine Q1.out.mono ?_
      rintro e w2 ⟨rfl, hw⟩
      rw [hw]
      clear hw
      go_wp2_with fail
      refine Q2.out.mono ?_
      rintro e w2 ⟨rfl, hw⟩
      rw [hw]
      clear hw
      go_wp2_with fail
      go_ret
      exact ⟨rfl, HB1.out⟩
    | true => exact absurd ⟨hx, hy⟩ he

theorem form_ab {a b : List (List UInt8)} (ha : a.length ≤ 8 ∧ ∀ x ∈ a, x.length ≤ 200) (hb : b.length ≤ 8 ∧ ∀ x ∈ b, x.length ≤ 200) : (Jn.form (a ++ b)).length ≤ 1048576 := by
  have := form_small (l := a ++ b) (fun x hx => (List.mem_append.1 hx).elim (ha.2 x) (hb.2 x))
  rw [List.length_append] at this
  omega
theorem form_take_le {a : List (List UInt8)} (ha : a.length ≤ 8 ∧ ∀ x ∈ a, x.length ≤ 200) (k : Nat) : (a.take k).length ≤ 8 ∧ ∀ x ∈ a.take k, x.length ≤ 200 :=
  ⟨by rw [List.length_take]; omega, fun x hx => ha.2 x (List.mem_of_mem_take hx)⟩

set_option maxHeartbeats 4000000 in
theorem jcuts_in (av bv : Value) (a b : List (List UInt8)) (n : Int) (hn : In64 n) (hac : ∀ x c, av = .slice x a.length c → a.length ≤ c) (w : World) (ha : SrcV w 1 av a.length (strsV a)) (hb : SrcV w 1 bv b.length (strsV b)) (ht : Tab w) (hg : Good w) (hx : textsM a = true) (hy : textsM b = true) :
    Calls Tryz.prog 5 #[av, .int .i64 n, bv] w fun e w' => e = .returned (.bool true) ∧ RowKit.Below w.heap.size w w' := by
  have ha0 := ha
  obtain ⟨aa, ac, rfl, _⟩ := ha0
  have hcap := hac aa ac rfl
  clear hac
  have hb0 := hb
  obtain ⟨ba, bc, rfl, _⟩ := hb0
  have hA8 := textsM_out hx
  have hB8 := textsM_out hy
  have HA := Lib.hid ha
  have HB := Lib.hid hb
  have A8 := Lib.hid hA8
  have B8 := Lib.hid hB8
  have T := Lib.hid ht
  have G := Lib.hid hg
  have hal := hA8.1
  have hbl := hB8.1
  have AP : Apart 0 2 := ⟨by omega, by omega, by omega⟩
  obtain ⟨hn1, hn2⟩ := hn
  clear ha hb ht hg hA8 hB8
  go_enter Tryz.func5, Tryz.ntmps5
  go_wp2_with fail
  refine (jsmall_c w T.out G.out).mono ?_
  rintro e w1 ⟨rfl, hb1⟩
  have q1 := texts_c _ a w1 (HA.out.on hb1) (by omega)
  have q2 := texts_c _ b w1 (HB.out.on hb1) (by omega)
  rw [hx] at q1
  rw [hy] at q2
  have Q1 := Lib.hid q1
  have Q2 := Lib.hid q2
  have QN := Lib.hid (dd_new hb1)
  clear hb1 q1 q2 hx hy
  go_wp2_with fail
  refine Q1.out.mono ?_
  rintro e w2 ⟨rfl, hw⟩
  rw [hw]
  clear hw
  go_wp2_with fail
  refine Q2.out.mono ?_
  rintro e w2 ⟨rfl, hw⟩
  rw [hw]
  clear hw
  go_wp2_with fail
  refine QN.out.mono ?_
  rintro e w2 ⟨d, rfl, g2⟩
  go_wp2_with fail
  refine (pl_open2 T.out G.out g2.out.toDF AP).mono ?_
  rintro e w3 ⟨j, rfl, g3⟩
  go_wp2_with fail
  refine (pp_open T.out G.out g3.out AP).mono ?_
  rintro e w4 ⟨k, rfl, g4⟩
  clear g2 g3 Q1 Q2 QN
  go_wp2_with fail
  refine (pp_append T.out G.out g4.out AP _ a (arg_came HA.out g4.out.base _) (fun x hx => by have := A8.out.2 x hx; omega) (by omega) (by rw [List.nil_append]; have := form_small A8.out.2; omega)).mono ?_
  rintro e w5 ⟨rfl, g5⟩
  rw [List.nil_append] at g5
  have G5 := Lib.hid g5.out.1
  clear g4 g5
  go_wp2_with fail
  go_loopw [13] (fun v13 wr => ∃ i : Nat, i ≤ a.length ∧ v13 = .int .i64 (i : Int) ∧ Hid (PP w wr d j k 0 2 a (a.take i) (fun _ => False))) (fun v13 _ => a.length - (intOf v13).toNat)
  case atStart => exact ⟨0, Nat.zero_le _, rfl, G5⟩
  case round =>
    obtain ⟨i, hi, rfl, HP⟩ := hrel
    clear G5
    by_cases hlt : i < a.length
    · have hlt' : (i : Int) < (a.length : Int) := by omega
      obtain ⟨x, hxi⟩ : ∃ x, a[i]? = some x := ⟨a[i], List.getElem?_eq_getElem hlt⟩
      obtain ⟨g, off, rfl, hc⟩ := SrcV.str HA.out hxi
      have hcr : wr.cell? ⟨g, off + i, none⟩ = some (.string ⟨x.toArray⟩) := (Kept.below (S := fun _ => False) HP.out.base).cell hc (fun e => e)
      have hxl := A8.out.2 x (List.mem_of_getElem? hxi)
      have htk : a.take i ++ [x] = a.take (i + 1) := by rw [List.take_add_one, hxi]; rfl
      have q := pp_append_lit T.out G.out HP.out.swap AP.symm [x] (fun y hy => by simp at hy; rw [hy]; omega) (by simp) (by rw [htk]; have := form_small (form_take_le A8.out (i + 1)).2; have := (form_take_le A8.out (i + 1)).1; omega)
      rw [htk] at q
      have Q := Lib.hid q
      clear q hc hxi htk
      go_wp2_with (go_at_call 12; refine Q.out.mono ?_; rintro e w6 ⟨rfl, g6⟩)
      go_roundw
      case rel => exact ⟨i + 1, by omega, by go_num, Lib.hid g6.out.1.swap⟩
      case measure => simp [intOf]; omega
    · obtain rfl : i = a.length := by omega
      have HP2 := Lib.hid (show PP w wr d j k 0 2 a a (fun _ => False) by have := HP.out; rw [List.take_length] at this; exact this)
      clear HP
      obtain ⟨MO, MZ, hMZ, hMK, hMC⟩ := mega_str
      by_cases h0 : n < 0
      · have h0' : ¬ (0 : Int) ≤ n := by omega
        go_wp2_with fail
        refine (pp_cutout T.out G.out HP2.out AP n (Or.inl h0)).mono ?_
        rintro e w6 ⟨rfl, g6⟩
        have P6 := Lib.hid g6.out.1
        clear g6
        go_wp2_with fail
        refine (pp_cutout T.out G.out P6.out.swap AP.symm n (Or.inl h0)).mono ?_
        rintro e w7 ⟨rfl, g7⟩
        have P7 := Lib.hid g7.out.1.swap
        clear g7
        obtain ⟨N, hN⟩ : ∃ N, N = a.length := ⟨_, rfl⟩
        have hN8 : N ≤ 8 := by omega
        have HN := Lib.hid hN
        have HW := Lib.hid (show a.length ≤ 8 ∧ ∀ x ∈ a, x.length ≤ 200 from A8.out)
        have hba : RowKit.Below w7.heap.size w7 (w7.alloc (.cells #[] 9)) := (Below.refl _ w7).alloc (Nat.le_refl _) _
        obtain ⟨na, nc, w8, hr8, hc8, ho8, hb8⟩ := fresh_append w7 hN (by rw [hN]; exact ((HA.out.on P7.out.base).on hba)) (by omega)
        have HR8 := Lib.hid hr8
        have O8 := Lib.hid (own_low ho8 P7.out.base.size)
        have P8 := Lib.hid (P7.out.below (G := fun i => (Value.slice na N nc).ownBlock = some i) hb8 (fun i e => Or.inr (ho8.lt i e)))
        rw [← hN]
        clear hba hr8 ho8 hb8 hN
        go_wp2_with (at_builtin; refine Lib.wpList_append_run _ rfl _ _ _ _ rfl _ _ rfl rfl _ w8 HR8.out ?_)
        have PW8 := Lib.hid (show PW w w8 d j k 0 2 a a (.slice na N nc) N a from ⟨P8.out, O8.out⟩)
        refine (pp_append T.out G.out PW8.out.1 AP _ b (arg_came HB.out PW8.out.1.base _) (fun x hx => by have := B8.out.2 x hx; omega) (by omega) (form_ab HW.out B8.out)).mono ?_
        rintro e w9 ⟨rfl, g9⟩
        have PW9 := Lib.hid (PW8.out.held g9.out.1 g9.out.2)
        clear g9
        go_wp2_with fail
        refine (pp_append T.out G.out PW9.out.1.swap AP.symm _ b (arg_came HB.out PW9.out.1.base _) (fun x hx => by have := B8.out.2 x hx; omega) (by omega) (form_ab HW.out B8.out)).mono ?_
        rintro e w10 ⟨rfl, g10⟩
        have PW10 := Lib.hid (PW9.out.held g10.out.1.swap g10.out.2)
        clear g10
        go_wp2_with fail
        refine (pp_mega T.out G.out PW10.out.1 AP MO MZ hMZ).mono ?_
        rintro e w11 ⟨rfl, g11⟩
        have PW11 := Lib.hid (PW10.out.held g11.out.1 g11.out.2)
        clear g11
        obtain ⟨na2, nc2, M, w12, hM, hrun, hown12, hP12⟩ := want_runP HN.out PW11.out.1 PW11.out.2 (HB.out.on PW11.out.1.base) (by omega)
        have HRUN := Lib.hid hrun
        have PW12 := Lib.hid (show PW w w12 d j k 0 2 (a ++ b) (a ++ b) (.slice na2 M nc2) M (a ++ b) from ⟨hP12, hown12⟩)
        have hM16 : M ≤ 16 := by omega
        obtain ⟨V, hV⟩ : ∃ V, V = a ++ b := ⟨_, rfl⟩
        have HMV := Lib.hid (show M = V.length by rw [hV, List.length_append, ← HN.out]; exact hM)
        rw [← hV] at PW12
        clear hrun hown12 hP12 hM hV
        go_wp2_with (at_builtin; refine Lib.wpList_append_run _ rfl _ _ _ _ rfl _ _ rfl rfl _ w12 HRUN.out ?_)
        obtain ⟨wo, hwo⟩ : ∃ wo : World, wo = wr := ⟨_, rfl⟩
        subst hwo
        go_loopw [16] (fun v16 wr => ∃ i : Nat, i ≤ M ∧ v16 = .int .i64 (i : Int) ∧ Hid (PW w wr d j k 0 2 V V (.slice na2 M nc2) M V)) (fun v16 _ => M - (intOf v16).toNat)
        case atStart => exact ⟨0, Nat.zero_le _, rfl, PW12⟩
        case round =>
          obtain ⟨i, hi, rfl, HP⟩ := hrel
          by_cases hlt : i < M
          · have hlt' : (i : Int) < (M : Int) := by omega
            obtain ⟨x, hxi⟩ : ∃ x, V[i]? = some x := ⟨V[i]'(by have := HMV.out; omega), List.getElem?_eq_getElem _⟩
            obtain ⟨q, rfl, _⟩ := own_at (own_base HP.out.2) rfl (by omega)
            have hc := own_cell (own_base HP.out.2) rfl i (.string ⟨x.toArray⟩) (by simp only [strsV, List.getElem?_map, hxi]; rfl)
            rw [Lib.add_plain, Nat.zero_add] at hc
            have hd : RowKit.Below wr.heap.size wr wr.drew := ⟨rfl, rfl, rfl, Nat.le_refl _, fun _ _ => rfl⟩
            have QG := Lib.hid (pl_get (HP.out.below hd).1.fst i x hxi)
            have HD := Lib.hid hd
            clear hxi hd
            go_wp2_with fail
            go_region_law (go_simp; go_at_call 21; refine QG.out.mono ?_; rintro e w13 ⟨rfl, hw⟩; rw [hw]; clear hw)
            all_goals
              go_wp2_with fail
              go_roundw
              case rel => exact ⟨i + 1, by omega, by go_num, Lib.hid (HP.out.below HD.out)⟩
              case measure => simp [intOf]; omega
          · have hlt' : ¬ (i : Int) < (M : Int) := by omega
            have hVl : V.length ≤ 16 := by have := HMV.out; omega
            have Q1 := Lib.hid (pl_all HP.out.1.fst (by omega))
            have SW := Lib.hid (show SrcV wr 1 (.slice na2 M nc2) V.length (strsV V) from by have := SrcV.own (own_base HP.out.2); rw [← HMV.out]; exact this)
            clear hi hlt
            go_wp2_with fail
            refine Q1.out.mono ?_
            rintro e w13 ⟨a13, c13, rfl, g13⟩
            go_wp2_with fail
            refine (sameT_true V _ _ w13 (SrcV.own (own_base g13.out.1)) (SW.out.on g13.out.2) (by omega)).mono ?_
            rintro e w14 ⟨rfl, hb14⟩
            have PW14 := Lib.hid (HP.out.below (g13.out.2.trans (hb14.mono g13.out.2.size)))
            have S14 := Lib.hid (SW.out.on (g13.out.2.trans (hb14.mono g13.out.2.size)))
            clear g13 hb14
            go_wp2_with fail
            refine (pl_all PW14.out.1.swap.fst (by omega)).mono ?_
            rintro e w15 ⟨a15, c15, rfl, g15⟩
            go_wp2_with fail
            refine (sameT_true V _ _ w15 (SrcV.own (own_base g15.out.1)) (S14.out.on g15.out.2) (by omega)).mono ?_
            rintro e w16 ⟨rfl, hb16⟩
            have PW16 := Lib.hid (PW14.out.below (g15.out.2.trans (hb16.mono g15.out.2.size)))
            clear g15 hb16
            go_wp2_with fail
            refine (pl_getout PW16.out.1.fst (M : Int) (Or.inr (by have := HMV.out; omega))).mono ?_
            rintro e w17 ⟨rfl, hw⟩
            rw [hw]
            clear hw
            go_wp2_with fail
            refine (pl_getout PW16.out.1.fst (-1) (Or.inl (by omega))).mono ?_
            rintro e w17 ⟨rfl, hw⟩
            rw [hw]
            clear hw
            go_wp2_with fail
            go_ret
            exact ⟨rfl, PW16.out.1.base⟩
      · have h0' : (0 : Int) ≤ n := by omega
        by_cases h1 : (a.length : Int) < n
        · have h1' : ¬ n ≤ (a.length : Int) := by omega
          go_wp2_with fail
          refine (pp_cutout T.out G.out HP2.out AP n (Or.inr h1)).mono ?_
          rintro e w6 ⟨rfl, g6⟩
          have P6 := Lib.hid g6.out.1
          clear g6
          go_wp2_with fail
          refine (pp_cutout T.out G.out P6.out.swap AP.symm n (Or.inr h1)).mono ?_
          rintro e w7 ⟨rfl, g7⟩
          have P7 := Lib.hid g7.out.1.swap
          clear g7
          obtain ⟨N, hN⟩ : ∃ N, N = a.length := ⟨_, rfl⟩
          have hN8 : N ≤ 8 := by omega
          have HN := Lib.hid hN
          have HW := Lib.hid (show a.length ≤ 8 ∧ ∀ x ∈ a, x.length ≤ 200 from A8.out)
          have hba : RowKit.Below w7.heap.size w7 (w7.alloc (.cells #[] 9)) := (Below.refl _ w7).alloc (Nat.le_refl _) _
          obtain ⟨na, nc, w8, hr8, hc8, ho8, hb8⟩ := fresh_append w7 hN (by rw [hN]; exact ((HA.out.on P7.out.base).on hba)) (by omega)
          have HR8 := Lib.hid hr8
          have O8 := Lib.hid (own_low ho8 P7.out.base.size)
          have P8 := Lib.hid (P7.out.below (G := fun i => (Value.slice na N nc).ownBlock = some i) hb8 (fun i e => Or.inr (ho8.lt i e)))
          rw [← hN]
          clear hba hr8 ho8 hb8 hN
          go_wp2_with (at_builtin; refine Lib.wpList_append_run _ rfl _ _ _ _ rfl _ _ rfl rfl _ w8 HR8.out ?_)
          have PW8 := Lib.hid (show PW w w8 d j k 0 2 a a (.slice na N nc) N a from ⟨P8.out, O8.out⟩)
          refine (pp_append T.out G.out PW8.out.1 AP _ b (arg_came HB.out PW8.out.1.base _) (fun x hx => by have := B8.out.2 x hx; omega) (by omega) (form_ab HW.out B8.out)).mono ?_
          rintro e w9 ⟨rfl, g9⟩
          have PW9 := Lib.hid (PW8.out.held g9.out.1 g9.out.2)
          clear g9
          go_wp2_with fail
          refine (pp_append T.out G.out PW9.out.1.swap AP.symm _ b (arg_came HB.out PW9.out.1.base _) (fun x hx => by have := B8.out.2 x hx; omega) (by omega) (form_ab HW.out B8.out)).mono ?_
          rintro e w10 ⟨rfl, g10⟩
          have PW10 := Lib.hid (PW9.out.held g10.out.1.swap g10.out.2)
          clear g10
          go_wp2_with fail
          refine (pp_mega T.out G.out PW10.out.1 AP MO MZ hMZ).mono ?_
          rintro e w11 ⟨rfl, g11⟩
          have PW11 := Lib.hid (PW10.out.held g11.out.1 g11.out.2)
          clear g11
          obtain ⟨na2, nc2, M, w12, hM, hrun, hown12, hP12⟩ := want_runP HN.out PW11.out.1 PW11.out.2 (HB.out.on PW11.out.1.base) (by omega)
          have HRUN := Lib.hid hrun
          have PW12 := Lib.hid (show PW w w12 d j k 0 2 (a ++ b) (a ++ b) (.slice na2 M nc2) M (a ++ b) from ⟨hP12, hown12⟩)
          have hM16 : M ≤ 16 := by omega
          obtain ⟨V, hV⟩ : ∃ V, V = a ++ b := ⟨_, rfl⟩
          have HMV := Lib.hid (show M = V.length by rw [hV, List.length_append, ← HN.out]; exact hM)
          rw [← hV] at PW12
          clear hrun hown12 hP12 hM hV
          go_wp2_with (at_builtin; refine Lib.wpList_append_run _ rfl _ _ _ _ rfl _ _ rfl rfl _ w12 HRUN.out ?_)
          obtain ⟨wo, hwo⟩ : ∃ wo : World, wo = wr := ⟨_, rfl⟩
          subst hwo
          go_loopw [16] (fun v16 wr => ∃ i : Nat, i ≤ M ∧ v16 = .int .i64 (i : Int) ∧ Hid (PW w wr d j k 0 2 V V (.slice na2 M nc2) M V)) (fun v16 _ => M - (intOf v16).toNat)
          case atStart => exact ⟨0, Nat.zero_le _, rfl, PW12⟩
          case round =>
            obtain ⟨i, hi, rfl, HP⟩ := hrel
            by_cases hlt : i < M
            · have hlt' : (i : Int) < (M : Int) := by omega
              obtain ⟨x, hxi⟩ : ∃ x, V[i]? = some x := ⟨V[i]'(by have := HMV.out; omega), List.getElem?_eq_getElem _⟩
              obtain ⟨q, rfl, _⟩ := own_at (own_base HP.out.2) rfl (by omega)
              have hc := own_cell (own_base HP.out.2) rfl i (.string ⟨x.toArray⟩) (by simp only [strsV, List.getElem?_map, hxi]; rfl)
              rw [Lib.add_plain, Nat.zero_add] at hc
              have hd : RowKit.Below wr.heap.size wr wr.drew := ⟨rfl, rfl, rfl, Nat.le_refl _, fun _ _ => rfl⟩
              have QG := Lib.hid (pl_get (HP.out.below hd).1.fst i x hxi)
              have HD := Lib.hid hd
              clear hxi hd
              go_wp2_with fail
              go_region_law (go_simp; go_at_call 21; refine QG.out.mono ?_; rintro e w13 ⟨rfl, hw⟩; rw [hw]; clear hw)
              all_goals
                go_wp2_with fail
                go_roundw
                case rel => exact ⟨i + 1, by omega, by go_num, Lib.hid (HP.out.below HD.out)⟩
                case measure => simp [intOf]; omega
            · have hlt' : ¬ (i : Int) < (M : Int) := by omega
              have hVl : V.length ≤ 16 := by have := HMV.out; omega
              have Q1 := Lib.hid (pl_all HP.out.1.fst (by omega))
              have SW := Lib.hid (show SrcV wr 1 (.slice na2 M nc2) V.length (strsV V) from by have := SrcV.own (own_base HP.out.2); rw [← HMV.out]; exact this)
              clear hi hlt
              go_wp2_with fail
              refine Q1.out.mono ?_
              rintro e w13 ⟨a13, c13, rfl, g13⟩
              go_wp2_with fail
              refine (sameT_true V _ _ w13 (SrcV.own (own_base g13.out.1)) (SW.out.on g13.out.2) (by omega)).mono ?_
              rintro e w14 ⟨rfl, hb14⟩
              have PW14 := Lib.hid (HP.out.below (g13.out.2.trans (hb14.mono g13.out.2.size)))
              have S14 := Lib.hid (SW.out.on (g13.out.2.trans (hb14.mono g13.out.2.size)))
              clear g13 hb14
              go_wp2_with fail
              refine (pl_all PW14.out.1.swap.fst (by omega)).mono ?_
              rintro e w15 ⟨a15, c15, rfl, g15⟩
              go_wp2_with fail
              refine (sameT_true V _ _ w15 (SrcV.own (own_base g15.out.1)) (S14.out.on g15.out.2) (by omega)).mono ?_
              rintro e w16 ⟨rfl, hb16⟩
              have PW16 := Lib.hid (PW14.out.below (g15.out.2.trans (hb16.mono g15.out.2.size)))
              clear g15 hb16
              go_wp2_with fail
              refine (pl_getout PW16.out.1.fst (M : Int) (Or.inr (by have := HMV.out; omega))).mono ?_
              rintro e w17 ⟨rfl, hw⟩
              rw [hw]
              clear hw
              go_wp2_with fail
              refine (pl_getout PW16.out.1.fst (-1) (Or.inl (by omega))).mono ?_
              rintro e w17 ⟨rfl, hw⟩
              rw [hw]
              clear hw
              go_wp2_with fail
              go_ret
              exact ⟨rfl, PW16.out.1.base⟩
        · have h1' : n ≤ (a.length : Int) := by omega
          clear h0'
          obtain ⟨m, rfl⟩ : ∃ m : Nat, n = (m : Int) := ⟨n.toNat, by omega⟩
          have hm : m ≤ a.length := by omega
          have g0 : (0 : Int) ≤ (m : Int) := by omega
          have g1 : (m : Int) ≤ (a.length : Int) := by omega
          go_wp2_with fail
          refine (pp_cut T.out G.out HP2.out AP (m : Int) ⟨g0, by omega⟩).mono ?_
          rintro e w6 ⟨rfl, g6⟩
          have P6 := Lib.hid (show PP w w6 d j k 0 2 (a.take m) a (fun _ => False) from g6.out.1)
          clear g6
          go_wp2_with fail
          refine (pp_cut T.out G.out P6.out.swap AP.symm (m : Int) ⟨g0, by omega⟩).mono ?_
          rintro e w7 ⟨rfl, g7⟩
          obtain ⟨W0, hW0⟩ : ∃ W0, W0 = a.take m := ⟨_, rfl⟩
          have P7 := Lib.hid (show PP w w7 d j k 0 2 W0 W0 (fun _ => False) by rw [hW0]; exact g7.out.1.swap)
          clear g7
          have HN := Lib.hid (show m = W0.length by rw [hW0, List.length_take]; omega)
          have HW := Lib.hid (show W0.length ≤ 8 ∧ ∀ x ∈ W0, x.length ≤ 200 by rw [hW0]; exact form_take_le A8.out m)
          have hba : RowKit.Below w7.heap.size w7 (w7.alloc (.cells #[] 9)) := (Below.refl _ w7).alloc (Nat.le_refl _) _
          obtain ⟨xa, xc, w8, hr8, hc8, ho8, hb8⟩ := fresh_append w7 (s := a) rfl ((HA.out.on P7.out.base).on hba) (by omega)
          have hbc : RowKit.Below w8.heap.size w8 (w8.alloc (.cells #[] 9)) := (Below.refl _ w8).alloc (Nat.le_refl _) _
          obtain ⟨na, nc, w9', hr9, hc9, ho9, hb9⟩ := fresh_append w8 HN.out (by rw [hW0]; exact (((HA.out.take m hm).on P7.out.base).on hb8).on hbc) (by omega)
          have HR8 := Lib.hid hr8
          have HR9 := Lib.hid hr9
          have hb79 : RowKit.Below w7.heap.size w7 w9' := hb8.trans (hb9.mono hb8.size)
          have O8 := Lib.hid (own_low ho9 (Nat.le_trans P7.out.base.size hb8.size))
          have P8 := Lib.hid (P7.out.below (G := fun i => (Value.slice na m nc).ownBlock = some i) hb79 (fun i e => Or.inr ⟨by have := (ho9.lt i e).1; have := hb8.size; omega, (ho9.lt i e).2⟩))
          have hmin : min (m : Int) (a.length : Int) = (m : Int) := by omega
          have hmc : (m : Int) ≤ (ac : Int) := by omega
          have hm8 : m ≤ 8 := by omega
          clear hba hr8 ho8 hb8 hW0 hbc hr9 ho9 hb9 hb79
          go_wp2_with (first | (at_builtin; refine Lib.wpList_append_run _ rfl _ _ _ _ rfl _ _ rfl rfl _ w8 HR8.out ?_) | (at_builtin; refine Lib.wpList_append_run _ rfl _ _ _ _ rfl _ _ rfl rfl _ w9' HR9.out ?_))
          have PW8 := Lib.hid (show PW w w9' d j k 0 2 W0 W0 (.slice na m nc) m W0 from ⟨P8.out, O8.out⟩)
          refine (pp_append T.out G.out PW8.out.1 AP _ b (arg_came HB.out PW8.out.1.base _) (fun x hx => by have := B8.out.2 x hx; omega) (by omega) (form_ab HW.out B8.out)).mono ?_
          rintro e w9 ⟨rfl, g9⟩
          have PW9 := Lib.hid (PW8.out.held g9.out.1 g9.out.2)
          clear g9
          go_wp2_with fail
          refine (pp_append T.out G.out PW9.out.1.swap AP.symm _ b (arg_came HB.out PW9.out.1.base _) (fun x hx => by have := B8.out.2 x hx; omega) (by omega) (form_ab HW.out B8.out)).mono ?_
          rintro e w10 ⟨rfl, g10⟩
          have PW10 := Lib.hid (PW9.out.held g10.out.1.swap g10.out.2)
          clear g10
          go_wp2_with fail
          refine (pp_mega T.out G.out PW10.out.1 AP MO MZ hMZ).mono ?_
          rintro e w11 ⟨rfl, g11⟩
          have PW11 := Lib.hid (PW10.out.held g11.out.1 g11.out.2)
          clear g11
          obtain ⟨na2, nc2, M, w12, hM, hrun, hown12, hP12⟩ := want_runP HN.out PW11.out.1 PW11.out.2 (HB.out.on PW11.out.1.base) (by omega)
          have HRUN := Lib.hid hrun
          have PW12 := Lib.hid (show PW w w12 d j k 0 2 (W0 ++ b) (W0 ++ b) (.slice na2 M nc2) M (W0 ++ b) from ⟨hP12, hown12⟩)
          have hM16 : M ≤ 16 := by omega
          obtain ⟨V, hV⟩ : ∃ V, V = W0 ++ b := ⟨_, rfl⟩
          have HMV := Lib.hid (show M = V.length by rw [hV, List.length_append, ← HN.out]; exact hM)
          rw [← hV] at PW12
          clear hrun hown12 hP12 hM hV
          go_wp2_with (at_builtin; refine Lib.wpList_append_run _ rfl _ _ _ _ rfl _ _ rfl rfl _ w12 HRUN.out ?_)
          obtain ⟨wo, hwo⟩ : ∃ wo : World, wo = wr := ⟨_, rfl⟩
          subst hwo
          go_loopw [16] (fun v16 wr => ∃ i : Nat, i ≤ M ∧ v16 = .int .i64 (i : Int) ∧ Hid (PW w wr d j k 0 2 V V (.slice na2 M nc2) M V)) (fun v16 _ => M - (intOf v16).toNat)
          case atStart => exact ⟨0, Nat.zero_le _, rfl, PW12⟩
          case round =>
            obtain ⟨i, hi, rfl, HP⟩ := hrel
            by_cases hlt : i < M
            · have hlt' : (i : Int) < (M : Int) := by omega
              obtain ⟨x, hxi⟩ : ∃ x, V[i]? = some x := ⟨V[i]'(by have := HMV.out; omega), List.getElem?_eq_getElem _⟩
              obtain ⟨q, rfl, _⟩ := own_at (own_base HP.out.2) rfl (by omega)
              have hc := own_cell (own_base HP.out.2) rfl i (.string ⟨x.toArray⟩) (by simp only [strsV, List.getElem?_map, hxi]; rfl)
              rw [Lib.add_plain, Nat.zero_add] at hc
              have hd : RowKit.Below wr.heap.size wr wr.drew := ⟨rfl, rfl, rfl, Nat.le_refl _, fun _ _ => rfl⟩
              have QG := Lib.hid (pl_get (HP.out.below hd).1.fst i x hxi)
              have HD := Lib.hid hd
              clear hxi hd
              go_wp2_with fail
              go_region_law (go_simp; go_at_call 21; refine QG.out.mono ?_; rintro e w13 ⟨rfl, hw⟩; rw [hw]; clear hw)
              all_goals
                go_wp2_with fail
                go_roundw
                case rel => exact ⟨i + 1, by omega, by go_num, Lib.hid (HP.out.below HD.out)⟩
                case measure => simp [intOf]; omega
            · have hlt' : ¬ (i : Int) < (M : Int) := by omega
              have hVl : V.length ≤ 16 := by have := HMV.out; omega
              have Q1 := Lib.hid (pl_all HP.out.1.fst (by omega))
              have SW := Lib.hid (show SrcV wr 1 (.slice na2 M nc2) V.length (strsV V) from by have := SrcV.own (own_base HP.out.2); rw [← HMV.out]; exact this)
              clear hi hlt
              go_wp2_with fail
              refine Q1.out.mono ?_
              rintro e w13 ⟨a13, c13, rfl, g13⟩
              go_wp2_with fail
              refine (sameT_true V _ _ w13 (SrcV.own (own_base g13.out.1)) (SW.out.on g13.out.2) (by omega)).mono ?_
              rintro e w14 ⟨rfl, hb14⟩
              have PW14 := Lib.hid (HP.out.below (g13.out.2.trans (hb14.mono g13.out.2.size)))
              have S14 := Lib.hid (SW.out.on (g13.out.2.trans (hb14.mono g13.out.2.size)))
              clear g13 hb14
              go_wp2_with fail
              refine (pl_all PW14.out.1.swap.fst (by omega)).mono ?_
              rintro e w15 ⟨a15, c15, rfl, g15⟩
              go_wp2_with fail
              refine (sameT_true V _ _ w15 (SrcV.own (own_base g15.out.1)) (S14.out.on g15.out.2) (by omega)).mono ?_
              rintro e w16 ⟨rfl, hb16⟩
              have PW16 := Lib.hid (PW14.out.below (g15.out.2.trans (hb16.mono g15.out.2.size)))
              clear g15 hb16
              go_wp2_with fail
              refine (pl_getout PW16.out.1.fst (M : Int) (Or.inr (by have := HMV.out; omega))).mono ?_
              rintro e w17 ⟨rfl, hw⟩
              rw [hw]
              clear hw
              go_wp2_with fail
              refine (pl_getout PW16.out.1.fst (-1) (Or.inl (by omega))).mono ?_
              rintro e w17 ⟨rfl, hw⟩
              rw [hw]
              clear hw
              go_wp2_with fail
              go_ret
              exact ⟨rfl, PW16.out.1.base⟩

theorem jcuts_law (av bv : Value) (a b : List (List UInt8)) (n : Int) (hn : In64 n) (hla : a.length ≤ 9223372036854775807) (hlb : b.length ≤ 9223372036854775807) (hac : ∀ x c, av = .slice x a.length c → a.length ≤ c) (w : World) (ha : SrcV w 1 av a.length (strsV a)) (hb : SrcV w 1 bv b.length (strsV b)) (hgt : Good w ∧ Tab w) :
    Calls Tryz.prog 5 #[av, .int .i64 n, bv] w fun e w' => e = .returned (.bool true) ∧ RowKit.Below w.heap.size w w' := by
  by_cases he : textsM a = true ∧ textsM b = true
  · exact jcuts_in av bv a b n hn hac w ha hb hgt.2 hgt.1 he.1 he.2
  · exact jcuts_out av bv a b n hla hlb w ha hb hgt.2 hgt.1 he
end Go.Proofs.YtljgfnglknpfaaaGreatDoor
