/-
  NetHonest: the walk.
-/
import Derived.Test.YtedpkjlhcpjblaaNRows
namespace Go.Proofs.Ytedpkjlhcpjblaa
set_option maxRecDepth 100000
open Go Go.RowKit Nt

set_option maxHeartbeats 4000000 in
theorem honest_in (v : Value) (l : List Op7) (hfew : fewM l 200 = true) (w : World) (h : OpsIn7 w v l) : Calls Try.prog 4 #[v] w fun e w' => e = .returned (.bool true) ∧ Below w.heap.size w w' := by
  have HF200 := Lib.hid hfew
  have hlen := fewM_len hfew
  have HO := Lib.hid h
  obtain ⟨_, a, c, rfl, hcell⟩ := h
  obtain ⟨L, hL⟩ : ∃ L, L = l.length := ⟨_, rfl⟩
  have HC := Lib.hid (fun (W : World) (hW : Below w.heap.size w W) (k : Nat) (x : Op7) (hx : l[k]? = some x) => by
    obtain ⟨b, off, h1, h2⟩ := hcell k x hx
    exact (⟨b, off, h1, h2.on hW⟩ : ∃ b off, a = some ⟨b, off, none⟩ ∧ OpRow7 W b (off + k * 4) x))
  rw [← hL] at HO hlen ⊢
  have HL := Lib.hid hL
  have HL2 := Lib.hid hlen
  clear hcell hfew hL
  go_enter Try.func4, Try.ntmps4
  go_wp2_with fail
  refine (small_c w).mono ?_
  rintro e w1 ⟨rfl, hb1⟩
  have HB1 := Lib.hid hb1
  clear hb1
  go_wp2_with fail
  refine (nf_new HB1.out (F := fun _ => False) (fun _ e => e.elim)).mono ?_
  rintro e w2 ⟨rfl, hn2, hb2, hl2⟩
  obtain ⟨b, hb⟩ : ∃ b, b = w1.heap.size := ⟨_, rfl⟩
  have HN2 := Lib.hid hn2
  rw [← hb] at HN2 ⊢
  have HB2 := Lib.hid (HB1.out.trans (hb2.mono HB1.out.size))
  clear hn2 hb2 hl2 hb
  go_wp2_with fail
  refine (few_c _ l 200 w2 (by rw [HL.out] at HO ⊢; exact HO.out.on HB2.out)).mono ?_
  rintro e w3 ⟨rfl, hw⟩
  rw [hw, HF200.out]
  clear hw
  go_wp2_with fail
  go_loopw [5, 6, 7] (fun v5 v6 v7 wr => ∃ k : Nat, k ≤ L ∧ v7 = .int .i64 (k : Int) ∧ RH w wr b k v5 v6) (fun _ _ v7 _ => L - (intOf v7).toNat)
  case atStart => exact ⟨0, Nat.zero_le _, rfl, new, [], [], ⟨HN2.out.below (Below.refl _ _) (fun k e => by rcases e with e | e <;> cases e), pkRow_nil _ _, pkRow_nil _ _, (fun j e => by cases e), (fun j e => by cases e), (fun j e => by cases e)⟩, honest_new, Nat.le_refl _, Nat.le_refl _⟩
  case round =>
    obtain ⟨k, hk, rfl, hrh⟩ := hrel
    obtain ⟨n, made, got, hm, hho, hml, hgl⟩ := hrh
    obtain ⟨ma, mc, rfl, _⟩ := hm.mr.shape
    obtain ⟨ga, gc, rfl, _⟩ := hm.gr.shape
    have HM0 := Lib.hid hm
    have HHO := Lib.hid hho
    have HML := Lib.hid hml
    have HGL := Lib.hid hgl
    clear hm hho hml hgl
    by_cases hkl : k < L
    · have hkl' : (k : Int) < (L : Int) := by omega
      have hk0 : (0 : Int) ≤ (k : Int) := by omega
      obtain ⟨x, hx⟩ : ∃ x, l[k]? = some x := ⟨l[k]'(by have := HL.out; omega), List.getElem?_eq_getElem _⟩
      obtain ⟨ob, off, rfl, c0, c1, c2, c3, hfit⟩ := (HC.out _ HM0.out.nf.base) k x hx
      obtain ⟨W1, hW1⟩ : ∃ W1, W1 = wr.alloc (.cells #[.int .i64 x.k, .int .i64 x.n, .int .i64 x.to, .string ⟨x.s.toArray⟩] 38) := ⟨_, rfl⟩
      have hb1 : Below wr.heap.size wr W1 := by rw [hW1]; exact (Below.refl _ _).alloc (Nat.le_refl _) _
      have HX1 := Lib.hid (show OpBox W1 wr.heap.size x by rw [hW1]; exact OpBox.new wr x)
      have HB1 := Lib.hid hb1
      have HF := Lib.hid hfit
      clear hx hb1 hfit
      go_upto_region 11 with fail
      rw [← hW1]
      clear hW1 c0 c1 c2 c3
      go_wp2_with fail
      refine (nf_list (HM0.out.nf.on HB1.out)).mono ?_
      rintro e w2 ⟨bv, rfl, hbr, hb2⟩
      obtain ⟨ba, bc, rfl, _⟩ := hbr.shape
      have hx2 := HX1.out.kept (Kept.below (S := fun _ => False) hb2) (fun e => e)
      have b0 := hx2.c0
      have b1 := hx2.c1
      have b2 := hx2.c2
      have b3 := hx2.c3
      have HB2 := Lib.hid (HB1.out.trans (hb2.mono HB1.out.size))
      have HX2 := Lib.hid hx2
      have HBR := Lib.hid (hbr.low HB1.out.size)
      clear hx2 hb2 hbr
      obtain ⟨r, hr⟩ : ∃ r, Nt.step n x = r := ⟨_, rfl⟩
      obtain ⟨n', p, z⟩ := r
      have HST := Lib.hid hr
      clear hr
      go_wp2_with fail
      refine (do_c (HM0.out.nf.up HB2.out) x HST.out).mono ?_
      rintro e w3 ⟨rfl, hn3, hk3⟩
      obtain ⟨W4, hW4⟩ : ∃ W4, W4 = w3.alloc (.cells #[.int .i64 p.a, .int .i64 p.b, .string ⟨p.s.toArray⟩] 33) := ⟨_, rfl⟩
      have hb4 : Below w3.heap.size w3 W4 := by rw [hW4]; exact (Below.refl _ _).alloc (Nat.le_refl _) _
      have hp4 : PkBox W4 w3.heap.size p := by rw [hW4]; exact PkBox.new w3 p
      have hx3 := hk3.op HX2.out (Or.inr ⟨Nat.le_refl _, HX2.out.lt⟩)
      have hx4 := hx3.kept (Kept.below (S := fun _ => False) hb4) (fun e => e)
      have hbr4 := (hk3.row HBR.out (fun j e => Or.inr ⟨HBR.out.above e, HBR.out.lt e⟩)).on hb4
      have hm4 : HM w W4 b n' (Up (FH (.slice ma made.length mc) (.slice ga got.length gc)) wr w2) made got (.slice ma made.length mc) (.slice ga got.length gc) :=
        ⟨hn3.on hb4, (hk3.row (HM0.out.mr.on HB2.out) (fun j e => Or.inl (Or.inl e))).on hb4, (hk3.row (HM0.out.gr.on HB2.out) (fun j e => Or.inl (Or.inr e))).on hb4, HM0.out.ap, fun j e => Or.inl (Or.inl e), fun j e => Or.inl (Or.inr e)⟩
      have x0 := hx4.c0
      have x1 := hx4.c1
      have x2 := hx4.c2
      have x3 := hx4.c3
      have p0 := hp4.c0
      have p1 := hp4.c1
      have p2 := hp4.c2
      have HM4 := Lib.hid hm4
      have HBR4 := Lib.hid hbr4
      clear hn3 hk3 hb4 hp4 hx3 hx4 hbr4 hm4 b0 b1 b2 b3
      go_upto_region 13 with fail
      rw [← hW4]
      clear hW4
      by_cases hz : z = 0
      · subst hz
        rcases mod8 x.k with hk8 | hk8 | hk8 | hk8 | hk8 | hk8
        · have HON := Lib.hid (hon_send HHO.out HST.out hk8)
          have hne : (x.n == x.to) = false := by simpa using HON.out.2.2
          obtain ⟨a5, c5, W5, hr5, hm5⟩ := HM4.out.made ⟨x.n, x.to, x.s⟩ (by have := HML.out; have := HL2.out; omega)
          have HR5 := Lib.hid hr5
          have HM5 := Lib.hid hm5
          have HH := Lib.hid (nf_hear HM4.out.nf x.n x.to)
          clear hr5 hm5
          obtain ⟨q, hq, hq3⟩ : ∃ q, bits .and .i64 x.k 7 = q ∧ (q = 0 ∨ q = 1 ∨ q = 2) := ⟨_, rfl, by rw [i64_and7]; omega⟩
          clear hk8
          rcases hq3 with rfl | rfl | rfl
          all_goals
            go_wp2_with fail
            refine HH.out.mono ?_
            rintro e w5 ⟨rfl, hw⟩
            rw [hw, HON.out.2.1]
            clear hw
            go_wp2_with (at_builtin; refine Lib.wpList_append_run _ rfl _ _ _ _ rfl _ _ rfl rfl _ W5 HR5.out ?_)
            go_roundw
            case rel => exact ⟨k + 1, hkl, by go_num, _, _, got, HM5.out, HON.out.1, by rw [List.length_append]; have := HML.out; simp only [List.length_singleton]; omega, by have := HGL.out; omega⟩
            case measure => simp [intOf]; omega
        · have HON := Lib.hid (hon_deliver HHO.out HST.out hk8)
          obtain ⟨a5, c5, W5, hr5, hm5⟩ := HM4.out.flip.made p (by have := HGL.out; have := HL2.out; omega)
          have HR5 := Lib.hid hr5
          have HM5 := Lib.hid hm5
          have HH := Lib.hid (nf_hear HM4.out.nf p.a p.b)
          have hq : bits .and .i64 x.k 7 = 3 := by rw [i64_and7]; exact hk8
          clear hr5 hm5 hk8
          go_wp2_with fail
          refine HH.out.mono ?_
          rintro e w5 ⟨rfl, hw⟩
          rw [hw, HON.out.2]
          clear hw
          go_wp2_with (at_builtin; refine Lib.wpList_append_run _ rfl _ _ _ _ rfl _ _ rfl rfl _ W5 HR5.out ?_)
          go_roundw
          case rel => exact ⟨k + 1, hkl, by go_num, _, made, _, HM5.out.flip.done, HON.out.1, by have := HML.out; omega, by rw [List.length_append]; have := HGL.out; simp only [List.length_singleton]; omega⟩
          case measure => simp [intOf]; omega
        · have HON := Lib.hid (hon_other HHO.out HST.out (Or.inl hk8))
          have hq : bits .and .i64 x.k 7 = 4 := by rw [i64_and7]; exact hk8
          clear hk8
          go_wp2_with fail
          go_roundw
          case rel => exact ⟨k + 1, hkl, by go_num, _, made, got, HM4.out.done, HON.out, by have := HML.out; omega, by have := HGL.out; omega⟩
          case measure => simp [intOf]; omega
        · obtain ⟨i, y, hxi, hil, hy, hon⟩ := hon_double HHO.out HST.out hk8
          have HON := Lib.hid hon
          obtain ⟨bg, rfl, _, e0, e1, e2⟩ := pks_cells HBR4.out hy
          obtain ⟨a5, c5, W5, hr5, hm5⟩ := HM4.out.made y (by have := HML.out; have := HL2.out; omega)
          have HR5 := Lib.hid hr5
          have HM5 := Lib.hid hm5
          have hq : bits .and .i64 x.k 7 = 5 := by rw [i64_and7]; exact hk8
          rw [hxi] at x1
          obtain ⟨NL, hNL⟩ : ∃ NL, NL = n.l.length := ⟨_, rfl⟩
          rw [← hNL] at hil ⊢
          have hi1 : ¬ (i : Int) < 0 := by omega
          have hi2 : ¬ (NL : Int) ≤ (i : Int) := by omega
          have hi3 : (i : Int) < (NL : Int) := by omega
          clear hr5 hm5 hk8 hon hxi hy hNL
          go_wp2_with (at_builtin; refine Lib.wpList_append_run _ rfl _ _ _ _ rfl _ _ rfl rfl _ W5 HR5.out ?_)
          go_roundw
          case rel => exact ⟨k + 1, hkl, by go_num, _, _, got, HM5.out, HON.out, by rw [List.length_append]; have := HML.out; simp only [List.length_singleton]; omega, by have := HGL.out; omega⟩
          case measure => simp [intOf]; omega
        · have HON := Lib.hid (hon_other HHO.out HST.out (Or.inr (Or.inl hk8)))
          have hq : bits .and .i64 x.k 7 = 6 := by rw [i64_and7]; exact hk8
          clear hk8
          go_wp2_with fail
          go_roundw
          case rel => exact ⟨k + 1, hkl, by go_num, _, made, got, HM4.out.done, HON.out, by have := HML.out; omega, by have := HGL.out; omega⟩
          case measure => simp [intOf]; omega
        · have HON := Lib.hid (hon_other HHO.out HST.out (Or.inr (Or.inr hk8)))
          have hq : bits .and .i64 x.k 7 = 7 := by rw [i64_and7]; exact hk8
          clear hk8
          go_wp2_with fail
          go_roundw
          case rel => exact ⟨k + 1, hkl, by go_num, _, made, got, HM4.out.done, HON.out, by have := HML.out; omega, by have := HGL.out; omega⟩
          case measure => simp [intOf]; omega
      · have HON := Lib.hid (hon_lost HHO.out HST.out hz)
        have E : ∀ W : World, (binOp .neq 33 (.agg #[.int .i64 p.a, .int .i64 p.b, .string ⟨p.s.toArray⟩]) (.agg #[.int .i64 0, .int .i64 0, .string ⟨#[]⟩])).run Try.prog W = .ok (.bool false) W := fun W => by
          have := neq_pk p zero W
          rw [step_lost HST.out hz] at this ⊢
          exact this
        have hzb : (z != 0) = true := by simpa using hz
        clear hz
        go_wp2_with fail
        go_roundw
        case rel => exact ⟨k + 1, hkl, by go_num, _, made, got, HM4.out.done, HON.out, by have := HML.out; omega, by have := HGL.out; omega⟩
        case measure => simp [intOf]; omega
    · have hkl' : ¬ (k : Int) < (L : Int) := by omega
      have HA := Lib.hid HHO.out.all
      have hba : Below wr.heap.size wr (wr.alloc (.cells #[] 33)) := (Below.refl _ _).alloc (Nat.le_refl _) _
      have hown0 : PkRow (wr.alloc (.cells #[] 33)) wr.heap.size (.slice (some ⟨wr.heap.size, 0, none⟩) 0 0) [] := World.ownsRow_made wr #[] 0 (Nat.le_refl _) (Nat.zero_le _) rfl
      have hgk : got.length ≤ 200 := by have := HGL.out; have := HL2.out; omega
      have hmk : made.length ≤ 200 := by have := HML.out; have := HL2.out; omega
      obtain ⟨a1, c1, Wb, hr1, ho1, _, hk1⟩ := app_row _ wr.heap.size _ [] hown0 _ _ got (HM0.out.gr.on hba) (by simp only [List.length_nil]; omega) (by simp)
      simp only [List.length_nil, Nat.zero_add, List.nil_append] at hr1 ho1
      have hbb : Below wr.heap.size wr Wb := hba.trans (hk1.toBelow (by simp) (fun j e => hown0.above e))
      have HR1 := Lib.hid hr1
      have HO1 := Lib.hid ho1
      have HBB := Lib.hid hbb
      have HN0 := Lib.hid HM0.out.nf.ok.len
      have HGK := Lib.hid hgk
      have HMK := Lib.hid hmk
      clear hr1 ho1 hbb hba hown0 hk1 hgk hmk
      go_wp2_with (at_builtin; refine Lib.wpList_append_run _ rfl _ _ _ _ rfl _ _ rfl rfl _ Wb HR1.out ?_)
      refine (nf_list (HM0.out.nf.on HBB.out)).mono ?_
      rintro e Wc ⟨lv, rfl, hlr, hbc⟩
      obtain ⟨la, lc, rfl, _⟩ := hlr.shape
      obtain ⟨a2, c2, Wd, hr2, ho2, _, hk2⟩ := app_row Wc wr.heap.size _ got (HO1.out.on hbc) _ _ n.l hlr (by have := HN0.out; have := HGK.out; omega) (Nat.le_trans HBB.out.size hbc.size)
      have hbd : Below wr.heap.size wr Wd := (HBB.out.trans (hbc.mono HBB.out.size)).trans (hk2.toBelow (Nat.le_trans HBB.out.size hbc.size) (fun j e => HO1.out.above e))
      obtain ⟨A, hA⟩ : ∃ A, A = got.length + n.l.length := ⟨_, rfl⟩
      have hA2 : A = (got ++ n.l).length := by rw [hA, List.length_append]
      rw [← hA] at hr2 ho2
      have HR2 := Lib.hid hr2
      have HO2 := Lib.hid ho2
      have HBD := Lib.hid hbd
      have HMR := Lib.hid (HM0.out.mr.on hbd)
      have HA2 := Lib.hid hA2
      have hAs : A ≤ 1000 := by have := HN0.out; have := HGK.out; omega
      have HBW := Lib.hid (HM0.out.nf.base.trans (hbd.mono HM0.out.nf.base.size))
      clear hr2 ho2 hbd hA hA2 hlr hbc hk2
      go_wp2_with (at_builtin; refine Lib.wpList_append_run _ rfl _ _ _ _ rfl _ _ rfl rfl _ Wd HR2.out ?_)
      go_loopw [13] (fun v13 wx => ∃ i : Nat, i ≤ A ∧ v13 = .int .i64 (i : Int) ∧ Below Wd.heap.size Wd wx) (fun v13 _ => A - (intOf v13).toNat)
      case atStart => exact ⟨0, Nat.zero_le _, rfl, Below.refl _ _⟩
      case round =>
        obtain ⟨i, hi, rfl, hbx⟩ := hrel
        by_cases hiA : i < A
        · have hiA' : (i : Int) < (A : Int) := by omega
          have hi0 : (0 : Int) ≤ (i : Int) := by omega
          obtain ⟨y, hy⟩ : ∃ y, (got ++ n.l)[i]? = some y := ⟨(got ++ n.l)[i]'(by have := HA2.out; omega), List.getElem?_eq_getElem _⟩
          obtain ⟨ag, hag, _⟩ := pks_cells (HO2.out) hy
          subst hag
          have HCELL := Lib.hid (fun (W : World) (hW : Below Wd.heap.size Wd W) => by
            obtain ⟨g', e', _, d0, d1, d2⟩ := pks_cells (HO2.out.on hW) hy
            have : g' = ag := by injection e' with e'; injection e' with e'; exact e'.symm
            subst this
            exact (⟨d0, d1, d2⟩ : W.cell? ⟨g', i * 3, none⟩ = some (.int .i64 y.a) ∧ W.cell? ⟨g', i * 3 + 1, none⟩ = some (.int .i64 y.b) ∧ W.cell? ⟨g', i * 3 + 2, none⟩ = some (.string ⟨y.s.toArray⟩)))
          obtain ⟨x1, hx1⟩ : ∃ x1 : Nat, x1 = (got ++ n.l).count y := ⟨_, rfl⟩
          obtain ⟨x2, hx2⟩ : ∃ x2 : Nat, x2 = made.count y := ⟨_, rfl⟩
          have hle : ¬ (x2 : Int) < (x1 : Int) := by have := HA.out y; omega
          have C1 := Lib.hid (fun (W : World) (hW : Below Wd.heap.size Wd W) => (cnt_c (HO2.out.on hW) (by have := HA2.out; omega) y).mono (R' := fun e w' => e = .returned (.int .i64 (x1 : Int)) ∧ Below Wd.heap.size Wd w') (fun e w' hh => ⟨by rw [hh.1, hx1], hW.trans (hh.2.mono hW.size)⟩))
          have C2 := Lib.hid (fun (W : World) (hW : Below Wd.heap.size Wd W) => (cnt_c (HMR.out.on hW) (by have := HMK.out; omega) y).mono (R' := fun e w' => e = .returned (.int .i64 (x2 : Int)) ∧ Below Wd.heap.size Wd w') (fun e w' hh => ⟨by rw [hh.1, hx2], hW.trans (hh.2.mono hW.size)⟩))
          have HBX := Lib.hid hbx
          have HBXD := Lib.hid hbx.drew
          obtain ⟨d0, d1, d2⟩ := HCELL.out _ hbx
          clear hy hx1 hx2 hbx
          go_upto_region 35 with fail
          go_cut [139] (fun t wx => t = .bool false ∧ Below Wd.heap.size Wd wx)
          case first =>
            go_region_law (go_simp; go_at_call 19; (first | (with_reducible refine (C1.out _ HBXD.out).mono ?_) | (with_reducible refine (C2.out _ HBXD.out).mono ?_) | (with_reducible refine (C1.out _ (by assumption)).mono ?_) | (with_reducible refine (C2.out _ (by assumption)).mono ?_)); rintro e w5 ⟨rfl, hb5⟩; obtain ⟨f0, f1, f2⟩ := HCELL.out _ hb5)
            all_goals
              go_wp2_with fail
              go_meet
              exact ⟨rfl, by assumption⟩
          case rest =>
            obtain ⟨rfl, hb5⟩ := hcut
            have HB5 := Lib.hid hb5
            clear hb5 d0 d1 d2
            go_wp2_with fail
            go_roundw
            case rel => exact ⟨i + 1, hiA, by go_num, HB5.out⟩
            case measure => simp [intOf]; omega
        · have hiA' : ¬ (i : Int) < (A : Int) := by omega
          have HBX := Lib.hid hbx
          clear hbx
          go_wp2_with fail
          go_ret
          exact ⟨rfl, HBW.out.trans (HBX.out.mono HBW.out.size)⟩
set_option maxHeartbeats 1000000 in
theorem honest_out (v : Value) (l : List Op7) (hfew : fewM l 200 = false) (w : World) (h : OpsIn7 w v l) : Calls Try.prog 4 #[v] w fun e w' => e = .returned (.bool true) ∧ Below w.heap.size w w' := by
  have HF200 := Lib.hid hfew
  have HO := Lib.hid h
  obtain ⟨_, a, c, rfl, _⟩ := h
  clear hfew
  go_enter Try.func4, Try.ntmps4
  go_wp2_with fail
  refine (small_c w).mono ?_
  rintro e w1 ⟨rfl, hb1⟩
  have HB1 := Lib.hid hb1
  clear hb1
  go_wp2_with fail
  refine (nf_new HB1.out (F := fun _ => False) (fun _ e => e.elim)).mono ?_
  rintro e w2 ⟨rfl, hn2, hb2, hl2⟩
  have HB2 := Lib.hid hn2.base
  clear hn2 hb2 hl2
  go_wp2_with fail
  refine (few_c _ l 200 w2 (HO.out.on HB2.out)).mono ?_
  rintro e w3 ⟨rfl, hw⟩
  rw [hw, HF200.out]
  clear hw
  go_wp2_with fail
  go_ret
  exact ⟨rfl, HB2.out⟩
theorem honest_law (v : Value) (l : List Op7) (w : World) (h : OpsIn7 w v l) : Calls Try.prog 4 #[v] w fun e w' => e = .returned (.bool true) ∧ Below w.heap.size w w' := by
  cases hf : fewM l 200 with
  | true => exact honest_in v l hf w h
  | false => exact honest_out v l hf w h
end Go.Proofs.Ytedpkjlhcpjblaa
