/-
  NetOrders: the walk.
-/
import Derived.Test.YtedpkjlhcpjblaaNCuts
namespace Go.Proofs.Ytedpkjlhcpjblaa
set_option maxRecDepth 100000
open Go Go.RowKit Nt

/-- The network, and beside it the list of what is in flight. -/
def OW (w W : World) (b m : Nat) (wv : Value) : Prop := ∃ want, HM w W b ⟨want, 0⟩ (FH wv (.slice none 0 0)) want [] wv (.slice none 0 0) ∧ want.length ≤ m
theorem at?_some {n : N} {k : Nat} {p : Pk} (h : n.l[k]? = some p) : at? n (k : Int) = some p := by
  unfold at?
  rw [if_pos (by omega), Int.toNat_natCast]
  exact h

set_option maxHeartbeats 4000000 in
theorem orders_in (v : Value) (l : List Op7) (picks : List Int) (hfew : fewM l 30 = true) (hp30 : picks.length ≤ 30) (pa : Option Addr) (pc : Nat) (w : World) (h : OpsIn7 w v l) (hp : SrcV w 1 (.slice pa picks.length pc) picks.length (intsV picks)) : Calls Try.prog 5 #[v, .slice pa picks.length pc] w fun e w' => e = .returned (.bool true) ∧ Below w.heap.size w w' := by
  have HF30 := Lib.hid hfew
  have hlen := fewM_len hfew
  have HO := Lib.hid h
  obtain ⟨_, a, c, rfl, hcell⟩ := h
  obtain ⟨L, hL⟩ : ∃ L, L = l.length := ⟨_, rfl⟩
  obtain ⟨K, hK⟩ : ∃ K, K = picks.length := ⟨_, rfl⟩
  have HC := Lib.hid (fun (W : World) (hW : Below w.heap.size w W) (k : Nat) (x : Op7) (hx : l[k]? = some x) => by
    obtain ⟨b, off, h1, h2⟩ := hcell k x hx
    exact (⟨b, off, h1, h2.on hW⟩ : ∃ b off, a = some ⟨b, off, none⟩ ∧ OpRow7 W b (off + k * 4) x))
  have hpc : ∀ (W : World), Below w.heap.size w W → ∀ (k : Nat) (x : Int), picks[k]? = some x → ∃ ad, pa = some ad ∧ W.cell? (ad.add k) = some (.int .i64 x) := by
    intro W hW k x hx
    obtain ⟨pa', pc', e, h1, h2, h3⟩ := hp.on hW
    obtain rfl : pa = pa' := by injection e
    have hk := (List.getElem?_eq_some_iff.1 hx).1
    cases pa with
    | none => have := h2 rfl; omega
    | some ad => exact ⟨ad, rfl, h3 ad rfl k (.int .i64 x) (by simp [intsV, hx])⟩
  have HPC := Lib.hid hpc
  rw [← hL] at HO hlen ⊢
  rw [← hK] at hp30 ⊢
  have HL := Lib.hid hL
  have HK := Lib.hid hK
  have HL2 := Lib.hid hlen
  have hK30 : ¬ (30 : Int) < (K : Int) := by omega
  clear hcell hfew hL hK hp hpc
  go_enter Try.func5, Try.ntmps5
  go_wp2_with fail
  refine (small_c w).mono ?_
  rintro e w1 ⟨rfl, hb1⟩
  have HB1 := Lib.hid hb1
  clear hb1
  go_wp2_with fail
  refine (nf_new HB1.out (F := fun _ => False) (fun _ e => e.elim)).mono ?_
  rintro e w2 ⟨rfl, hn2, hb2, hl2⟩
  obtain ⟨b, hb⟩ : ∃ b, b = w1.heap.size := ⟨_, rfl⟩
  have HN2 := Lib.hid hn2
  rw [← hb] at HN2 ⊢
  have HB2 := Lib.hid (HB1.out.trans (hb2.mono HB1.out.size))
  clear hn2 hb2 hl2 hb
  go_wp2_with fail
  refine (few_c _ l 30 w2 (by rw [HL.out] at HO ⊢; exact HO.out.on HB2.out)).mono ?_
  rintro e w3 ⟨rfl, hw⟩
  rw [hw, HF30.out]
  clear hw
  go_wp2_with fail
  go_loopw [7, 8] (fun v7 v8 wr => ∃ i : Nat, i ≤ L ∧ v8 = .int .i64 (i : Int) ∧ OW w wr b i v7) (fun _ v8 _ => L - (intOf v8).toNat)
  case atStart => exact ⟨0, Nat.zero_le _, rfl, [], ⟨HN2.out.below (Below.refl _ _) (fun k e => by rcases e with e | e <;> cases e), pkRow_nil _ _, pkRow_nil _ _, (fun j e => by cases e), (fun j e => by cases e), (fun j e => by cases e)⟩, Nat.le_refl _⟩
  case round =>
    obtain ⟨i, hi, rfl, hrh⟩ := hrel
    obtain ⟨want, hm, hwl⟩ := hrh
    obtain ⟨wa, wc, rfl, _⟩ := hm.mr.shape
    have HM0 := Lib.hid hm
    have HWL := Lib.hid hwl
    clear hm hwl
    by_cases hkl : i < L
    · have hkl' : (i : Int) < (L : Int) := by omega
      have hk0 : (0 : Int) ≤ (i : Int) := by omega
      obtain ⟨x, hx⟩ : ∃ x, l[i]? = some x := ⟨l[i]'(by have := HL.out; omega), List.getElem?_eq_getElem _⟩
      obtain ⟨ob, off, rfl, c0, c1, c2, c3, hfit⟩ := (HC.out _ HM0.out.nf.base) i x hx
      have HXX := Lib.hid hx
      obtain ⟨e1, e2, e3⟩ := ends_ok x.n x.to
      obtain ⟨f, hf⟩ : ∃ f, x.n % 16 = f := ⟨_, rfl⟩
      obtain ⟨t7, ht7⟩ : ∃ t7, x.to % 8 = t7 := ⟨_, rfl⟩
      obtain ⟨t, ht⟩ : ∃ t, (f + 1 + t7) % 16 = t := ⟨_, rfl⟩
      rw [hf] at e1 e2 e3
      rw [ht7, ht] at e2 e3
      have hb1 : bits .and .i64 x.n 15 = f := by rw [i64_and15]; exact hf
      have hb2 : bits .and .i64 x.to 7 = t7 := by rw [i64_and7]; exact ht7
      have hb3 : bits .and .i64 (f + 1 + t7) 15 = t := by rw [i64_and15]; exact ht
      have hf0 : 0 ≤ f := by omega
      have hf1 : f < 16 := by omega
      have ht0 : 0 ≤ t7 := by omega
      have ht1 : t7 < 8 := by omega
      have HS := Lib.hid (send_ok (n := ⟨want, 0⟩) (s := x.s) e1 e2 e3 (hear_zero e1 e2) (by show want.length < 500; have := HWL.out; have := HL2.out; omega))
      clear hx hfit hf ht7 ht e1 e2 e3
      go_wp2_with fail
      refine (nf_send HM0.out.nf HS.out).mono ?_
      rintro e w4 ⟨rfl, hn4, hk4⟩
      have hm4 : HM w w4 b ⟨want ++ [⟨f, t, x.s⟩], 0⟩ (FH (.slice wa want.length wc) (.slice none 0 0)) want [] (.slice wa want.length wc) (.slice none 0 0) := ⟨hn4, hk4.row HM0.out.mr (fun j e => Or.inl e), pkRow_nil _ _, HM0.out.ap, HM0.out.mg, HM0.out.gg⟩
      obtain ⟨a5, c5, W5, hr5, hm5⟩ := hm4.made ⟨f, t, x.s⟩ (by have := HWL.out; have := HL2.out; omega)
      have HR5 := Lib.hid hr5
      have HM5 := Lib.hid hm5
      obtain ⟨ob', off', e', d0, d1, d2, d3, _⟩ := (HC.out _ hn4.base) i x HXX.out
      obtain ⟨rfl, rfl⟩ : ob' = ob ∧ off' = off := by injection e' with e'; injection e' with e1 e2; exact ⟨e1.symm, e2.symm⟩
      clear hn4 hk4 hm4 hr5 hm5
      go_wp2_with (at_builtin; refine Lib.wpList_append_run _ rfl _ _ _ _ rfl _ _ rfl rfl _ W5 HR5.out ?_)
      go_roundw
      case rel => exact ⟨i + 1, hkl, by go_num, _, HM5.out, by rw [List.length_append]; have := HWL.out; simp only [List.length_singleton]; omega⟩
      case measure => simp [intOf]; omega
    · have hkl' : ¬ (i : Int) < (L : Int) := by omega
      have HWB := Lib.hid (show want.length ≤ 30 by have := HWL.out; have := HL2.out; omega)
      have HIL := Lib.hid hi
      go_wp2_with fail
      go_loopw [7, 11] (fun v7 v11 wr => ∃ j : Nat, j ≤ K ∧ v11 = .int .i64 (j : Int) ∧ OW w wr b 30 v7) (fun _ v11 _ => K - (intOf v11).toNat)
      case atStart => exact ⟨0, Nat.zero_le _, rfl, want, HM0.out, HWB.out⟩
      case round =>
        obtain ⟨j, hj, rfl, hrh⟩ := hrel
        obtain ⟨W, hm, hwl⟩ := hrh
        obtain ⟨va, vc, rfl, _⟩ := hm.mr.shape
        have HM1 := Lib.hid hm
        have HWL1 := Lib.hid hwl
        obtain ⟨NW, hN⟩ : ∃ NW, NW = W.length := ⟨_, rfl⟩
        have HNL := Lib.hid hN
        have hN30 : NW ≤ 30 := by omega
        rw [← hN] at HM1 ⊢
        clear hm hwl hN
        by_cases hjK : j < K
        · have hjK' : (j : Int) < (K : Int) := by omega
          have hj0 : (0 : Int) ≤ (j : Int) := by omega
          obtain ⟨q, hq⟩ : ∃ q, picks[j]? = some q := ⟨picks[j]'(by have := HK.out; omega), List.getElem?_eq_getElem _⟩
          obtain ⟨ad, rfl, hqc⟩ := (HPC.out _ HM1.out.nf.base) j q hq
          by_cases hin : 0 ≤ q ∧ q < (NW : Int)
          · obtain ⟨k, rfl⟩ := Int.eq_ofNat_of_zero_le hin.1
            have hkN : k < NW := by omega
            obtain ⟨p, hp⟩ : ∃ p, W[k]? = some p := ⟨W[k]'(by have := HNL.out; omega), List.getElem?_eq_getElem _⟩
            have hat := at?_some (n := ⟨W, 0⟩) hp
            have HD := Lib.hid (deliver_at hat (all_hear (n := ⟨W, 0⟩) rfl (fun y hy => ⟨(HM1.out.nf.ok.ends y hy).1, (HM1.out.nf.ok.ends y hy).2.1⟩) hat))
            have HP := Lib.hid hp
            have hk0 : ¬ (k : Int) < 0 := by omega
            have hk1 : ¬ (NW : Int) ≤ (k : Int) := by omega
            have hk2 : (k : Int) < (NW : Int) := by omega
            clear hp hat hq hin
            go_wp2_with fail
            refine (nf_deliver HM1.out.nf HD.out).mono ?_
            rintro e w4 ⟨rfl, hn4, hk4⟩
            obtain ⟨W4, hW4⟩ : ∃ W4, W4 = w4.alloc (.cells #[.int .i64 p.a, .int .i64 p.b, .string ⟨p.s.toArray⟩] 33) := ⟨_, rfl⟩
            have hb4 : Below w4.heap.size w4 W4 := by rw [hW4]; exact (Below.refl _ _).alloc (Nat.le_refl _) _
            have hp4 : PkBox W4 w4.heap.size p := by rw [hW4]; exact PkBox.new w4 p
            have hm4 : HM w W4 b ⟨cut W k, 0⟩ (FH (.slice va NW vc) (.slice none 0 0)) W [] (.slice va NW vc) (.slice none 0 0) := ⟨hn4.on hb4, (hk4.row HM1.out.mr (fun j e => Or.inl e)).on hb4, pkRow_nil _ _, HM1.out.ap, HM1.out.mg, HM1.out.gg⟩
            obtain ⟨vg, hvg, _, e0, e1, e2⟩ := pks_cells hm4.mr HP.out
            subst hvg
            have E : ∀ Wx : World, (binOp .neq 33 (.agg #[.int .i64 p.a, .int .i64 p.b, .string ⟨p.s.toArray⟩]) (.agg #[.int .i64 p.a, .int .i64 p.b, .string ⟨p.s.toArray⟩])).run Try.prog Wx = .ok (.bool false) Wx := fun Wx => by
              rw [neq_pk p p Wx]; simp
            have p0 := hp4.c0
            have p1 := hp4.c1
            have p2 := hp4.c2
            have HM4 := Lib.hid hm4
            clear hn4 hk4 hb4 hp4 hm4
            go_upto_region 19 with fail
            rw [← hW4]
            clear hW4
            go_wp2_with fail
            go_quiet (fail)
            generalize hwd : World.drewN _ _ = wy
            have hbd : Below W4.heap.size W4 wy := by rw [← hwd]; exact below_drewN (Below.refl _ _) _
            have hrow : PkRow wy w.heap.size (.slice (some ⟨vg, 0, none⟩) W.length vc) W := by rw [← HNL.out]; exact HM4.out.mr.on hbd
            obtain ⟨J, A, D, E, a1, c1, W5, a2, K2, c2, W6, hcr⟩ := cut_run hrow (by rw [← HNL.out]; exact hkN) (by have := HNL.out; omega)
            rw [← HNL.out] at hcr
            have hsto := hcr.sto
            have hsfr := hcr.sfrom
            have hwr := hcr.wrap
            have HR1 := Lib.hid hcr.run1
            have HR2 := Lib.hid hcr.run2
            have hlen6 := hcr.len
            have hle6 : (cut W k).length ≤ 30 := by have := cut_length (l := W) (i := (k : Int)) (by omega) (by have := HNL.out; omega); have := HNL.out; omega
            have hcb := hcr.below
            have hm6 : HM w W6 b ⟨cut W k, 0⟩ (FH (.slice a2 K2 c2) (.slice none 0 0)) (cut W k) [] (.slice a2 K2 c2) (.slice none 0 0) := (HM4.out.cutTo (wv' := .slice a2 K2 c2) (hbd.trans (hcb.mono hbd.size)) (hcr.row.low hbd.size))
            have HM6 := Lib.hid hm6
            have HLE6 := Lib.hid hle6
            clear hwd hbd hrow hcr hlen6 hle6 hcb hm6 e0 e1 e2 p0 p1 p2
            go_wp2_with fail
            go_region_law (first | (refine step_append_run rfl (.tmp 113) (.tmp 116) _ _ rfl _ _ rfl rfl _ _ HR1.out ?_) | (refine step_append_run rfl (.tmp 117) (.tmp 121) _ _ rfl _ _ rfl rfl _ _ HR2.out ?_))
            all_goals
              go_wp2_with fail
              go_roundw
              case rel => exact ⟨j + 1, hjK, by go_num, _, HM6.out, HLE6.out⟩
              case measure => simp [intOf]; omega
          · have hat : q < 0 ∨ (((⟨W, 0⟩ : N).l.length : Nat) : Int) ≤ q := by
              show q < 0 ∨ ((W.length : Nat) : Int) ≤ q
              rw [← HNL.out]
              omega
            have HD := Lib.hid (deliver_no hat)
            by_cases hq0 : q < 0
            · clear hat hin hq
              go_wp2_with fail
              refine (nf_deliver HM1.out.nf HD.out).mono ?_
              rintro e w4 ⟨rfl, hn4, hk4⟩
              obtain ⟨W4, hW4⟩ : ∃ W4, W4 = w4.alloc (.cells #[.int .i64 zero.a, .int .i64 zero.b, .string ⟨zero.s.toArray⟩] 33) := ⟨_, rfl⟩
              have hb4 : Below w4.heap.size w4 W4 := by rw [hW4]; exact (Below.refl _ _).alloc (Nat.le_refl _) _
              have hm4 : HM w W4 b ⟨W, 0⟩ (FH (.slice va NW vc) (.slice none 0 0)) W [] (.slice va NW vc) (.slice none 0 0) := ⟨hn4.on hb4, (hk4.row HM1.out.mr (fun j e => Or.inl e)).on hb4, pkRow_nil _ _, HM1.out.ap, HM1.out.mg, HM1.out.gg⟩
              have HM4 := Lib.hid hm4
              clear hn4 hk4 hb4 hm4
              go_upto_region 19 with fail
              rw [← hW4]
              clear hW4
              go_wp2_with fail
              go_roundw
              case rel => exact ⟨j + 1, hjK, by go_num, _, HM4.out, HWL1.out⟩
              case measure => simp [intOf]; omega
            · have hq1 : (NW : Int) ≤ q := by omega
              clear hat hin hq
              go_wp2_with fail
              refine (nf_deliver HM1.out.nf HD.out).mono ?_
              rintro e w4 ⟨rfl, hn4, hk4⟩
              obtain ⟨W4, hW4⟩ : ∃ W4, W4 = w4.alloc (.cells #[.int .i64 zero.a, .int .i64 zero.b, .string ⟨zero.s.toArray⟩] 33) := ⟨_, rfl⟩
              have hb4 : Below w4.heap.size w4 W4 := by rw [hW4]; exact (Below.refl _ _).alloc (Nat.le_refl _) _
              have hm4 : HM w W4 b ⟨W, 0⟩ (FH (.slice va NW vc) (.slice none 0 0)) W [] (.slice va NW vc) (.slice none 0 0) := ⟨hn4.on hb4, (hk4.row HM1.out.mr (fun j e => Or.inl e)).on hb4, pkRow_nil _ _, HM1.out.ap, HM1.out.mg, HM1.out.gg⟩
              have HM4 := Lib.hid hm4
              clear hn4 hk4 hb4 hm4
              go_upto_region 19 with fail
              rw [← hW4]
              clear hW4
              go_wp2_with fail
              go_roundw
              case rel => exact ⟨j + 1, hjK, by go_num, _, HM4.out, HWL1.out⟩
              case measure => simp [intOf]; omega
        · have hjK' : ¬ (j : Int) < (K : Int) := by omega
          go_wp2_with fail
          refine (nf_list HM1.out.nf).mono ?_
          rintro e w4 ⟨lv, rfl, hlr, hb4⟩
          have HS := Lib.hid (same_c hlr (by rw [HNL.out] at HM1; exact HM1.out.mr.on hb4))
          rw [← HNL.out] at HS
          have HB4 := Lib.hid (HM1.out.nf.base.trans (hb4.mono HM1.out.nf.base.size))
          obtain ⟨la, lc, rfl, _⟩ := hlr.shape
          clear hlr hb4
          go_wp2_with fail
          refine HS.out.mono ?_
          rintro e w5 ⟨rfl, hb5⟩
          have HB5 := Lib.hid (HB4.out.trans (hb5.mono HB4.out.size))
          clear hb5
          go_wp2_with fail
          go_ret
          exact ⟨rfl, HB5.out⟩
set_option maxHeartbeats 1000000 in
theorem orders_out (v : Value) (l : List Op7) (K : Nat) (hK : K ≤ 9223372036854775807) (hfew : ¬ (fewM l 30 = true ∧ K ≤ 30)) (pa : Option Addr) (pc : Nat) (w : World) (h : OpsIn7 w v l) : Calls Try.prog 5 #[v, .slice pa K pc] w fun e w' => e = .returned (.bool true) ∧ Below w.heap.size w w' := by
  have HO := Lib.hid h
  obtain ⟨_, a, c, rfl, _⟩ := h
  cases hf : fewM l 30 with
  | true =>
    have hK30 : (30 : Int) < (K : Int) := by
      have : ¬ K ≤ 30 := fun e => hfew ⟨hf, e⟩
      omega
    have HF30 := Lib.hid hf
    clear hfew hf
    go_enter Try.func5, Try.ntmps5
    go_wp2_with fail
    refine (small_c w).mono ?_
    rintro e w1 ⟨rfl, hb1⟩
    have HB1 := Lib.hid hb1
    clear hb1
    go_wp2_with fail
    refine (nf_new HB1.out (F := fun _ => False) (fun _ e => e.elim)).mono ?_
    rintro e w2 ⟨rfl, hn2, hb2, hl2⟩
    have HB2 := Lib.hid hn2.base
    clear hn2 hb2 hl2
    go_wp2_with fail
    refine (few_c _ l 30 w2 (HO.out.on HB2.out)).mono ?_
    rintro e w3 ⟨rfl, hw⟩
    rw [hw, HF30.out]
    clear hw
    go_wp2_with fail
    go_ret
    exact ⟨rfl, HB2.out⟩
  | false =>
    have HF30 := Lib.hid hf
    clear hfew hf
    go_enter Try.func5, Try.ntmps5
    go_wp2_with fail
    refine (small_c w).mono ?_
    rintro e w1 ⟨rfl, hb1⟩
    have HB1 := Lib.hid hb1
    clear hb1
    go_wp2_with fail
    refine (nf_new HB1.out (F := fun _ => False) (fun _ e => e.elim)).mono ?_
    rintro e w2 ⟨rfl, hn2, hb2, hl2⟩
    have HB2 := Lib.hid hn2.base
    clear hn2 hb2 hl2
    go_wp2_with fail
    refine (few_c _ l 30 w2 (HO.out.on HB2.out)).mono ?_
    rintro e w3 ⟨rfl, hw⟩
    rw [hw, HF30.out]
    clear hw
    go_wp2_with fail
    go_ret
    exact ⟨rfl, HB2.out⟩
theorem orders_law (v : Value) (l : List Op7) (picks : List Int) (hpl : picks.length ≤ 9223372036854775807) (_ : ∀ k ∈ picks, In64 k) (pa : Option Addr) (pc : Nat) (w : World) (h : OpsIn7 w v l) (hp : SrcV w 1 (.slice pa picks.length pc) picks.length (intsV picks)) : Calls Try.prog 5 #[v, .slice pa picks.length pc] w fun e w' => e = .returned (.bool true) ∧ Below w.heap.size w w' := by
  by_cases hf : fewM l 30 = true ∧ picks.length ≤ 30
  · exact orders_in v l picks hf.1 hf.2 pa pc w h hp
  · exact orders_out v l _ hpl hf pa pc w h
end Go.Proofs.Ytedpkjlhcpjblaa
