/-
  WireNests: for all sequences of values, their encodings as the strings of a list, itself as a string, are read back one in the other.
-/
import Derived.Test.YtlfpelmblpdbjaaDoorBack
namespace Go.Proofs.YtlfpelmblpdbjaaDoor
open Go Go.RowKit Go.Sort Wire

theorem encs_map_take (vs : List Val) (k : Nat) (x : Val) (h : vs[k]? = some x) : (vs.take (k + 1)).map Val.enc = (vs.take k).map Val.enc ++ [x.enc] := by
  rw [List.take_add_one, h]
  simp
theorem nests_len (vs : List Val) (h : ∀ x ∈ vs, x.enc.length ≤ 20000) : ((vs.map Val.enc).flatMap eText).length ≤ 20022 * vs.length ∧ texts (vs.map Val.enc) ≤ 20000 * vs.length := by
  induction vs with
  | nil => simp [texts]
  | cons x vs ih =>
    have h1 := ih (fun y hy => h y (List.mem_cons_of_mem _ hy))
    have h2 := h x (List.mem_cons_self ..)
    have h3 := itoa_len x.enc.length (by unfold InR; omega)
    rw [List.map_cons, texts_cons]
    have h4 : (eText x.enc).length = (Lib.itoa x.enc.length).length + x.enc.length + 2 := by unfold eText; simp; omega
    rw [List.flatMap_cons, List.length_append, List.length_cons, h4]
    omega

set_option maxHeartbeats 2000000 in
set_option maxRecDepth 100000 in
theorem nests_c (vs : List Val) (v : Value) (w : World) (hg : Good w) (hv : ValsAt w v vs) :
    Calls Tryd.prog 8 #[v] w fun e w' => e = .returned (.bool true) ∧ Below w.heap.size w w' := by
  obtain ⟨i0, hi, hz0, hz1, hz2⟩ := info_parts infoStr
  obtain ⟨h0, a, cap, rfl, hcells⟩ := hv
  have HC := Lib.hid hcells
  clear hcells
  go_enter Tryd.func8, Tryd.ntmps8
  go_wp2_with fail
  refine (small_c _ hg).mono ?_
  rintro e w1 ⟨rfl, hb1⟩
  have hg1 := hg.on hb1
  have HV : ValsAt w1 (.slice a vs.length cap) vs := by
    refine ⟨h0, a, cap, rfl, fun hne => ?_⟩
    obtain ⟨b, off, e1, e2⟩ := HC.out hne
    refine ⟨b, off, e1, fun i x hx => ?_⟩
    obtain ⟨v3, v4, a1, a2, a3, a4, a5, a6⟩ := e2 i x hx
    have := (Elem.mk a1 a2 a3 a4 a5 a6).on hb1
    exact ⟨v3, v4, this.at5, this.c0, this.c1, this.c2, this.c3, this.c4⟩
  have HVh := Lib.hid HV
  clear HV
  go_wp2_with fail
  refine (few_c vs _ _ HVh.out).mono ?_
  rintro e w2 ⟨bf, rfl, hfew, hb2⟩
  have hg2 := hg1.on hb2
  have hbb := chain hb1 hb2
  clear hb1 hb2 hg1 HVh
  cases bf with
  | false =>
    clear hfew
    go_wp2_with fail
    go_ret
    exact ⟨rfl, hbb⟩
  | true =>
    obtain ⟨hl20, htot⟩ := hfew rfl
    have hbnd : ∀ x ∈ vs, x.enc.length ≤ 20000 := fun x hx => by
      obtain ⟨i, hi, rfl⟩ := List.getElem_of_mem hx
      obtain ⟨x, b, off, v3, v4, e1, _, hel⟩ := elem_of HC.out hi
      rw [List.getElem?_eq_getElem hi] at e1
      injection e1 with e1
      rw [e1]
      exact enc_len x (Nat.le_trans (total_get (by rw [List.getElem?_eq_getElem hi, e1])) htot) hel.at5.n hel.at5.hl
    have HB := Lib.hid hbnd
    clear hfew hbnd
    go_wp2_with fail
    go_loopw [4, 5] (fun s i wr => ∃ k : Nat, k ≤ vs.length ∧ i = .int .i64 k ∧ wr.ownsRow w.heap.size 9 1 s k (strs ((vs.take k).map Val.enc)) ∧ Below w.heap.size w wr) (fun _ i _ => vs.length - (intOf i).toNat)
    case atStart => exact ⟨0, Nat.zero_le _, rfl, World.ownsRow_nil _ _ _ _, hbb⟩
    case round =>
      obtain ⟨k, hk, rfl, hown, hbk⟩ := hrel
      clear hbb hg2
      have hgk := hg.on hbk
      by_cases hlt : k < vs.length
      · obtain ⟨x, b, off, v3, v4, hx, rfl, hel⟩ := elem_of HC.out hlt
        have hsz : x.size ≤ 400 := Nat.le_trans (total_get hx) htot
        have he2 := hel.on hbk
        have c0 := he2.c0
        have c1 := he2.c1
        have c2 := he2.c2
        have c3 := he2.c3
        have c4 := he2.c4
        have HS := Lib.hid (encs_map_take vs k x hx)
        clear hx HC
        go_wp2_with fail
        refine (write_c x v3 v4 hsz _ hgk he2.at5).mono ?_
        rintro e w3 ⟨rfl, hb3⟩
        have hown3 := owned_on hown hb3
        have hb4 := chain hbk hb3
        have hz3 := hb4.size
        clear c0 c1 c2 c3 c4 he2 hel hown
        go_wp2_with (at_builtin; refine wpList_append_own _ rfl _ _ 23 rfl w.heap.size 9 i0 (.string ⟨#[]⟩) 1 16 Tryd.underlying23 hi hz0 hz1 hz2 rfl (by decide) _ _ _ rfl (hown3.alloc _) ⟨w3.heap.size, 0, none⟩ 1 1 [.string ⟨x.enc.toArray⟩] rfl rfl ?c1 ?c2 ?c3 ?c4 ?c5 ?_)
        case c1 =>
          intro j u hj
          match j, hj with
          | 0, hj => simp at hj; subst hj; simp [Addr.add]
        case c2 => intro u hu; simp at hu; subst hu; rfl
        case c3 => unfold maxLen; omega
        case c4 => omega
        case c5 => simp; omega
        intro v' w4 hown4 hgrow _
        have hb5 : Below w.heap.size w w4 := (hb4.alloc hz3 _).grown hgrow (by simp; omega) (fun j hj => (hown3.lt j hj).1)
        go_wp2_with fail
        go_roundw
        case rel => exact ⟨k + 1, by omega, by go_num, by rw [HS.out]; simpa [strs] using hown4, hb5⟩
        case measure => simp [intOf]; omega
      · obtain rfl : k = vs.length := by omega
        have hrow0 := owned_row hown
        rw [List.take_length] at hrow0
        have hnl := nests_len vs HB.out
        have hln : (strs (vs.map Val.enc)).length = vs.length := by simp [strs]
        have htx : (eList eText (vs.map Val.enc)).length ≤ 1000000000 := by
          have h5 := itoa_len (vs.map Val.enc).length (by unfold InR; simp; omega)
          unfold eList
          simp only [List.length_append, List.length_singleton]
          omega
        have HR : Hid (rText (eText (eList eText (vs.map Val.enc))) = some (eList eText (vs.map Val.enc), [])) := Lib.hid (by have := read2 (eList eText (vs.map Val.enc)) (by omega) []; rwa [List.append_nil] at this)
        have HR4 : Hid (rList rText (eList eText (vs.map Val.enc)) = some (vs.map Val.enc, [])) := Lib.hid (by
          have := (rList_iff (p := rText) (ok := fun t => InR t.length) (enc := eText) (fun s a r => rText_iff s a r) (eList eText (vs.map Val.enc)) (vs.map Val.enc) []).2 ⟨by unfold InR; simp; omega, fun y hy => ?_, by simp⟩
          · exact this
          · obtain ⟨x, hx, rfl⟩ := List.mem_map.1 hy
            have := HB.out x hx
            show InR (x.enc.length : Int)
            unfold InR
            omega)
        go_wp2_with fail
        refine (wTexts_c (vs.map Val.enc) _ (by omega) _ hgk hrow0).mono ?_
        rintro e w5 ⟨rfl, hb5⟩
        have hg5 := hgk.on hb5
        have hbb5 := chain hbk hb5
        go_wp2_with fail
        refine (wText_c _ (by omega) _ hg5).mono ?_
        rintro e w6 ⟨rfl, hb6⟩
        have hg6 := hg5.on hb6
        have hbb6 := chain hbb5 hb6
        go_wp2_with fail
        refine (rOpen_c _ _).mono ?_
        rintro e w7 ⟨rfl, hr7, hb7⟩
        have hg7 := hg6.on hb7
        have hbb7 := chain hbb6 hb7
        go_wp2_with fail
        have h6w : 6 ≤ w6.heap.size := hg6.big
        have hlt6 : (eText (eList eText (vs.map Val.enc))).length < 4294967281 := by
          have h5 := itoa_len (eList eText (vs.map Val.enc)).length (by unfold InR; omega)
          have h6 : (eText (eList eText (vs.map Val.enc))).length = (Lib.itoa (eList eText (vs.map Val.enc)).length).length + (eList eText (vs.map Val.enc)).length + 2 := by unfold eText; simp; omega
          omega
        refine (rTextM_ok _ _ _ _ _ HR.out hlt6 _ hg7 hr7).mono ?_
        rintro e w8 ⟨rfl, hr8, ho8⟩
        have hg8 := hg7.only ho8 h6w
        have hbb8 := chainO hbb7 ho8 hbb6.size
        go_wp2_with fail
        refine (rOpen_c _ _).mono ?_
        rintro e w9 ⟨rfl, hr9, hb9⟩
        have hg9 := hg8.on hb9
        have hbb9 := chain hbb8 hb9
        have hr8' := hr8.on hb9
        have h8w : 6 ≤ w8.heap.size := hg8.big
        go_wp2_with fail
        refine (rDone_c _ _ _ _ hr8').mono ?_
        rintro e w10 ⟨rfl, rfl⟩
        go_wp2_with fail
        refine (rTextsM_c _ _ false (fun h => by cases h) (by omega) _ hg9 h8w hr9).mono ?_
        rintro e w10 ⟨ho10, hp⟩
        obtain ⟨vg, rfl, hrow10, hr10⟩ := list_read HR4.out hp
        have hg10 := hg9.only ho10 h8w
        have hbb10 := chainO hbb9 ho10 hbb8.size
        clear hp
        obtain ⟨hgl, ag, cg, rfl, hgc⟩ := hrow10
        rw [hln]
        have HG := Lib.hid hgc
        clear hgc hgl
        go_wp2_with fail
        refine (rDone_c _ _ _ _ hr10).mono ?_
        rintro e w11 ⟨rfl, rfl⟩
        go_wp2_with fail
        go_loopw [9] (fun i wr => ∃ k : Nat, k ≤ vs.length ∧ i = .int .i64 k ∧ Below w10.heap.size w10 wr) (fun i _ => vs.length - (intOf i).toNat)
        case atStart => exact ⟨0, Nat.zero_le _, rfl, Below.refl _ _⟩
        case round =>
          obtain ⟨k, hk2, rfl, hbk2⟩ := hrel
          by_cases hlt2 : k < vs.length
          · obtain ⟨x, b, off, v3, v4, hx, rfl, hel⟩ := elem_of HC.out hlt2
            have hsz : x.size ≤ 400 := Nat.le_trans (total_get hx) htot
            have hbw := chain hbb10 hbk2
            have he2 := hel.on hbw
            have hgw := hg.on hbw
            have hxe : (vs.map Val.enc)[k]? = some x.enc := by rw [List.getElem?_map, hx]; rfl
            obtain ⟨bg, og, rfl, hgc⟩ := HG.out (by intro h; have := congrArg List.length h; rw [hln] at this; simp at this; subst this; simp at hlt2)
            have g0 := hgc k _ (strs_get hxe)
            have g1 : wr.cell? ⟨bg, og + k, none⟩ = some (.string ⟨x.enc.toArray⟩) := (hbk2.cell (lt_of_cell g0)).trans g0
            have hel4 : (x.enc ++ []).length < 4294967281 := by have := enc_len x hsz hel.at5.n hel.at5.hl; rw [List.append_nil]; omega
            have h6r : 6 ≤ wr.heap.size := hgw.big
            clear hx hxe hgc g0 HC HG HR HR4 HB
            go_wp2_with fail
            refine (rOpen_c x.enc _).mono ?_
            rintro e w12 ⟨rfl, hr12, hb12⟩
            have hg12 := hgw.on hb12
            have hbw12 := chain hbw hb12
            have he3 := he2.on hb12
            have c0 := he3.c0
            have c1 := he3.c1
            have c2 := he3.c2
            have c3 := he3.c3
            have c4 := he3.c4
            have hr12' : Rd w12 wr.heap.size (x.enc ++ []) false := by rw [List.append_nil]; exact hr12
            clear he2 he3 g1
            go_wp2_with fail
            refine (equal_c x v3 v4 hsz _ [] hel4 h6r w _ hbw12 hbw.size hg12 hr12' hel.at5).mono ?_
            rintro e w13 ⟨rfl, hr13, ho13⟩
            clear c0 c1 c2 c3 c4
            go_wp2_with fail
            refine (rDone_c _ _ _ _ hr13).mono ?_
            rintro e w14 ⟨rfl, rfl⟩
            go_wp2_with fail
            go_roundw
            case rel => exact ⟨k + 1, by omega, by go_num, chainO (chain hbk2 hb12) ho13 hbk2.size⟩
            case measure => simp [intOf]; omega
          · go_wp2_with fail
            go_ret
            exact ⟨rfl, chain hbb10 hbk2⟩
end Go.Proofs.YtlfpelmblpdbjaaDoor
