/-
  ReplicaBack: the walk. Written by gen/klaw.py.
-/
import Derived.Test.YtkmojcpiadpbaaaGreatDoorKOpen
import Derived.Test.YtkmojcpiadpbaaaGreatDoorKRfB
import Derived.Test.YtkmojcpiadpbaaaGreatDoorRSmall
import Derived.Lib.QuietBelow
namespace Go.Proofs.YtkmojcpiadpbaaaGreatDoor
set_option maxRecDepth 100000
open Go Go.RowKit Go.Sort Wire Rp

theorem lowM_short {m : Msg} (h1 : ∀ x ∈ eHead m, InR x) (h2 : m.rs.length ≤ 10) (h3 : ∀ x ∈ m.rs, InR x.t ∧ x.d.length ≤ 100) : LowM m := ⟨h1, by omega, fun x hx => ⟨(h3 x hx).1, by have := (h3 x hx).2; omega⟩⟩
theorem flat_short : ∀ (l : List Rec), (∀ x ∈ l, InR x.t ∧ x.d.length ≤ 100) → (l.flatMap eRec).length ≤ l.length * 150
  | [], _ => Nat.le_refl _
  | x :: l, h => by
    have h0 := h x (List.mem_cons_self ..)
    have h1 := itoa_len x.t h0.1
    have h2 := itoa_len x.d.length (by have := h0.2; unfold InR; omega)
    have h3 := flat_short l (fun y hy => h y (List.mem_cons_of_mem _ hy))
    rw [List.flatMap_cons, List.length_append, List.length_cons]
    have e : (eRec x).length ≤ 150 := by
      have h4 := h0.2
      unfold eRec eInt eText
      simp only [List.length_append, List.length_singleton]
      omega
    omega
theorem msg_short {m : Msg} (h1 : ∀ x ∈ eHead m, InR x) (h2 : m.rs.length ≤ 10) (h3 : ∀ x ∈ m.rs, InR x.t ∧ x.d.length ≤ 100) : (eMsg m).length ≤ 40000 := by
  have q1 := msg_len (lowM_short h1 h2 h3)
  have q2 := flat_short m.rs h3
  rw [eMsg_three]
  simp only [List.length_append]
  omega
/-- What a string of at most 300 bytes is read as can be written again. -/
theorem low_read {s : List UInt8} {m : Msg} (h : readP s = some m) (hs : s.length ≤ 300) : LowM m := by
  obtain ⟨h1, h2⟩ := readP_some h
  have hl : (m.rs.flatMap eRec).length ≤ 300 := by
    have := congrArg List.length h2
    rw [eMsg_three] at this
    simp only [List.length_append] at this
    omega
  refine ⟨h1.1, by have := flat_len m.rs; omega, fun x hx => ⟨(h1.2.2 x hx).1, by have h : x.d.length ≤ (m.rs.flatMap eRec).length := mem_short hx; omega⟩⟩
theorem low_readR {s : List UInt8} {x : Rec} (h : readR s = some x) (hs : s.length ≤ 300) : LowR x := by
  obtain ⟨h1, h2⟩ := readR_some h
  refine ⟨h1.1, ?_⟩
  have hl := congrArg List.length h2
  unfold eRec eText at hl
  simp only [List.length_append] at hl
  omega

set_option maxHeartbeats 1000000 in
set_option linter.unusedSimpArgs false in
theorem back_law (p : PM) (s : List UInt8) (W : World) (hg : Good W) (hp : MsgIn W p 1048576) (hs : s.length ≤ 9223372036854775807) : Calls Tryz.prog 3 #[p.val, .string ⟨s.toArray⟩] W fun e w' => e = .returned (.bool true) ∧ Below W.heap.size W w' := by
  obtain ⟨m, ma, mc⟩ := p
  obtain ⟨hhead, hsrc, hlen, hents⟩ := hp
  have hhead : ∀ x ∈ eHead m, InR x := hhead
  have hsrc : Src (fun _ => True) W ma mc m.rs.length (recsV m.rs) := hsrc
  have hents : ∀ x ∈ m.rs, InR x.t ∧ x.d.length ≤ 1048576 := hents
  have hlen : m.rs.length ≤ 9223372036854775807 := hlen
  obtain ⟨W1, hW1⟩ : ∃ W1, W1 = W.alloc (.cells #[.int .i64 m.k, .int .i64 m.fr, .int .i64 m.dst, .int .i64 m.tm, .int .i64 m.ix, .int .i64 m.pv, .int .i64 m.cm, .bool m.yes, .slice ma m.rs.length mc] 24) := ⟨_, rfl⟩
  have HB1 := Lib.hid (show Below W.heap.size W W1 by rw [hW1]; exact below_new W _)
  have hx1 : W1.heap[W.heap.size]? = some (.cells #[.int .i64 m.k, .int .i64 m.fr, .int .i64 m.dst, .int .i64 m.tm, .int .i64 m.ix, .int .i64 m.pv, .int .i64 m.cm, .bool m.yes, .slice ma m.rs.length mc] 24 (0, 0)) := by rw [hW1]; exact box_new W _
  obtain ⟨L, hL⟩ : ∃ L, m.rs.length = L := ⟨_, rfl⟩
  have HG := Lib.hid hg
  have HHEAD := Lib.hid hhead
  have HENTS := Lib.hid hents
  have HL := Lib.hid hL
  show Calls _ _ #[.agg #[.int .i64 m.k, .int .i64 m.fr, .int .i64 m.dst, .int .i64 m.tm, .int .i64 m.ix, .int .i64 m.pv, .int .i64 m.cm, .bool m.yes, .slice ma m.rs.length mc], .string ⟨s.toArray⟩] _ _
  rw [hL] at hW1 hx1 hsrc hlen ⊢
  have HSRC := Lib.hid hsrc
  have HX1 := Lib.hid hx1
  have hlc : L ≤ mc := hsrc.1
  clear hg hhead hents hL hsrc hx1
  go_enter Tryz.func3, Tryz.ntmps3
  go_upto_region 1 with fail
  rw [← hW1]
  clear hW1
  go_wp2_with fail
  refine (small_c W1).mono ?_
  rintro e w1 ⟨rfl, HS⟩
  have HB := Lib.hid (HB1.out.trans (HS.mono HB1.out.size))
  have hx2 := box_on HX1.out HS
  have HX2 := Lib.hid hx2
  have f8 : w1.cell? ⟨W.heap.size, 8, none⟩ = some (.slice ma L mc) := by rw [Lib.cell_of_heap hx2]; rfl
  clear HS hx2 HX1 HB1
  by_cases h10 : 10 < L
  · have h10' : (10 : Int) < (L : Int) := by omega
    go_wp2_with fail
    go_ret
    exact ⟨rfl, HB.out⟩
  have h10' : ¬ (10 : Int) < (L : Int) := by omega
  by_cases h300 : 300 < s.length
  · have h300' : (300 : Int) < (s.length : Int) := by omega
    go_wp2_with fail
    go_ret
    exact ⟨rfl, HB.out⟩
  have h300' : ¬ (300 : Int) < (s.length : Int) := by omega
  go_wp2_with fail
  go_loopw [6] (fun v6 wr => ∃ k : Nat, k ≤ L ∧ v6 = .int .i64 (k : Int) ∧ Hid ((∀ x ∈ m.rs.take k, x.d.length ≤ 100) ∧ Below w1.heap.size w1 wr)) (fun v6 _ => L - (intOf v6).toNat)
  case atStart => exact ⟨0, Nat.zero_le _, rfl, Lib.hid ⟨by simp, Below.refl _ _⟩⟩
  case round =>
    obtain ⟨k, hk, rfl, HF⟩ := hrel
    have HBR := Lib.hid (HB.out.trans (HF.out.2.mono HB.out.size))
    clear f8
    have f8 : wr.cell? ⟨W.heap.size, 8, none⟩ = some (.slice ma L mc) := by rw [Lib.cell_of_heap (box_on HX2.out HF.out.2)]; rfl
    by_cases hkl : k < L
    · have hkl' : (k : Int) < (L : Int) := by omega
      obtain ⟨x, hx⟩ : ∃ x, m.rs[k]? = some x := ⟨m.rs[k]'(by have := HL.out; omega), List.getElem?_eq_getElem _⟩
      have hxm := List.mem_of_getElem? hx
      obtain ⟨hx1, hx2⟩ := HENTS.out x hxm
      have hlow : LowR x := ⟨hx1, hx2⟩
      have hsrc := HSRC.out
      have hLo := HL.out
      rw [← hLo] at hsrc
      obtain ⟨b1, o1, e1, q1, q2⟩ := rec_cells (hsrc.on HBR.out) rfl hx
      subst e1
      have QB := Lib.hid (recBytes_c x hlow wr (HG.out.on HBR.out))
      have QR := Lib.hid (fun (w5 : World) (hb5 : Below wr.heap.size wr w5) => (readR_c (eRec x) (by have := eRec_len hlow; omega) w5 (HG.out.on (HBR.out.trans (hb5.mono HBR.out.size)))).mono (R' := fun e w6 => e = .returned (.tuple #[.agg #[.int .i64 x.t, .string ⟨x.d.toArray⟩], .bool true]) ∧ (w6.cell? ⟨W.heap.size, 8, none⟩ = some (.slice (some ⟨b1, o1, none⟩) L mc) ∧ w6.cell? ⟨b1, o1 + k * 2, none⟩ = some (.int .i64 x.t) ∧ w6.cell? ⟨b1, o1 + k * 2 + 1, none⟩ = some (.string ⟨x.d.toArray⟩)) ∧ Hid (Below wr.heap.size wr w6)) (fun e w6 hh => by
        have hb6 := hb5.trans (hh.2.out.mono hb5.size)
        have hr : readR (eRec x) = some x := readR_eRec hlow.okR
        rw [hr] at hh
        exact ⟨hh.1, ⟨by rw [Lib.cell_of_heap (box_on HX2.out (HF.out.2.trans (hb6.mono HF.out.2.size)))]; rfl, (Kept.below (S := fun _ => False) hb6).cell q1 (fun e => e), (Kept.below (S := fun _ => False) hb6).cell q2 (fun e => e)⟩, Lib.hid hb6⟩))
      have HXK := Lib.hid hx
      have hxl : x.d.length ≤ 9223372036854775807 := by omega
      have E : ∀ V : World, (binOp .neq 27 (.agg #[.int .i64 x.t, .string ⟨x.d.toArray⟩]) (.agg #[.int .i64 x.t, .string ⟨x.d.toArray⟩])).run Tryz.prog V = .ok (.bool false) V := fun V => by
        rw [neq_rec]
        simp
      clear hx hxm hx1 hx2 hlow hsrc hLo
      go_upto_region 8 with (first | ((with_reducible refine QB.out.mono ?_); rintro e w5 ⟨rfl, hb5⟩; have HB5 := Lib.hid hb5; clear hb5) | ((refine (QR.out _ HB5.out).mono ?_); clear f8 q1 q2; rintro e w6 ⟨rfl, ⟨f8, q1, q2⟩, HB6⟩))
      obtain ⟨W8, hW8⟩ : ∃ W8, W8 = w6.alloc (.cells #[.int .i64 x.t, .string ⟨x.d.toArray⟩] 27) := ⟨_, rfl⟩
      rw [← hW8]
      have hbn : Below w6.heap.size w6 W8 := by rw [hW8]; exact below_new w6 _
      have HB8 := Lib.hid (HB6.out.trans (hbn.mono HB6.out.size))
      have hxn : W8.heap[w6.heap.size]? = some (.cells #[.int .i64 x.t, .string ⟨x.d.toArray⟩] 27 (0, 0)) := by rw [hW8]; exact box_new w6 _
      have x0 : W8.cell? ⟨w6.heap.size, 0, none⟩ = some (.int .i64 x.t) := by rw [Lib.cell_of_heap hxn]; rfl
      have x1 : W8.cell? ⟨w6.heap.size, 1, none⟩ = some (.string ⟨x.d.toArray⟩) := by rw [Lib.cell_of_heap hxn]; rfl
      have f8' := (Kept.below (S := fun _ => False) hbn).cell f8 (fun e => e)
      have q1' := (Kept.below (S := fun _ => False) hbn).cell q1 (fun e => e)
      have q2' := (Kept.below (S := fun _ => False) hbn).cell q2 (fun e => e)
      clear hbn hxn hW8 f8 q1 q2 QB QR HB5 HB6
      by_cases h100 : 100 < x.d.length
      · have h100' : (100 : Int) < (x.d.length : Int) := by omega
        go_wp2_with fail
        go_ret
        exact ⟨rfl, HBR.out.trans (HB8.out.mono HBR.out.size)⟩
      · have h100' : ¬ (100 : Int) < (x.d.length : Int) := by omega
        go_wp2_with fail
        go_quiet (fail)
        go_wp2_with fail
        go_roundw
        case rel =>
          refine ⟨k + 1, hkl, by go_num, Lib.hid ⟨fun y hy => ?_, ?_⟩⟩
          · rw [List.take_add_one, HXK.out] at hy
            rcases List.mem_append.1 hy with hy | hy
            · exact HF.out.1 y hy
            · simp at hy
              rw [hy]
              omega
          · exact HF.out.2.trans ((HB8.out.trans ((drewN_below W8 nq).mono HB8.out.size)).mono HF.out.2.size)
        case measure => simp [intOf]; omega
    · have hkl' : ¬ (k : Int) < (L : Int) := by omega
      have hkL : k = L := by omega
      subst hkL
      have hlo := HL.out
      have hall : ∀ x ∈ m.rs, InR x.t ∧ x.d.length ≤ 100 := fun x hx => ⟨(HENTS.out x hx).1, HF.out.1 x (by rw [← hlo, List.take_length]; exact hx)⟩
      have HLOW := Lib.hid (lowM_short HHEAD.out (by omega) hall)
      have hE40 := msg_short HHEAD.out (by omega) hall
      obtain ⟨E, hE⟩ : ∃ E, E = eMsg m := ⟨_, rfl⟩
      have hreadE : readP E = some m := by rw [hE]; exact readP_eMsg HLOW.out.okM
      rw [← hE] at hE40
      have HE := Lib.hid hE
      have HGR := Lib.hid (HG.out.on HBR.out)
      have hx := box_on HX2.out HF.out.2
      have HX := Lib.hid hx
      have HSR := Lib.hid (HSRC.out.on HBR.out)
      have f0 := show wr.cell? ⟨W.heap.size, 0, none⟩ = some (.int .i64 m.k) from by rw [Lib.cell_of_heap hx]; rfl
      have f1 := show wr.cell? ⟨W.heap.size, 1, none⟩ = some (.int .i64 m.fr) from by rw [Lib.cell_of_heap hx]; rfl
      have f2 := show wr.cell? ⟨W.heap.size, 2, none⟩ = some (.int .i64 m.dst) from by rw [Lib.cell_of_heap hx]; rfl
      have f3 := show wr.cell? ⟨W.heap.size, 3, none⟩ = some (.int .i64 m.tm) from by rw [Lib.cell_of_heap hx]; rfl
      have f4 := show wr.cell? ⟨W.heap.size, 4, none⟩ = some (.int .i64 m.ix) from by rw [Lib.cell_of_heap hx]; rfl
      have f5 := show wr.cell? ⟨W.heap.size, 5, none⟩ = some (.int .i64 m.pv) from by rw [Lib.cell_of_heap hx]; rfl
      have f6 := show wr.cell? ⟨W.heap.size, 6, none⟩ = some (.int .i64 m.cm) from by rw [Lib.cell_of_heap hx]; rfl
      have f7 := show wr.cell? ⟨W.heap.size, 7, none⟩ = some (.bool m.yes) from by rw [Lib.cell_of_heap hx]; rfl
      have f8 := show wr.cell? ⟨W.heap.size, 8, none⟩ = some (.slice ma k mc) from by rw [Lib.cell_of_heap hx]; rfl
      have QB := Lib.hid (show Calls Tryz.prog 8 #[.agg #[.int .i64 m.k, .int .i64 m.fr, .int .i64 m.dst, .int .i64 m.tm, .int .i64 m.ix, .int .i64 m.pv, .int .i64 m.cm, .bool m.yes, .slice ma k mc]] wr fun e w' => e = .returned (.string ⟨E.toArray⟩) ∧ Below wr.heap.size wr w' from by
        have q := bytes_c (G := fun _ => True) ⟨m, ma, mc⟩ HLOW.out wr HGR.out (show Src _ wr ma mc m.rs.length (recsV m.rs) by rw [hlo]; exact HSR.out)
        rw [← hE] at q
        have q : Calls Tryz.prog 8 #[.agg #[.int .i64 m.k, .int .i64 m.fr, .int .i64 m.dst, .int .i64 m.tm, .int .i64 m.ix, .int .i64 m.pv, .int .i64 m.cm, .bool m.yes, .slice ma m.rs.length mc]] wr _ := q
        rw [hlo] at q
        exact q)
      have QA := Lib.hid (fun (w5 : World) (hb5 : Below wr.heap.size wr w5) => (read_c E hE40 w5 (HGR.out.on hb5)).mono (R' := fun e w6 => ∃ (aa : Option Addr) (ac : Nat), e = .returned (.tuple #[.agg #[.int .i64 m.k, .int .i64 m.fr, .int .i64 m.dst, .int .i64 m.tm, .int .i64 m.ix, .int .i64 m.pv, .int .i64 m.cm, .bool m.yes, .slice aa k ac], .bool true]) ∧ Hid (Src (fun _ => True) w6 aa ac k (recsV m.rs) ∧ Below wr.heap.size wr w6)) (fun e w6 hh => by
        obtain ⟨⟨pm, aa, ac⟩, h1, h2, h3, h4⟩ := hh
        rw [hreadE] at h1 h2
        have h1 : pm = m := h1
        subst h1
        have h3 : Src (fun j => w5.heap.size ≤ j) w6 aa ac pm.rs.length (recsV pm.rs) := h3
        have h2 : e = .returned (.tuple #[.agg #[.int .i64 pm.k, .int .i64 pm.fr, .int .i64 pm.dst, .int .i64 pm.tm, .int .i64 pm.ix, .int .i64 pm.pv, .int .i64 pm.cm, .bool pm.yes, .slice aa pm.rs.length ac], .bool true]) := h2
        rw [hlo] at h2 h3
        exact ⟨aa, ac, h2, Lib.hid ⟨h3.mono' (fun _ _ => trivial), hb5.trans (h4.mono hb5.size)⟩⟩))
      have HLO := Lib.hid hlo
      clear hall hE hreadE hE40 hx hlo
      go_upto_region 13 with fail
      refine QB.out.mono ?_
      rintro e w5 ⟨rfl, hb5⟩
      have HB5 := Lib.hid hb5
      clear hb5
      have QA5 := Lib.hid (QA.out w5 HB5.out)
      clear QA
      go_upto_region 13 with fail
      refine QA5.out.mono ?_
      rintro e w6 ⟨aa, ac, rfl, HA6⟩
      go_upto_region 13 with fail
      clear f0 f1 f2 f3 f4 f5 f6 f7 f8 QB QA5 HB5
      obtain ⟨W7, hW7⟩ : ∃ W7, W7 = w6.alloc (.cells #[.int .i64 m.k, .int .i64 m.fr, .int .i64 m.dst, .int .i64 m.tm, .int .i64 m.ix, .int .i64 m.pv, .int .i64 m.cm, .bool m.yes, .slice aa k ac] 24) := ⟨_, rfl⟩
      rw [← hW7]
      have HB7 := Lib.hid (show Below wr.heap.size wr W7 from by rw [hW7]; exact HA6.out.2.trans ((below_new w6 _).mono HA6.out.2.size))
      have HXA := Lib.hid (show W7.heap[w6.heap.size]? = some (.cells #[.int .i64 m.k, .int .i64 m.fr, .int .i64 m.dst, .int .i64 m.tm, .int .i64 m.ix, .int .i64 m.pv, .int .i64 m.cm, .bool m.yes, .slice aa k ac] 24 (0, 0)) by rw [hW7]; exact box_new w6 _)
      have HSA := Lib.hid (show Src (fun _ => True) W7 aa ac k (recsV m.rs) from by rw [hW7]; exact HA6.out.1.on (below_new w6 _))
      clear hW7 HA6
      obtain ⟨b, hb⟩ : ∃ b, b = (readP s).getD zeroM := ⟨_, rfl⟩
      obtain ⟨two, htwo⟩ : ∃ t, t = (readP s).isSome := ⟨_, rfl⟩
      have HTWO := Lib.hid (show two = true → LowM b ∧ eMsg b = s from fun q => by
        cases h : readP s with
        | none => rw [htwo, h] at q; cases q
        | some y => rw [hb, h]; exact ⟨low_read h (by omega), (readP_some h).2.symm⟩)
      have HBL := Lib.hid (show b.rs.length ≤ 1000000 from by
        cases h : readP s with
        | none => rw [hb, h]; exact Nat.zero_le _
        | some y => rw [hb, h]; have := (low_read h (by omega)).2.1; show y.rs.length ≤ _; omega)
      have QP := Lib.hid ((read_c s (by omega) W7 (HGR.out.on HB7.out)).mono (R' := fun e w8 => ∃ (ba : Option Addr) (bc : Nat), e = .returned (.tuple #[.agg #[.int .i64 b.k, .int .i64 b.fr, .int .i64 b.dst, .int .i64 b.tm, .int .i64 b.ix, .int .i64 b.pv, .int .i64 b.cm, .bool b.yes, .slice ba b.rs.length bc], .bool two]) ∧ Hid (Src (fun _ => True) w8 ba bc b.rs.length (recsV b.rs) ∧ Below W7.heap.size W7 w8)) (fun e w8 hh => by
        obtain ⟨⟨pm, ba, bc⟩, h1, h2, h3, h4⟩ := hh
        rw [← hb] at h1
        rw [← htwo] at h2
        have h1 : pm = b := h1
        subst h1
        have h3 : Src (fun j => W7.heap.size ≤ j) w8 ba bc pm.rs.length (recsV pm.rs) := h3
        exact ⟨ba, bc, h2, Lib.hid ⟨h3.mono' (fun _ _ => trivial), h4⟩⟩))
      have QC := Lib.hid (fun (w9 : World) => (readQ_c s (by omega) w9).mono (R' := fun e w10 => ∃ (ca : Option Addr) (cc : Nat), e = .returned (.tuple #[.agg #[.int .i64 b.k, .int .i64 b.fr, .int .i64 b.dst, .int .i64 b.tm, .int .i64 b.ix, .int .i64 b.pv, .int .i64 b.cm, .bool b.yes, .slice ca b.rs.length cc], .bool two]) ∧ Hid (Src (fun _ => True) w10 ca cc b.rs.length (recsV b.rs) ∧ Below w9.heap.size w9 w10)) (fun e w10 hh => by
        obtain ⟨⟨pm, ca, cc⟩, h1, h2, h3, h4⟩ := hh
        rw [← readPQ, ← hb] at h1
        rw [← readPQ, ← htwo] at h2
        have h1 : pm = b := h1
        subst h1
        have h3 : Src (fun j => w9.heap.size ≤ j) w10 ca cc pm.rs.length (recsV pm.rs) := h3
        exact ⟨ca, cc, h2, Lib.hid ⟨h3.mono' (fun _ _ => trivial), h4⟩⟩))
      clear hb htwo
      obtain ⟨d, hd⟩ : ∃ d, d = (readR s).getD ⟨0, []⟩ := ⟨_, rfl⟩
      obtain ⟨four, hfour⟩ : ∃ t, t = (readR s).isSome := ⟨_, rfl⟩
      have HFOUR := Lib.hid (show four = true → LowR d ∧ eRec d = s from fun q => by
        cases h : readR s with
        | none => rw [hfour, h] at q; cases q
        | some y => rw [hd, h]; exact ⟨low_readR h (by omega), (readR_some h).2.symm⟩)
      have QD := Lib.hid (fun (w11 : World) (hb11 : Below wr.heap.size wr w11) => (readR_c s (by omega) w11 (HGR.out.on hb11)).mono (R' := fun e w12 => e = .returned (.tuple #[.agg #[.int .i64 d.t, .string ⟨d.d.toArray⟩], .bool four]) ∧ Hid (Below w11.heap.size w11 w12)) (fun e w12 hh => by
        rw [← hd, ← hfour] at hh
        exact hh))
      clear hd hfour
      go_upto_region 14 with ((with_reducible refine QP.out.mono ?_); rintro e w8 ⟨ba, bc, rfl, HP8⟩)
      obtain ⟨W9, hW9⟩ : ∃ W9, W9 = w8.alloc (.cells #[.int .i64 b.k, .int .i64 b.fr, .int .i64 b.dst, .int .i64 b.tm, .int .i64 b.ix, .int .i64 b.pv, .int .i64 b.cm, .bool b.yes, .slice ba b.rs.length bc] 24) := ⟨_, rfl⟩
      rw [← hW9]
      have HB9 := Lib.hid (show Below W7.heap.size W7 W9 from by rw [hW9]; exact HP8.out.2.trans ((below_new w8 _).mono HP8.out.2.size))
      have HXB := Lib.hid (show W9.heap[w8.heap.size]? = some (.cells #[.int .i64 b.k, .int .i64 b.fr, .int .i64 b.dst, .int .i64 b.tm, .int .i64 b.ix, .int .i64 b.pv, .int .i64 b.cm, .bool b.yes, .slice ba b.rs.length bc] 24 (0, 0)) by rw [hW9]; exact box_new w8 _)
      have HSB := Lib.hid (show Src (fun _ => True) W9 ba bc b.rs.length (recsV b.rs) from by rw [hW9]; exact HP8.out.1.on (below_new w8 _))
      clear hW9 HP8 QP
      have QC9 := Lib.hid (QC.out W9)
      clear QC
      go_upto_region 15 with ((with_reducible refine QC9.out.mono ?_); rintro e w10 ⟨ca, cc, rfl, HC10⟩)
      obtain ⟨W11, hW11⟩ : ∃ W11, W11 = w10.alloc (.cells #[.int .i64 b.k, .int .i64 b.fr, .int .i64 b.dst, .int .i64 b.tm, .int .i64 b.ix, .int .i64 b.pv, .int .i64 b.cm, .bool b.yes, .slice ca b.rs.length cc] 24) := ⟨_, rfl⟩
      rw [← hW11]
      have HB11 := Lib.hid (show Below W9.heap.size W9 W11 from by rw [hW11]; exact HC10.out.2.trans ((below_new w10 _).mono HC10.out.2.size))
      have HXC := Lib.hid (show W11.heap[w10.heap.size]? = some (.cells #[.int .i64 b.k, .int .i64 b.fr, .int .i64 b.dst, .int .i64 b.tm, .int .i64 b.ix, .int .i64 b.pv, .int .i64 b.cm, .bool b.yes, .slice ca b.rs.length cc] 24 (0, 0)) by rw [hW11]; exact box_new w10 _)
      have HSC := Lib.hid (show Src (fun _ => True) W11 ca cc b.rs.length (recsV b.rs) from by rw [hW11]; exact HC10.out.1.on (below_new w10 _))
      clear hW11 HC10 QC9
      have HB711 := Lib.hid (HB9.out.trans (HB11.out.mono HB9.out.size))
      have HBr11 := Lib.hid (HB7.out.trans (HB711.out.mono HB7.out.size))
      have QD11 := Lib.hid (QD.out W11 HBr11.out)
      clear QD
      go_upto_region 16 with ((with_reducible refine QD11.out.mono ?_); rintro e w12 ⟨rfl, HD12⟩)
      obtain ⟨V, hV⟩ : ∃ V, V = w12.alloc (.cells #[.int .i64 d.t, .string ⟨d.d.toArray⟩] 27) := ⟨_, rfl⟩
      rw [← hV]
      have HBV := Lib.hid (show Below W11.heap.size W11 V from by rw [hV]; exact HD12.out.trans ((below_new w12 _).mono HD12.out.size))
      have HXD := Lib.hid (show V.heap[w12.heap.size]? = some (.cells #[.int .i64 d.t, .string ⟨d.d.toArray⟩] 27 (0, 0)) by rw [hV]; exact box_new w12 _)
      clear hV HD12 QD11
      have HBr := Lib.hid (HBr11.out.trans (HBV.out.mono HBr11.out.size))
      have HB7V := Lib.hid (HB711.out.trans (HBV.out.mono HB711.out.size))
      have HB9V := Lib.hid (HB11.out.trans (HBV.out.mono HB11.out.size))
      have HXm := Lib.hid (box_on HX.out HBr.out)
      have HXa := Lib.hid (box_on HXA.out HB7V.out)
      have HXb := Lib.hid (box_on HXB.out HB9V.out)
      have HXc := Lib.hid (box_on HXC.out HBV.out)
      have HSm := Lib.hid (HSR.out.on HBr.out)
      have HSa := Lib.hid (HSA.out.on HB7V.out)
      have HSb := Lib.hid (HSB.out.on HB9V.out)
      have HSc := Lib.hid (HSC.out.on HBV.out)
      have HGV := Lib.hid (HGR.out.on HBr.out)
      have QS1 := Lib.hid (fun (dr : Nat) (os : Array Obj) => Calls.regrown_of (w := V) (d := dr) (os := os) (show Calls Tryz.prog 10 #[.agg #[.int .i64 m.k, .int .i64 m.fr, .int .i64 m.dst, .int .i64 m.tm, .int .i64 m.ix, .int .i64 m.pv, .int .i64 m.cm, .bool m.yes, .slice aa k ac], .agg #[.int .i64 m.k, .int .i64 m.fr, .int .i64 m.dst, .int .i64 m.tm, .int .i64 m.ix, .int .i64 m.pv, .int .i64 m.cm, .bool m.yes, .slice ma k mc]] (grow (redrawn V dr) os) fun e w' => e = .returned (.bool true) ∧ Below (grow (redrawn V dr) os).heap.size (grow (redrawn V dr) os) w' from by
        have hu := below_regrown V dr os
        have hlo := HLO.out
        have q := sameMsg_c (G := fun _ => True) (G' := fun _ => True) ⟨m, aa, ac⟩ ⟨m, ma, mc⟩ rfl (grow (redrawn V dr) os) (show Src _ _ aa ac m.rs.length (recsV m.rs) by rw [hlo]; exact HSa.out.on hu) (show Src _ _ ma mc m.rs.length (recsV m.rs) by rw [hlo]; exact HSm.out.on hu) (by show m.rs.length ≤ _; omega)
        have q : Calls Tryz.prog 10 #[.agg #[.int .i64 m.k, .int .i64 m.fr, .int .i64 m.dst, .int .i64 m.tm, .int .i64 m.ix, .int .i64 m.pv, .int .i64 m.cm, .bool m.yes, .slice aa m.rs.length ac], .agg #[.int .i64 m.k, .int .i64 m.fr, .int .i64 m.dst, .int .i64 m.tm, .int .i64 m.ix, .int .i64 m.pv, .int .i64 m.cm, .bool m.yes, .slice ma m.rs.length mc]] _ _ := q
        rw [hlo] at q
        exact q))
      have QB1 := Lib.hid (fun (dr : Nat) (os : Array Obj) => Calls.regrown_of (w := V) (d := dr) (os := os) (show Calls Tryz.prog 8 #[.agg #[.int .i64 m.k, .int .i64 m.fr, .int .i64 m.dst, .int .i64 m.tm, .int .i64 m.ix, .int .i64 m.pv, .int .i64 m.cm, .bool m.yes, .slice ma k mc]] (grow (redrawn V dr) os) fun e w' => e = .returned (.string ⟨E.toArray⟩) ∧ Below (grow (redrawn V dr) os).heap.size (grow (redrawn V dr) os) w' from by
        have hu := below_regrown V dr os
        have hlo := HLO.out
        have q := bytes_c (G := fun _ => True) ⟨m, ma, mc⟩ HLOW.out (grow (redrawn V dr) os) (HGV.out.on hu) (show Src _ _ ma mc m.rs.length (recsV m.rs) by rw [hlo]; exact HSm.out.on hu)
        rw [← HE.out] at q
        have q : Calls Tryz.prog 8 #[.agg #[.int .i64 m.k, .int .i64 m.fr, .int .i64 m.dst, .int .i64 m.tm, .int .i64 m.ix, .int .i64 m.pv, .int .i64 m.cm, .bool m.yes, .slice ma m.rs.length mc]] _ _ := q
        rw [hlo] at q
        exact q))
      have QB2 := Lib.hid (fun (dr : Nat) (os : Array Obj) => Calls.regrown_of (w := V) (d := dr) (os := os) (show Calls Tryz.prog 11 #[.agg #[.int .i64 m.k, .int .i64 m.fr, .int .i64 m.dst, .int .i64 m.tm, .int .i64 m.ix, .int .i64 m.pv, .int .i64 m.cm, .bool m.yes, .slice ma k mc]] (grow (redrawn V dr) os) fun e w' => e = .returned (.string ⟨E.toArray⟩) ∧ Below (grow (redrawn V dr) os).heap.size (grow (redrawn V dr) os) w' from by
        have hu := below_regrown V dr os
        have hlo := HLO.out
        have q := bytesQ_c (G := fun _ => True) ⟨m, ma, mc⟩ HLOW.out (grow (redrawn V dr) os) (show Src _ _ ma mc m.rs.length (recsV m.rs) by rw [hlo]; exact HSm.out.on hu)
        rw [← HE.out] at q
        have q : Calls Tryz.prog 11 #[.agg #[.int .i64 m.k, .int .i64 m.fr, .int .i64 m.dst, .int .i64 m.tm, .int .i64 m.ix, .int .i64 m.pv, .int .i64 m.cm, .bool m.yes, .slice ma m.rs.length mc]] _ _ := q
        rw [hlo] at q
        exact q))
      have QS2 := Lib.hid (fun (dr : Nat) (os : Array Obj) => Calls.regrown_of (w := V) (d := dr) (os := os) (show Calls Tryz.prog 10 #[.agg #[.int .i64 b.k, .int .i64 b.fr, .int .i64 b.dst, .int .i64 b.tm, .int .i64 b.ix, .int .i64 b.pv, .int .i64 b.cm, .bool b.yes, .slice ba b.rs.length bc], .agg #[.int .i64 b.k, .int .i64 b.fr, .int .i64 b.dst, .int .i64 b.tm, .int .i64 b.ix, .int .i64 b.pv, .int .i64 b.cm, .bool b.yes, .slice ca b.rs.length cc]] (grow (redrawn V dr) os) fun e w' => e = .returned (.bool true) ∧ Below (grow (redrawn V dr) os).heap.size (grow (redrawn V dr) os) w' from
        sameMsg_c (G := fun _ => True) (G' := fun _ => True) ⟨b, ba, bc⟩ ⟨b, ca, cc⟩ rfl (grow (redrawn V dr) os) (HSb.out.on (below_regrown V dr os)) (HSc.out.on (below_regrown V dr os)) HBL.out))
      have f0 := cell_regrown (show V.cell? ⟨W.heap.size, 0, none⟩ = some (.int .i64 m.k) by rw [Lib.cell_of_heap HXm.out]; rfl)
      have f1 := cell_regrown (show V.cell? ⟨W.heap.size, 1, none⟩ = some (.int .i64 m.fr) by rw [Lib.cell_of_heap HXm.out]; rfl)
      have f2 := cell_regrown (show V.cell? ⟨W.heap.size, 2, none⟩ = some (.int .i64 m.dst) by rw [Lib.cell_of_heap HXm.out]; rfl)
      have f3 := cell_regrown (show V.cell? ⟨W.heap.size, 3, none⟩ = some (.int .i64 m.tm) by rw [Lib.cell_of_heap HXm.out]; rfl)
      have f4 := cell_regrown (show V.cell? ⟨W.heap.size, 4, none⟩ = some (.int .i64 m.ix) by rw [Lib.cell_of_heap HXm.out]; rfl)
      have f5 := cell_regrown (show V.cell? ⟨W.heap.size, 5, none⟩ = some (.int .i64 m.pv) by rw [Lib.cell_of_heap HXm.out]; rfl)
      have f6 := cell_regrown (show V.cell? ⟨W.heap.size, 6, none⟩ = some (.int .i64 m.cm) by rw [Lib.cell_of_heap HXm.out]; rfl)
      have f7 := cell_regrown (show V.cell? ⟨W.heap.size, 7, none⟩ = some (.bool m.yes) by rw [Lib.cell_of_heap HXm.out]; rfl)
      have f8 := cell_regrown (show V.cell? ⟨W.heap.size, 8, none⟩ = some (.slice ma k mc) by rw [Lib.cell_of_heap HXm.out]; rfl)
      have a0 := cell_regrown (show V.cell? ⟨w6.heap.size, 0, none⟩ = some (.int .i64 m.k) by rw [Lib.cell_of_heap HXa.out]; rfl)
      have a1 := cell_regrown (show V.cell? ⟨w6.heap.size, 1, none⟩ = some (.int .i64 m.fr) by rw [Lib.cell_of_heap HXa.out]; rfl)
      have a2 := cell_regrown (show V.cell? ⟨w6.heap.size, 2, none⟩ = some (.int .i64 m.dst) by rw [Lib.cell_of_heap HXa.out]; rfl)
      have a3 := cell_regrown (show V.cell? ⟨w6.heap.size, 3, none⟩ = some (.int .i64 m.tm) by rw [Lib.cell_of_heap HXa.out]; rfl)
      have a4 := cell_regrown (show V.cell? ⟨w6.heap.size, 4, none⟩ = some (.int .i64 m.ix) by rw [Lib.cell_of_heap HXa.out]; rfl)
      have a5 := cell_regrown (show V.cell? ⟨w6.heap.size, 5, none⟩ = some (.int .i64 m.pv) by rw [Lib.cell_of_heap HXa.out]; rfl)
      have a6 := cell_regrown (show V.cell? ⟨w6.heap.size, 6, none⟩ = some (.int .i64 m.cm) by rw [Lib.cell_of_heap HXa.out]; rfl)
      have a7 := cell_regrown (show V.cell? ⟨w6.heap.size, 7, none⟩ = some (.bool m.yes) by rw [Lib.cell_of_heap HXa.out]; rfl)
      have a8 := cell_regrown (show V.cell? ⟨w6.heap.size, 8, none⟩ = some (.slice aa k ac) by rw [Lib.cell_of_heap HXa.out]; rfl)
      have b0 := cell_regrown (show V.cell? ⟨w8.heap.size, 0, none⟩ = some (.int .i64 b.k) by rw [Lib.cell_of_heap HXb.out]; rfl)
      have b1 := cell_regrown (show V.cell? ⟨w8.heap.size, 1, none⟩ = some (.int .i64 b.fr) by rw [Lib.cell_of_heap HXb.out]; rfl)
      have b2 := cell_regrown (show V.cell? ⟨w8.heap.size, 2, none⟩ = some (.int .i64 b.dst) by rw [Lib.cell_of_heap HXb.out]; rfl)
      have b3 := cell_regrown (show V.cell? ⟨w8.heap.size, 3, none⟩ = some (.int .i64 b.tm) by rw [Lib.cell_of_heap HXb.out]; rfl)
      have b4 := cell_regrown (show V.cell? ⟨w8.heap.size, 4, none⟩ = some (.int .i64 b.ix) by rw [Lib.cell_of_heap HXb.out]; rfl)
      have b5 := cell_regrown (show V.cell? ⟨w8.heap.size, 5, none⟩ = some (.int .i64 b.pv) by rw [Lib.cell_of_heap HXb.out]; rfl)
      have b6 := cell_regrown (show V.cell? ⟨w8.heap.size, 6, none⟩ = some (.int .i64 b.cm) by rw [Lib.cell_of_heap HXb.out]; rfl)
      have b7 := cell_regrown (show V.cell? ⟨w8.heap.size, 7, none⟩ = some (.bool b.yes) by rw [Lib.cell_of_heap HXb.out]; rfl)
      have b8 := cell_regrown (show V.cell? ⟨w8.heap.size, 8, none⟩ = some (.slice ba b.rs.length bc) by rw [Lib.cell_of_heap HXb.out]; rfl)
      have c0 := cell_regrown (show V.cell? ⟨w10.heap.size, 0, none⟩ = some (.int .i64 b.k) by rw [Lib.cell_of_heap HXc.out]; rfl)
      have c1 := cell_regrown (show V.cell? ⟨w10.heap.size, 1, none⟩ = some (.int .i64 b.fr) by rw [Lib.cell_of_heap HXc.out]; rfl)
      have c2 := cell_regrown (show V.cell? ⟨w10.heap.size, 2, none⟩ = some (.int .i64 b.dst) by rw [Lib.cell_of_heap HXc.out]; rfl)
      have c3 := cell_regrown (show V.cell? ⟨w10.heap.size, 3, none⟩ = some (.int .i64 b.tm) by rw [Lib.cell_of_heap HXc.out]; rfl)
      have c4 := cell_regrown (show V.cell? ⟨w10.heap.size, 4, none⟩ = some (.int .i64 b.ix) by rw [Lib.cell_of_heap HXc.out]; rfl)
      have c5 := cell_regrown (show V.cell? ⟨w10.heap.size, 5, none⟩ = some (.int .i64 b.pv) by rw [Lib.cell_of_heap HXc.out]; rfl)
      have c6 := cell_regrown (show V.cell? ⟨w10.heap.size, 6, none⟩ = some (.int .i64 b.cm) by rw [Lib.cell_of_heap HXc.out]; rfl)
      have c7 := cell_regrown (show V.cell? ⟨w10.heap.size, 7, none⟩ = some (.bool b.yes) by rw [Lib.cell_of_heap HXc.out]; rfl)
      have c8 := cell_regrown (show V.cell? ⟨w10.heap.size, 8, none⟩ = some (.slice ca b.rs.length cc) by rw [Lib.cell_of_heap HXc.out]; rfl)
      clear HXA HXB HXC HSA HSB HSC HB711 HBr11 HB7V HB9V HBV HB9 HB11 HB7 HSR HX
      have hEE : (E == E) = true := by simp
      have htt : (two == two) = true := by simp
      refine wp_region_quiet_below (by kernel_rfl) (by kernel_rfl) ?_
      repeat (go_big_quiet_step (first | (with_reducible exact QS1.out _ _) | (with_reducible exact QS2.out _ _) | (with_reducible exact QB1.out _ _) | (with_reducible exact QB2.out _ _)))
      refine wpQuiet_nil ?_
      intro _ hw
      obtain ⟨⟨dq, osq⟩, hw⟩ := hw
      subst hw
      obtain ⟨U, hU⟩ : ∃ U, U = grow (redrawn V dq) osq := ⟨_, rfl⟩
      have HBU := Lib.hid (show Below V.heap.size V U from by rw [hU]; exact below_regrown V dq osq)
      rw [← hU]
      clear hU f0 f1 f2 f3 f4 f5 f6 f7 f8 a0 a1 a2 a3 a4 a5 a6 a7 a8 b0 b1 b2 b3 b4 b5 b6 b7 b8 c0 c1 c2 c3 c4 c5 c6 c7 c8 QS1 QS2 QB1 QB2
      have HWU := Lib.hid (HBR.out.trans ((HBr.out.trans (HBU.out.mono HBr.out.size)).mono HBR.out.size))
      have b0 := show U.cell? ⟨w8.heap.size, 0, none⟩ = some (.int .i64 b.k) from by rw [Lib.cell_of_heap (box_on HXb.out HBU.out)]; rfl
      have b1 := show U.cell? ⟨w8.heap.size, 1, none⟩ = some (.int .i64 b.fr) from by rw [Lib.cell_of_heap (box_on HXb.out HBU.out)]; rfl
      have b2 := show U.cell? ⟨w8.heap.size, 2, none⟩ = some (.int .i64 b.dst) from by rw [Lib.cell_of_heap (box_on HXb.out HBU.out)]; rfl
      have b3 := show U.cell? ⟨w8.heap.size, 3, none⟩ = some (.int .i64 b.tm) from by rw [Lib.cell_of_heap (box_on HXb.out HBU.out)]; rfl
      have b4 := show U.cell? ⟨w8.heap.size, 4, none⟩ = some (.int .i64 b.ix) from by rw [Lib.cell_of_heap (box_on HXb.out HBU.out)]; rfl
      have b5 := show U.cell? ⟨w8.heap.size, 5, none⟩ = some (.int .i64 b.pv) from by rw [Lib.cell_of_heap (box_on HXb.out HBU.out)]; rfl
      have b6 := show U.cell? ⟨w8.heap.size, 6, none⟩ = some (.int .i64 b.cm) from by rw [Lib.cell_of_heap (box_on HXb.out HBU.out)]; rfl
      have b7 := show U.cell? ⟨w8.heap.size, 7, none⟩ = some (.bool b.yes) from by rw [Lib.cell_of_heap (box_on HXb.out HBU.out)]; rfl
      have b8 := show U.cell? ⟨w8.heap.size, 8, none⟩ = some (.slice ba b.rs.length bc) from by rw [Lib.cell_of_heap (box_on HXb.out HBU.out)]; rfl
      have hxd := box_on HXD.out HBU.out
      have d0 : U.cell? ⟨w12.heap.size, 0, none⟩ = some (.int .i64 d.t) := by rw [Lib.cell_of_heap hxd]; rfl
      have d1 : U.cell? ⟨w12.heap.size, 1, none⟩ = some (.string ⟨d.d.toArray⟩) := by rw [Lib.cell_of_heap hxd]; rfl
      have HXd := Lib.hid hxd
      clear hxd
      have hss : (s == s) = true := by simp
      have HGU := Lib.hid (HGV.out.on HBU.out)
      have QBb := Lib.hid (fun (q : two = true) => (show Calls Tryz.prog 8 #[.agg #[.int .i64 b.k, .int .i64 b.fr, .int .i64 b.dst, .int .i64 b.tm, .int .i64 b.ix, .int .i64 b.pv, .int .i64 b.cm, .bool b.yes, .slice ba b.rs.length bc]] U fun e w' => e = .returned (.string ⟨s.toArray⟩) ∧ (w'.cell? ⟨w12.heap.size, 0, none⟩ = some (.int .i64 d.t) ∧ w'.cell? ⟨w12.heap.size, 1, none⟩ = some (.string ⟨d.d.toArray⟩)) ∧ Hid (Below U.heap.size U w') from
        (bytes_c (G := fun _ => True) ⟨b, ba, bc⟩ (HTWO.out q).1 U HGU.out (HSb.out.on HBU.out)).mono (fun e w' hh => by
          have h1 : e = .returned (.string ⟨(eMsg b).toArray⟩) := hh.1
          rw [(HTWO.out q).2] at h1
          have hx := box_on HXd.out hh.2
          exact ⟨h1, ⟨by rw [Lib.cell_of_heap hx]; rfl, by rw [Lib.cell_of_heap hx]; rfl⟩, Lib.hid hh.2⟩)))
      have QBd := Lib.hid (fun (q : four = true) (w' : World) (hb : Below U.heap.size U w') => (show Calls Tryz.prog 6 #[.agg #[.int .i64 d.t, .string ⟨d.d.toArray⟩]] w' fun e w2 => e = .returned (.string ⟨s.toArray⟩) ∧ Hid (Below U.heap.size U w2) from
        (recBytes_c d (HFOUR.out q).1 w' (HGU.out.on hb)).mono (fun e w2 hh => by
          have h1 := hh.1
          rw [(HFOUR.out q).2] at h1
          exact ⟨h1, Lib.hid (hb.trans (hh.2.mono hb.size))⟩)))
      clear HGR HGV HXm HXa HXb HXc HSm HSa HSb HSc HBL
      cases two with
      | false =>
        cases four with
        | false =>
          go_wp2_with fail
          go_ret
          exact ⟨rfl, HWU.out⟩
        | true =>
          have QD2 := Lib.hid (QBd.out rfl U (Below.refl _ _))
          go_wp2_with ((with_reducible refine QD2.out.mono ?_); rintro e wd ⟨rfl, HBd⟩)
          go_ret
          exact ⟨rfl, HWU.out.trans (HBd.out.mono HWU.out.size)⟩
      | true =>
        have QB2 := Lib.hid (QBb.out rfl)
        cases four with
        | false =>
          go_wp2_with ((with_reducible refine QB2.out.mono ?_); rintro e wb ⟨rfl, _, HBb⟩)
          go_ret
          exact ⟨rfl, HWU.out.trans (HBb.out.mono HWU.out.size)⟩
        | true =>
          go_wp2_with (first | ((with_reducible refine QB2.out.mono ?_); clear d0 d1; rintro e wb ⟨rfl, ⟨d0, d1⟩, HBb⟩; have QD2 := Lib.hid (QBd.out rfl wb HBb.out)) | ((with_reducible refine QD2.out.mono ?_); rintro e wd ⟨rfl, HBd⟩))
          go_ret
          exact ⟨rfl, HWU.out.trans (HBd.out.mono HWU.out.size)⟩
end Go.Proofs.YtkmojcpiadpbaaaGreatDoor
