/-
  journal: Append is what the model says.
-/
import Derived.Test.YtljgfnglknpfaaaGreatDoorJStep
namespace Go.Proofs.YtljgfnglknpfaaaGreatDoor
set_option maxRecDepth 100000
open Go Go.RowKit Go.Maps Dk

theorem grow_after {w0 w1 w2 : World} {d b cb : Nat} {f : Int} {X : D} {lv v' : Value} {j : Jn.J} {F : Nat → Prop} {l' : List (List UInt8)} {n : Int} (h : JF' w0 w1 d b cb f X lv j F) (h2 : w2.ownsRow w0.heap.size 9 1 v' l'.length (strsV l')) (hg : w1.grownBy w2 lv.ownBlock) (h4 : v'.ownBlock = lv.ownBlock ∨ v'.ownBlock = some w1.heap.size ∨ v'.ownBlock = none) (hn : n = ((Jn.form l').length : Int)) :
    JF' w0 ((w2.setCell ⟨b, 3, none⟩ v').setCell ⟨b, 4, none⟩ (.int .i64 n)) d b cb f X v' ⟨j.c, l', j.bad⟩ F ∧ Held F w1 ((w2.setCell ⟨b, 3, none⟩ v').setCell ⟨b, 4, none⟩ (.int .i64 n)) := by
  subst hn
  have hbl := h.jb.lt
  have hk0 : Kept (fun k => lv.ownBlock = some k) w1 w2 := Kept.grown hg (fun _ e => e)
  have hks : Kept (fun k => k = b) w2 ((w2.setCell ⟨b, 3, none⟩ v').setCell ⟨b, 4, none⟩ (.int .i64 ((Jn.form l').length : Int))) := (Kept.set b 3 w2 v').trans (Kept.set b 4 _ _) (fun _ _ e => e)
  have hk : Kept (fun k => lv.ownBlock = some k ∨ k = b) w1 ((w2.setCell ⟨b, 3, none⟩ v').setCell ⟨b, 4, none⟩ (.int .i64 ((Jn.form l').length : Int))) := (hk0.mono (fun _ _ e => Or.inl e)).trans hks (fun _ _ e => Or.inr e)
  have hF : ∀ k, F k → k < w1.heap.size := fun k e => by
    obtain ⟨S, _, _, _, _, _, _, h7⟩ := h.cf
    exact (h7 k (Or.inl e)).2.2
  have hvb : v'.ownBlock ≠ some b := fun e => by
    rcases h4 with h4 | h4 | h4
    · exact h.jb.apart (by rw [← h4, e])
    · rw [h4] at e; injection e with e; omega
    · rw [h4] at e; cases e
  have hvk : ∀ k, v'.ownBlock = some k → lv.ownBlock = some k ∨ w1.heap.size ≤ k := fun k e => by
    rcases h4 with h4 | h4 | h4
    · exact Or.inl (by rw [← h4, e])
    · rw [h4] at e; injection e with e; exact Or.inr (by omega)
    · rw [h4] at e; cases e
  refine ⟨⟨h.cf.turn hk (fun k _ e => e.elim (fun e => Or.inr (Or.inr e)) (fun e => Or.inr (Or.inl e))) (fun k e => e.elim (fun e => (h.jb.own.lt k e).1) (fun e => e ▸ h.jb.low)) (fun k e => ?_), ⟨?_, own_kept h2 hks (fun k e e' => hvb (by rw [e, e'])), h.jb.low, hvb⟩, fun k e => ⟨(h.out k e).1, fun e' => ?_⟩⟩, hk.mono (fun k _ e e' => e.elim (fun e => (h.out k e').2 e) (fun e => (h.out k e').1 e))⟩
  · rcases e with e | e | e
    · exact Or.inl (Or.inl e)
    · exact Or.inl (Or.inr (Or.inl e))
    · rcases hvk k e with e' | e'
      · exact Or.inl (Or.inr (Or.inr e'))
      · exact Or.inr ⟨e', by have := (h2.lt k e).2; simpa [World.setCell] using this⟩
  · exact cells6_set (cells6_set (hk0.heap h.jb.blk h.jb.apart) 3 v' (by omega)) 4 _ (by omega)
  · rcases hvk k e' with e'' | e''
    · exact (h.out k e).2 e''
    · have := hF k e; omega

/-! ### The model in steps -/
theorem append_steps {X : D} {f : Int} {j : Jn.J} {s : List (List UInt8)} (hb : j.bad = false) (hs : s ≠ []) (hl : ¬ 1048576 < (Jn.form (j.l ++ s)).length) :
    ((writeJ X f j (Jn.form s)).2.2 ≠ 0 → Jn.appendJ X f j s = writeJ X f j (Jn.form s)) ∧
    ((writeJ X f j (Jn.form s)).2.2 = 0 → (writeJ X f j (Jn.form s)).2.1 = j ∧ Jn.appendJ X f j s = Jn.noteJ (writeJ X f j (Jn.form s)).1 f j (j.l ++ s)) := by
  obtain ⟨a, ha⟩ : ∃ a, X.write f ((Jn.form j.l).length : Nat) (Jn.form s) = a := ⟨_, rfl⟩
  obtain ⟨z, hz⟩ : ∃ z, a.1.sync f = z := ⟨_, rfl⟩
  have hA : Jn.appendJ X f j s = if a.2 ≠ 0 then (a.1, ⟨j.c, j.l, true⟩, a.2) else if z.2 ≠ 0 then (z.1, ⟨j.c, j.l, true⟩, z.2) else Jn.noteJ z.1 f j (j.l ++ s) := by
    unfold Jn.appendJ
    rw [hb, if_neg (by simp), if_neg hs, if_neg hl]
    dsimp only
    rw [ha, hz]
  have hW : writeJ X f j (Jn.form s) = if a.2 ≠ 0 then (a.1, ⟨j.c, j.l, true⟩, a.2) else (z.1, ⟨j.c, j.l, z.2 != 0⟩, z.2) := by
    unfold writeJ
    dsimp only
    rw [ha, hz]
  rw [hA, hW]
  clear hA hW ha hz
  obtain ⟨Z1, r1⟩ := a
  obtain ⟨Z2, r2⟩ := z
  dsimp only
  by_cases h1 : r1 = 0
  · subst h1
    by_cases h2 : r2 = 0
    · subst h2
      refine ⟨fun h => absurd rfl h, fun _ => ⟨?_, rfl⟩⟩
      obtain ⟨c, l, bad⟩ := j
      dsimp only at hb ⊢
      rw [hb]
      rfl
    · have hb2 : (r2 != 0) = true := by simpa using h2
      rw [if_neg (fun h => h rfl), if_pos h2, if_neg (fun h => h rfl), hb2]
      exact ⟨fun _ => rfl, fun h => absurd h h2⟩
  · rw [if_pos h1, if_pos h1]
    exact ⟨fun _ => rfl, fun h => absurd h h1⟩
theorem note_steps {X : D} {f : Int} {j : Jn.J} {l : List (List UInt8)} :
    ((putJ X f j (Jn.note l)).2.2 ≠ 0 → Jn.noteJ X f j l = putJ X f j (Jn.note l)) ∧
    ((putJ X f j (Jn.note l)).2.2 = 0 → Jn.noteJ X f j l = ((putJ X f j (Jn.note l)).1, ⟨(putJ X f j (Jn.note l)).2.1.c, l, false⟩, 0) ∧ (putJ X f j (Jn.note l)).2.1 = ⟨(putJ X f j (Jn.note l)).2.1.c, j.l, false⟩) := by
  unfold Jn.noteJ putJ
  dsimp only
  by_cases h : (Ck.setM X (f + 1) j.c (Jn.note l)).2.2 ≠ 0
  · rw [if_pos h]
    exact ⟨fun _ => by simp [h], fun h' => absurd h' h⟩
  · rw [if_neg h]
    have h0 : (Ck.setM X (f + 1) j.c (Jn.note l)).2.2 = 0 := Decidable.not_not.1 h
    exact ⟨fun h' => absurd h' h, fun _ => ⟨rfl, by rw [h0]; rfl⟩⟩

/-- 'append(j.list, l...)' -/
theorem append_run {w0 w1 : World} {d b cb : Nat} {f : Int} {X : D} {la : Option Addr} {ln lc : Nat} {j : Jn.J} {F : Nat → Prop} (h : JF' w0 w1 d b cb f X (.slice la ln lc) j F) {va : Option Addr} {vc : Nat} {s : List (List UInt8)} (hv : SrcV w1 1 (.slice va s.length vc) s.length (strsV s)) (hlen : j.l.length + s.length ≤ 1048576) :
    ∃ v' w2, (Builtin.append_ #[32, 32] 32 #[.slice la ln lc, .slice va s.length vc]).run Tryz.prog w1 = .ok v' w2 ∧ w2.ownsRow w0.heap.size 9 1 v' (j.l ++ s).length (strsV (j.l ++ s)) ∧ w1.grownBy w2 (Value.slice la ln lc).ownBlock ∧ (v'.ownBlock = (Value.slice la ln lc).ownBlock ∨ v'.ownBlock = some w1.heap.size) := by
  obtain ⟨i0, hi, hz0, hz1, hz2⟩ := info_parts infoStr5
  obtain ⟨a', c', h1, h2, h3, h4⟩ := hv
  injection h1 with e1 e2 e3
  subst e1 e3
  obtain ⟨v', w2, r1, r2, r3, r4⟩ := run_append_any_own (P := Tryz.prog) w1 w0.heap.size 32 32 9 i0 (.string ⟨#[]⟩) 1 16 Tryz.underlying32 hi hz0 hz1 hz2 rfl (by decide) (.slice la ln lc) j.l.length (strsV j.l) h.jb.own
    va s.length vc (strsV s) h2 (fun h0 => by
      cases va with
      | none => have := h3 rfl; omega
      | some ad => exact ⟨ad, rfl, h4 ad rfl⟩) (strsV_one s) (by unfold maxLen; omega) (by omega) h.base.size
  refine ⟨v', w2, r1, ?_, r3, r4⟩
  have : strsV (j.l ++ s) = strsV j.l ++ strsV s := by simp [strsV]
  rw [this, List.length_append]
  exact r2

set_option maxHeartbeats 2000000 in
theorem jappend_c {w0 w : World} {d b : Nat} {f : Int} {X : D} {j : Jn.J} {F : Nat → Prop} (ht : Tab w0) (hg : Good w0) (h : JF w0 w d b f X j F) (hf : 0 ≤ f ∧ f ≤ 14) (hj : j.bad = false → (Jn.form j.l).length ≤ 1048576) (v : Value) (s : List (List UInt8)) (ha : ArgIn w0 w F v s) (hx : ∀ x ∈ s, x.length ≤ 1000000000) (hsl : s.length ≤ 9223372036854775807) :
    Calls Tryz.prog 12 #[.pointer (some ⟨b, 0, none⟩), v] w fun e w' => e = .returned (.int .i64 (Jn.appendJ X f j s).2.2) ∧ Hid (JF w0 w' d b f (Jn.appendJ X f j s).1 (Jn.appendJ X f j s).2.1 F ∧ Held F w w') := by
  obtain ⟨cb, lv, hJ⟩ := h
  obtain ⟨va, vc, rfl, _⟩ := ha.src
  have k5 := hJ.jb.c5
  cases hb : j.bad with
  | true =>
    have hA : Jn.appendJ X f j s = (X, j, 7) := by unfold Jn.appendJ; rw [if_pos hb]
    rw [hb] at k5
    rw [hA]
    have H := Lib.hid hJ
    clear hJ ha hA hb hj
    go_enter Tryz.func12, Tryz.ntmps12
    go_wp2_with fail
    go_ret
    exact ⟨rfl, ⟨cb, lv, H.out⟩, Held.refl _ _⟩
  | false =>
    have hjl := hj hb
    rw [hb] at k5
    by_cases hs : s = []
    · have hA : Jn.appendJ X f j s = (X, j, 0) := by unfold Jn.appendJ; rw [hb, if_neg (by simp), if_pos hs]
      rw [hA, hs]
      have H := Lib.hid hJ
      clear hJ ha hA hb hj hs hx
      go_enter Tryz.func12, Tryz.ntmps12
      go_wp2_with fail
      go_ret
      exact ⟨rfl, ⟨cb, lv, H.out⟩, Held.refl _ _⟩
    · have k4 := hJ.jb.c4
      have k3 := hJ.jb.c3
      obtain ⟨la, lc, rfl, _, hlcm, _⟩ := own_shape (own_base hJ.jb.own)
      obtain ⟨L, hL⟩ : ∃ L, L = (Jn.form j.l).length := ⟨_, rfl⟩
      rw [← hL] at k4 hjl
      have hs0 : ((s.length : Int) == 0) = false := by
        have := List.length_pos_iff.2 hs
        simp; omega
      have qf := jform_c s va vc (1048576 - L) (by omega) hx hsl w (hg.on hJ.base) ha.src
      rw [show ((1048576 - L : Nat) : Int) = 1048576 - (L : Int) by omega] at qf
      have hfa : (Jn.form (j.l ++ s)).length = L + (Jn.form s).length := by rw [Jn.form_append, List.length_append, hL]
      by_cases hbig : 1048576 < (Jn.form (j.l ++ s)).length
      · have hA : Jn.appendJ X f j s = (X, j, 6) := by unfold Jn.appendJ; rw [hb, if_neg (by simp), if_neg hs, if_pos hbig]
        rw [if_neg (show ¬ (Jn.form s).length ≤ 1048576 - L by omega)] at qf
        rw [hA]
        have H := Lib.hid hJ
        have QF := Lib.hid qf
        clear hJ ha hA hb hj hx qf hbig hfa hs hL
        go_enter Tryz.func12, Tryz.ntmps12
        go_wp2_with fail
        refine QF.out.mono ?_
        rintro e w1 ⟨rfl, hb1⟩
        go_wp2_with fail
        go_ret
        exact ⟨rfl, ⟨cb, _, H.out.below hb1 (fun _ e => Or.inl e)⟩, Held.below hb1⟩
      · rw [if_pos (show (Jn.form s).length ≤ 1048576 - L by omega)] at qf
        obtain ⟨hst1, hst2⟩ := append_steps (X := X) (f := f) (j := j) (s := s) hb hs hbig
        have hsn := (Jn.form_len s).1
        have hln := (Jn.form_len j.l).1
        obtain ⟨S, hS⟩ : ∃ S, S = (Jn.form s).length := ⟨_, rfl⟩
        have hLS : L + S ≤ 1048576 := by omega
        have hnm : j.l.length + s.length ≤ 1048576 := by omega
        have qw := fun w1 (hp : JF' w0 w1 d b cb f X (.slice la j.l.length lc) j F) => jwrite_c hp hf (Jn.form s) (by omega) (by rw [← hL]; exact hjl)
        obtain ⟨Y, hY⟩ : ∃ Y, Y = writeJ X f j (Jn.form s) := ⟨_, rfl⟩
        rw [← hY] at hst1 hst2 qw
        obtain ⟨Z, j', r⟩ := Y
        dsimp only at hst1 hst2 qw
        have QF := Lib.hid qf
        have QW := Lib.hid qw
        have H := Lib.hid hJ
        have HA := Lib.hid ha
        have HFA := Lib.hid hfa
        have HL := Lib.hid hL
        have HSS := Lib.hid hS
        by_cases hr : r = 0
        · subst hr
          obtain ⟨rfl, hap⟩ := hst2 rfl
          rw [hap]
          obtain ⟨hn1, hn2⟩ := note_steps (X := Z) (f := f) (j := j') (l := j'.l ++ s)
          have qn := fun w1 w2 (hp : JP w0 w1 d b cb f (.slice la j'.l.length lc) F Z j' w2) => jnote_c ht hg hp.at' hf ((L : Int) + (S : Int)) ((j'.l.length : Int) + (s.length : Int)) (by unfold Wire.InR; omega) (by unfold Wire.InR; omega)
          have hnote : Wire.eInt ((L : Int) + (S : Int)) ++ Wire.eInt ((j'.l.length : Int) + (s.length : Int)) = Jn.note (j'.l ++ s) := by
            unfold Jn.note
            rw [hfa, ← hS, List.length_append]
            congr 1
          rw [hnote] at qn
          obtain ⟨Y2, hY2⟩ : ∃ Y2, Y2 = putJ Z f j' (Jn.note (j'.l ++ s)) := ⟨_, rfl⟩
          rw [← hY2] at hn1 hn2 qn
          obtain ⟨Z2, j2, r2⟩ := Y2
          dsimp only at hn1 hn2 qn
          have QN := Lib.hid qn
          clear qf qw qn hJ ha hst1 hst2 hap hnote hY hY2 hfa hx hj hbig hL hS hs hsn hln
          by_cases hr2 : r2 = 0
          · subst hr2
            obtain ⟨hn3, hn4⟩ := hn2 rfl
            rw [hn3]
            have HJ2 := Lib.hid hn4
            clear hn1 hn2 hn3 hn4
            go_enter Tryz.func12, Tryz.ntmps12
            go_wp2_with fail
            refine QF.out.mono ?_
            rintro e w1 ⟨rfl, hb1⟩
            have h1 := Lib.hid (H.out.below hb1 (G := F) (fun _ e => Or.inl e))
            have HB1 := Lib.hid hb1
            clear hb1
            go_wp2_with fail
            refine (QW.out _ h1.out).mono ?_
            rintro e w2 ⟨rfl, hp2⟩
            have i3 := hp2.out.c3
            have i4 := hp2.out.c4
            rw [← HL.out] at i4
            have hsz : (Jn.form s).length = S := HSS.out.symm
            go_wp2_with fail
            refine (QN.out _ _ hp2.out).mono ?_
            rintro e w3 ⟨rfl, hp3⟩
            have i3' := hp3.out.c3
            have hk3 : Held F w w3 := (Held.below HB1.out).trans (hp2.out.kept.trans hp3.out.kept)
            obtain ⟨v', w4, hrun, hown4, hgr4, hob4⟩ := append_run hp3.out.at' (HA.out.on H.out.base hp3.out.at'.base hk3).src (by rw [HJ2.out]; dsimp only; omega)
            have hgrow := grow_after hp3.out.at' hown4 hgr4 (hob4.imp id Or.inl) (n := (L : Int) + (S : Int)) (by rw [HJ2.out]; dsimp only; rw [HFA.out, ← HSS.out]; omega)
            obtain ⟨na, nc, hv', _, _, _⟩ := own_shape (own_base hown4)
            obtain ⟨N, hN⟩ : ∃ N, N = (j2.l ++ s).length := ⟨_, rfl⟩
            rw [← hN] at hv'
            clear hN
            subst hv'
            rw [HJ2.out] at hown4 hgrow
            dsimp only at hown4 hgrow
            have HG := Lib.hid hgrow
            have HR := Lib.hid hrun
            have HK3 := Lib.hid hk3
            have hbk := (Kept.grown (S := fun k => (Value.slice la j'.l.length lc).ownBlock = some k) hgr4 (fun _ e => e)).heap hp3.out.at'.jb.blk hp3.out.at'.jb.apart
            have y3 : w4.frozen? ⟨b, 3, none⟩ = false := Lib.frozen_of_heap hbk 3
            have y4 : w4.frozen? ⟨b, 4, none⟩ = false := Lib.frozen_of_heap hbk 4
            have x3 : w4.cell? ⟨b, 3, none⟩ = some (.slice la j'.l.length lc) := by rw [Lib.cell_of_heap hbk]; rfl
            have x4 : w4.cell? ⟨b, 4, none⟩ = some (.int .i64 ((Jn.form j2.l).length : Int)) := by rw [Lib.cell_of_heap hbk]; rfl
            clear hbk
            clear hgrow hrun hown4 hgr4 hob4 hk3
            go_wp2_with (at_builtin; refine Lib.wpList_append_run _ rfl _ _ _ _ rfl _ _ rfl rfl _ w4 HR.out ?_)
            go_ret
            exact ⟨rfl, ⟨cb, _, HG.out.1⟩, HK3.out.trans HG.out.2⟩
          · have hrb : (r2 != 0) = true := by simpa using hr2
            rw [hn1 hr2]
            clear hn1 hn2 hr2
            go_enter Tryz.func12, Tryz.ntmps12
            go_wp2_with fail
            refine QF.out.mono ?_
            rintro e w1 ⟨rfl, hb1⟩
            have h1 := Lib.hid (H.out.below hb1 (G := F) (fun _ e => Or.inl e))
            have HB1 := Lib.hid hb1
            clear hb1
            go_wp2_with fail
            refine (QW.out _ h1.out).mono ?_
            rintro e w2 ⟨rfl, hp2⟩
            have i3 := hp2.out.c3
            have i4 := hp2.out.c4
            rw [← HL.out] at i4
            have hsz : (Jn.form s).length = S := HSS.out.symm
            go_wp2_with fail
            refine (QN.out _ _ hp2.out).mono ?_
            rintro e w3 ⟨rfl, hp3⟩
            go_wp2_with fail
            go_ret
            exact ⟨rfl, ⟨cb, _, hp3.out.at'⟩, (Held.below HB1.out).trans (hp2.out.kept.trans hp3.out.kept)⟩
        · have hrb : (r != 0) = true := by simpa using hr
          rw [hst1 hr]
          clear qf qw hJ ha hst1 hst2 hr hY hfa hx hj hbig hL hS hs
          go_enter Tryz.func12, Tryz.ntmps12
          go_wp2_with fail
          refine QF.out.mono ?_
          rintro e w1 ⟨rfl, hb1⟩
          have h1 := Lib.hid (H.out.below hb1 (G := F) (fun _ e => Or.inl e))
          have HB1 := Lib.hid hb1
          clear hb1
          go_wp2_with fail
          refine (QW.out _ h1.out).mono ?_
          rintro e w2 ⟨rfl, hp2⟩
          go_wp2_with fail
          go_ret
          exact ⟨rfl, ⟨cb, _, hp2.out.at'⟩, (Held.below HB1.out).trans hp2.out.kept⟩
end Go.Proofs.YtljgfnglknpfaaaGreatDoor
