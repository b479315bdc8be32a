/-
  Apply: an entry.
-/
import Derived.Test.YtmgpfkckafdbmaaITakeB
import Derived.Test.YtmgpfkckafdbmaaIOnce
namespace Go.Proofs.Ytmgpfkckafdbmaa
set_option maxRecDepth 100000
open Go Go.RowKit Vl

theorem fence_none {s : List Pq.P} {a z : Int} (h : Pq.fence s a = (none, z)) : z ≠ 0 := by
  unfold Pq.fence at h
  split at h
  · injection h with _ h
    rw [← h]
    decide
  · split at h
    · injection h with _ h
      rw [← h]
      decide
    · injection h with h _
      cases h
section
variable {G : Nat → Prop} {w : World} {b : Nat} {c : In.C} {p : IP} {s : In.St}
theorem take_c (hI : IxAt G w b c p s) (hG : ∀ k, w.heap.size ≤ k → G k) (hv : Iv c s) {e : EE} {row : List V} (hz : (In.apply c s (toEn p.K e row)).2.2 = 0) :
    Calls Try.prog 21 #[.pointer (some ⟨b, 0, none⟩), e.val] w fun r w' => r = .returned (.tuple #[]) ∧ TakeIs G w w' b c p (In.apply c s (toEn p.K e row)).1 := by
  by_cases k0 : e.kd = 0
  · have hz' := hz
    rw [apply_kind0 c s (toEn p.K e row) k0] at hz'
    have := take_put hI hG hv (row := row) k0 hz'
    rw [In.apply_take (c := c) (s := s) (e := toEn p.K e row) k0 hz']
    exact this
  · by_cases k1 : e.kd = 1
    · have ha := apply_kind1 c s (toEn p.K e row) k1
      rw [ha] at hz ⊢
      cases hf : Pq.fence s.tab (toEn p.K e row).pr with
      | mk o z =>
        rw [hf] at hz
        cases o with
        | none => exact absurd hz (fence_none hf)
        | some q =>
          obtain ⟨t, ep⟩ := q
          have hz' : z = 0 := hz
          subst hz'
          exact take_fence hI hG hv k1 hf
    · by_cases k2 : e.kd = 2
      · have ha := apply_kind2 c s (toEn p.K e row) k2
        rw [ha] at hz ⊢
        split at hz
        · cases hz
        · next q1 =>
          split at hz
          · cases hz
          · next q2 =>
            rw [if_neg q1, if_neg q2]
            exact take_idle hI hv k2 (Decidable.not_not.1 q1)
      · by_cases k3 : e.kd = 3
        · have ha := apply_kind3 c s (toEn p.K e row) k3
          rw [ha] at hz ⊢
          split at hz
          · cases hz
          · next q1 =>
            rw [if_neg q1]
            exact take_now hI k3
        · have ha := apply_other c s (toEn p.K e row) k0 k1 k2 k3
          rw [ha] at hz
          cases hz
set_option maxHeartbeats 4000000 in
theorem apply_c (hI : IxAt G w b c p s) (hG : ∀ k, w.heap.size ≤ k → G k) (hv : Iv c s) (hk : Kz p.K) {e : EE} {row : List V} (he : EOk w e row) :
    Calls Try.prog 13 #[.pointer (some ⟨b, 0, none⟩), e.val] w fun r w' => r = .returned (.tuple #[.int .i64 (In.apply c s (toEn p.K e row)).2.1, .int .i64 (In.apply c s (toEn p.K e row)).2.2]) ∧ TakeIs G w w' b c p (In.apply c s (toEn p.K e row)).1 := by
  obtain ⟨W1, hW1⟩ : ∃ W1, W1 = w.alloc e.obj := ⟨_, rfl⟩
  have hb1 : Below w.heap.size w W1 := by rw [hW1]; exact below_new w _
  have hx1 : W1.heap[w.heap.size]? = some e.obj := by rw [hW1]; exact box_new w _
  have HI1 := Lib.hid (hI.on hb1)
  have HB1 := Lib.hid hb1
  have HX1 := Lib.hid hx1
  have QC := Lib.hid (check_c (hI.on hb1) hv.sm hv.ok.tab hk (he.on hb1))
  have QT := Lib.hid (fun (W : World) (hW : Below W1.heap.size W1 W) (hz : (In.apply c s (toEn p.K e row)).2.2 = 0) => take_c (HI1.out.on hW) (fun k hk => hG k (Nat.le_trans hb1.size (Nat.le_trans hW.size hk))) hv hz)
  obtain ⟨n, hn⟩ : ∃ n, n = (In.apply c s (toEn p.K e row)).2.1 := ⟨_, rfl⟩
  obtain ⟨z, hz⟩ : ∃ z, z = (In.apply c s (toEn p.K e row)).2.2 := ⟨_, rfl⟩
  have HV := Lib.hid hv
  have HERR := Lib.hid (fun (h : (In.apply c s (toEn p.K e row)).2.2 ≠ 0) => In.apply_err h)
  rw [← hn, ← hz] at QC ⊢
  rw [← hz] at QT HERR
  obtain ⟨S, hS⟩ : ∃ S, S = (In.apply c s (toEn p.K e row)).1 := ⟨_, rfl⟩
  rw [← hS] at QT HERR ⊢
  rw [show (toEn p.K e row).kd = e.kd from rfl] at HERR
  have hec := EE.cells hx1
  have e0 := hec.c0
  have e1 := hec.c1
  have e2 := hec.c2
  have e3 := hec.c3
  have e4 := hec.c4
  have e5 := hec.c5
  have e6 := hec.c6
  have e7 := hec.c7
  obtain ⟨kd, pr, ep, sq, src, sc, tm, ra, rn, rc⟩ := e
  unfold EE.obj at hW1
  unfold EE.val at QC QT ⊢
  dsimp only at *
  clear hI hG hv hk he hb1 hx1 hec hn hz hS
  go_enter Try.func13, Try.ntmps13
  go_upto_region 1 with fail
  rw [← hW1]
  clear hW1
  go_upto_region 2 with (go_at_call 20; refine QC.out.mono ?_; rintro r w2 ⟨rfl, hb2⟩; have HB2 := Lib.hid hb2; clear hb2)
  have HI2 := Lib.hid (HI1.out.on HB2.out)
  have HBW := Lib.hid (HB1.out.trans (HB2.out.mono HB1.out.size))
  clear e0 e1 e2 e3 e4 e5 e6 e7
  have hec := EE.cells (box_on HX1.out HB2.out)
  have e0 := hec.c0
  have e1 := hec.c1
  have e2 := hec.c2
  have e3 := hec.c3
  have e4 := hec.c4
  have e5 := hec.c5
  have e6 := hec.c6
  have e7 := hec.c7
  dsimp only at e0 e1 e2 e3 e4 e5 e6 e7
  clear hec
  by_cases hzz : z = 0
  · subst hzz
    have Q := Lib.hid (QT.out w2 HB2.out rfl)
    go_wp2_with (go_at_call 21; refine Q.out.mono ?_; rintro r w3 ⟨rfl, HT⟩; have HT' := Lib.hid HT; clear HT)
    go_ret2
    obtain ⟨ta, tc, T, h1, h2⟩ := HT'.out
    exact ⟨rfl, ta, tc, T, h1, (Kept.below HBW.out).trans h2 (fun _ _ e => e)⟩
  · have hz0 : (z == 0) = false := by simpa using hzz
    have HE := Lib.hid (HERR.out hzz)
    clear hzz
    by_cases hkd : kd = 0
    · subst hkd
      by_cases h5 : z = 5
      · have h5' : (z != 5) = false := by rw [h5]; rfl
        have HE2 := Lib.hid (show S = s by rw [HE.out, if_neg (fun f => f.2 h5)])
        clear h5
        go_wp2_with fail
        go_ret2
        refine ⟨rfl, p.ta, p.tc, p.T, ?_, Kept.below HBW.out⟩
        rw [HE2.out]
        exact HI2.out
      · have h5' : (z != 5) = true := by simpa using h5
        have HE2 := Lib.hid (show S = { s with refused := s.refused + 1 } by rw [HE.out, if_pos ⟨rfl, h5⟩])
        have c10 := HI2.out.cells.c10
        have f10 := HI2.out.z 10
        have hw1 : IntKind.i64.wrap (s.refused + 1) = s.refused + 1 := by
          have h1 := HV.out.rf
          have h2 := HV.out.ok.ref
          rw [IntKind.wrap_i64]; omega
        clear h5
        go_wp2_with fail
        go_ret2
        refine ⟨rfl, p.ta, p.tc, p.T, ?_, (Kept.below HBW.out).trans ((Kept.set b 10 w2 _).mono (S' := InI b p) (fun _ _ e => Or.inl e)) (fun _ _ e => e)⟩
        rw [HE2.out]
        exact HI2.out.setRefused (s.refused + 1)
    · have hkd' : (kd == 0) = false := by simpa using hkd
      have HE2 := Lib.hid (show S = s by rw [HE.out, if_neg (fun f => hkd f.1)])
      clear hkd
      go_wp2_with fail
      go_ret2
      refine ⟨rfl, p.ta, p.tc, p.T, ?_, Kept.below HBW.out⟩
      rw [HE2.out]
      exact HI2.out
end
end Go.Proofs.Ytmgpfkckafdbmaa
