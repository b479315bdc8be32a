/-
  take: a fence, a time that is idle, a clock.
-/
import Derived.Test.YtmgpfkckafdbmaaITake
namespace Go.Proofs.Ytmgpfkckafdbmaa
set_option maxRecDepth 100000
open Go Go.RowKit Vl

section
variable {G : Nat → Prop} {w : World} {b : Nat} {c : In.C} {p : IP} {s : In.St}
set_option maxHeartbeats 4000000 in
theorem take_fence (hI : IxAt G w b c p s) (hG : ∀ k, w.heap.size ≤ k → G k) (hv : Iv c s) {e : EE} (hk : e.kd = 1) {t : List Pq.P} {ep : Int} (hz : Pq.fence s.tab e.pr = (some (t, ep), 0)) :
    Calls Try.prog 21 #[.pointer (some ⟨b, 0, none⟩), e.val] w fun r w' => r = .returned (.tuple #[]) ∧ TakeIs G w w' b c p { s with tab := t } := by
  obtain ⟨W1, hW1⟩ : ∃ W1, W1 = w.alloc e.obj := ⟨_, rfl⟩
  have hb1 : Below w.heap.size w W1 := by rw [hW1]; exact below_new w _
  have hx1 : W1.heap[w.heap.size]? = some e.obj := by rw [hW1]; exact box_new w _
  have HI1 := Lib.hid (hI.on hb1)
  have HG := Lib.hid (show ∀ k, W1.heap.size ≤ k → G k from fun k hk => hG k (Nat.le_trans hb1.size hk))
  have HB1 := Lib.hid hb1
  have c11 := HI1.out.cells.c11
  have f11 := HI1.out.z 11
  have QP := Lib.hid (((fence_c ((hI.on (below_drew hb1)).tb.any) (by rw [hI.tabs]; exact hv.ok.tab) e.pr).mono (R' := fun r w' => ∃ a' c' l' fe fz, r = .returned (.tuple #[.slice a' (List.length l') c', .int .i64 fe, .int .i64 fz]) ∧ w'.cell? ⟨b, 11, none⟩ = some (.slice p.ta p.T.length p.tc) ∧ w'.frozen? ⟨b, 11, none⟩ = false ∧ Hid (tab l' = t ∧ Tb (fun k => W1.heap.size ≤ k) w' a' c' l' ∧ Below W1.heap.size W1 w')) (fun r w' hh => by
    obtain ⟨⟨a', c', l', fe, fz, q1, q2, q3⟩, q4⟩ := hh
    have hbb : Below W1.heap.size W1 w' := (below_drew (Below.refl _ W1)).trans q4
    have h2 := HI1.out.on hbb
    refine ⟨a', c', l', fe, fz, q1, h2.cells.c11, h2.z 11, Lib.hid ⟨?_, q2, hbb⟩⟩
    rw [hI.tabs, hz] at q3
    rcases q3 with ⟨q5, _⟩ | ⟨q5, _⟩
    · cases q5
    · injection q5 with q5 _
      injection q5 with q5
      injection q5 with q5 _
      exact q5.symm)))
  have hec := EE.cells hx1
  have e0 := hec.c0
  have e1 := hec.c1
  obtain ⟨kd, pr, ep', sq, src, sc, tm, ra, rn, rc⟩ := e
  unfold EE.obj at hW1
  unfold EE.val
  dsimp only at *
  subst hk
  clear hI hG hv hb1 hx1 hec hz
  go_enter Try.func21, Try.ntmps21
  go_upto_region 1 with fail
  rw [← hW1]
  clear hW1
  go_upto_region 8 with fail
  go_region_law (go_simp; go_at_call 25; refine QP.out.mono ?_; rintro r w2 ⟨a', c', l', fe, fz, rfl, d11, d12, HP⟩)
  all_goals
    have HI3 := Lib.hid (show IxAt G (w2.setCell ⟨b, 11, none⟩ (.slice a' (List.length l') c')) b c { p with ta := a', tc := c', T := l' } { s with tab := t } by
      obtain ⟨h1, h2, h3⟩ := HP.out
      have := (HI1.out.on h3).setTab (h2.mono HG.out)
      rw [h1] at this
      exact this)
    have HK3 := Lib.hid (show Kept (InI b p) W1 (w2.setCell ⟨b, 11, none⟩ (.slice a' (List.length l') c')) from (Kept.below HP.out.2.2).trans ((Kept.set b 11 w2 _).mono (S' := InI b p) (fun _ _ e => Or.inl e)) (fun _ _ e => e))
    go_end0
    exact ⟨rfl, a', c', l', HI3.out, (Kept.below HB1.out).trans HK3.out (fun _ _ e => e)⟩
set_option maxHeartbeats 4000000 in
theorem take_idle (hI : IxAt G w b c p s) (hv : Iv c s) {e : EE} (hk : e.kd = 2) (hz : Pq.inB e.tm) :
    Calls Try.prog 21 #[.pointer (some ⟨b, 0, none⟩), e.val] w fun r w' => r = .returned (.tuple #[]) ∧ TakeIs G w w' b c p (In.raise c s e.tm) := by
  obtain ⟨W1, hW1⟩ : ∃ W1, W1 = w.alloc e.obj := ⟨_, rfl⟩
  have hb1 : Below w.heap.size w W1 := by rw [hW1]; exact below_new w _
  have hx1 : W1.heap[w.heap.size]? = some e.obj := by rw [hW1]; exact box_new w _
  have HB1 := Lib.hid hb1
  have QR := Lib.hid (raise_c (hI.on hb1) hv.sm hz (hv.cnt e.tm))
  have hec := EE.cells hx1
  have e0 := hec.c0
  have e6 := hec.c6
  obtain ⟨kd, pr, ep', sq, src, sc, tm, ra, rn, rc⟩ := e
  unfold EE.obj at hW1
  unfold EE.val
  dsimp only at *
  subst hk
  clear hI hv hb1 hx1 hec hz
  go_enter Try.func21, Try.ntmps21
  go_upto_region 1 with fail
  rw [← hW1]
  clear hW1
  go_wp2_with (go_at_call 29; refine QR.out.mono ?_; rintro r w6 ⟨rfl, hI6, hK6⟩; have HI6 := Lib.hid hI6; have HK6 := Lib.hid hK6; clear hI6 hK6)
  go_end0
  exact ⟨rfl, p.ta, p.tc, p.T, HI6.out, (Kept.below HB1.out).trans HK6.out (fun _ _ e => e)⟩
set_option maxHeartbeats 4000000 in
theorem take_now (hI : IxAt G w b c p s) {e : EE} (hk : e.kd = 3) :
    Calls Try.prog 21 #[.pointer (some ⟨b, 0, none⟩), e.val] w fun r w' => r = .returned (.tuple #[]) ∧ TakeIs G w w' b c p { s with now := max s.now e.tm } := by
  obtain ⟨W1, hW1⟩ : ∃ W1, W1 = w.alloc e.obj := ⟨_, rfl⟩
  have hb1 : Below w.heap.size w W1 := by rw [hW1]; exact below_new w _
  have hx1 : W1.heap[w.heap.size]? = some e.obj := by rw [hW1]; exact box_new w _
  have HB1 := Lib.hid hb1
  have HI1 := Lib.hid (hI.on hb1)
  have HI2 := Lib.hid (hI.on (below_drew hb1))
  have c7 := HI1.out.cells.c7
  have f7 := HI1.out.z 7
  have hec := EE.cells hx1
  have e0 := hec.c0
  have e6 := hec.c6
  obtain ⟨kd, pr, ep', sq, src, sc, tm, ra, rn, rc⟩ := e
  unfold EE.obj at hW1
  unfold EE.val
  dsimp only at *
  subst hk
  obtain ⟨M, hM⟩ : ∃ M, max s.now tm = M := ⟨_, rfl⟩
  have HM := Lib.hid hM
  rw [hM]
  clear hI hb1 hx1 hec
  go_enter Try.func21, Try.ntmps21
  go_upto_region 1 with fail
  rw [← hW1]
  clear hW1
  go_upto_region 12 with fail
  go_region
  all_goals
    go_end0
    exact ⟨rfl, p.ta, p.tc, p.T, HI2.out.setNow M, (Kept.below HB1.out).trans ((Kept.below (below_drew (Below.refl _ W1))).trans ((Kept.set b 7 _ _).mono (S' := InI b p) (fun _ _ e => Or.inl e)) (fun _ _ e => e)) (fun _ _ e => e)⟩
end
end Go.Proofs.Ytmgpfkckafdbmaa
