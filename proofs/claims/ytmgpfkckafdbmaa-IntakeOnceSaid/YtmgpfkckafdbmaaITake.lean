/-
  take: what an entry says is done.
-/
import Derived.Test.YtmgpfkckafdbmaaICheck
import Derived.Test.YtmgpfkckafdbmaaIRaise
namespace Go.Proofs.Ytmgpfkckafdbmaa
set_option maxRecDepth 100000
open Go Go.RowKit Vl

/-- What of a partition is known ahead of an entry. -/
structure Iv (c : In.C) (s : In.St) : Prop where
  rt : c.right
  ok : In.Ok c s
  nx : s.next ≤ 4611686018427387904
  rf : s.refused ≤ 4611686018427387904
theorem Iv.sm {c : In.C} {s : In.St} (h : Iv c s) : Sm c s := ⟨h.rt, h.ok.now, h.ok.top⟩
theorem up_len {r : Int} : ∀ {m T : Int} {l : List (Int × Int)}, In.Up r m l → m ≤ T → (∀ p ∈ l, p.1 ≤ T) → (l.length : Int) ≤ T - m
  | m, T, [], _, h, _ => by simp; omega
  | m, T, p :: l, h, hm, hp => by
    obtain ⟨h1, _, _, h4⟩ := h
    have hpT := hp p (List.mem_cons_self ..)
    have := up_len h4 hpT (fun q hq => hp q (List.mem_cons_of_mem _ hq))
    rw [List.length_cons]
    omega
theorem Iv.len {c : In.C} {s : In.St} (h : Iv c s) : s.cs.length ≤ 4294967296 := by
  have h1 := h.ok.top
  have hc := h.rt
  unfold In.C.right at hc
  have := up_len (T := max s.top (In.closed c s)) h.ok.up (by omega) (fun p hp => by have := h.ok.le p hp; omega)
  unfold In.closed at this
  omega
theorem Iv.cnt {c : In.C} {s : In.St} (h : Iv c s) (t : Int) : ∀ u, In.cnt s.cs u ≠ 0 → In.closed c s < u ∧ (u ≤ s.top ∨ u = t) := fun u hu => by
  have hm := In.cnt_mem hu
  obtain ⟨h1, _⟩ := In.up_mem h.ok.up hm
  exact ⟨h1, Or.inl (h.ok.le _ hm)⟩
theorem Iv.bump {c : In.C} {s : In.St} (h : Iv c s) {t : Int} (ht : In.closed c s < t) : ∀ u, In.cnt (In.bump s.cs t) u ≠ 0 → In.closed c s < u ∧ (u ≤ s.top ∨ u = t) := fun u hu => by
  rw [In.cnt_bump s.cs t u h.ok.up] at hu
  by_cases e : u = t
  · rw [e]
    exact ⟨ht, Or.inr rfl⟩
  · rw [if_neg e] at hu
    exact h.cnt t u hu
section
variable {G : Nat → Prop} {w : World} {b : Nat} {c : In.C} {p : IP} {s : In.St}
def TakeIs (G : Nat → Prop) (w w' : World) (b : Nat) (c : In.C) (p : IP) (s' : In.St) : Prop := ∃ ta tc T, IxAt G w' b c { p with ta := ta, tc := tc, T := T } s' ∧ Kept (InI b p) w w'
set_option maxHeartbeats 4000000 in
theorem take_put (hI : IxAt G w b c p s) (hG : ∀ k, w.heap.size ≤ k → G k) (hv : Iv c s) {e : EE} {row : List V} (hk : e.kd = 0) (hz : (In.look c s (toEn p.K e row)).2 = 0) :
    Calls Try.prog 21 #[.pointer (some ⟨b, 0, none⟩), e.val] w fun r w' => r = .returned (.tuple #[]) ∧ TakeIs G w w' b c p (In.take c s (toEn p.K e row)) := by
  obtain ⟨g1, g2, g3, g4, g5, g6, g7⟩ := In.look_zero hz
  obtain ⟨W1, hW1⟩ : ∃ W1, W1 = w.alloc e.obj := ⟨_, rfl⟩
  have hb1 : Below w.heap.size w W1 := by rw [hW1]; exact below_new w _
  have hx1 : W1.heap[w.heap.size]? = some e.obj := by rw [hW1]; exact box_new w _
  have HI1 := Lib.hid (hI.on hb1)
  have HG := Lib.hid (show ∀ k, W1.heap.size ≤ k → G k from fun k hk => hG k (Nat.le_trans hb1.size hk))
  have HV := Lib.hid hv
  have HX1 := Lib.hid hx1
  have HB1 := Lib.hid hb1
  have HNB := Lib.hid (fun k (hk : InI b p k) => hI.lt hk)
  have hic := HI1.out.cells
  have c9 := hic.c9
  have c11 := hic.c11
  have f11 := HI1.out.z 11
  have QP := Lib.hid (((put_c ((hI.on (below_drew hb1)).tb.any) (by rw [hI.tabs]; exact hv.ok.tab) e s.next).mono (R' := fun r w' => ∃ a' c' l', r = .returned (.slice a' (List.length l') c') ∧ w'.cell? ⟨b, 11, none⟩ = some (.slice p.ta p.T.length p.tc) ∧ w'.frozen? ⟨b, 11, none⟩ = false ∧ Hid (tab l' = Pq.put s.tab e.pr e.ep e.sq s.next ∧ Tb (fun k => W1.heap.size ≤ k) w' a' c' l' ∧ Below W1.heap.size W1 w')) (fun r w' hh => by
    obtain ⟨⟨a', c', l', q1, q2, q3⟩, q4⟩ := hh
    have hbb : Below W1.heap.size W1 w' := (below_drew (Below.refl _ W1)).trans q4
    have h2 := HI1.out.on hbb
    rw [hI.tabs] at q2
    exact ⟨a', c', l', q1, h2.cells.c11, h2.z 11, Lib.hid ⟨q2, q3, hbb⟩⟩)))
  have hec := EE.cells hx1
  have e0 := hec.c0
  have e1 := hec.c1
  have e2 := hec.c2
  have e3 := hec.c3
  have e4 := hec.c4
  have e5 := hec.c5
  have e6 := hec.c6
  have e7 := hec.c7
  have HTM := Lib.hid (show Pq.inB e.tm from g2)
  have HCL := Lib.hid (show In.closed c s < e.tm from g4)
  have HCN := Lib.hid (show In.cnt s.cs e.tm < c.rate from g6)
  obtain ⟨kd, pr, ep, sq, src, sc, tm, ra, rn, rc⟩ := e
  unfold EE.obj at hW1
  unfold EE.val at QP ⊢
  dsimp only at *
  subst hk
  clear hI hG hv hb1 hx1 hic hec g1 g2 g3 g4 g5 g6 g7 hz
  go_enter Try.func21, Try.ntmps21
  go_upto_region 1 with fail
  rw [← hW1]
  clear hW1
  go_upto_region 3 with fail
  go_cut [18] (fun v18 wx => ∃ w2 a' c' l', v18 = .slice a' (List.length l') c' ∧ wx = w2.setCell ⟨b, 11, none⟩ (.slice a' (List.length l') c') ∧ Hid (tab l' = Pq.put s.tab pr ep sq s.next ∧ Tb (fun k => W1.heap.size ≤ k) w2 a' c' l' ∧ Below W1.heap.size W1 w2))
  case first =>
    go_region_law (go_simp; go_at_call 28; refine QP.out.mono ?_; rintro r w2 ⟨a', c', l', rfl, d11, d12, HP⟩)
    all_goals (go_wp2_with fail)
    all_goals go_meet
    all_goals exact ⟨w2, a', c', l', rfl, rfl, HP⟩
  case rest =>
    obtain ⟨w2, a', c', l', rfl, rfl, HP⟩ := hcut
    obtain ⟨w3, hw3⟩ : ∃ w3, w3 = w2.setCell ⟨b, 11, none⟩ (.slice a' (List.length l') c') := ⟨_, rfl⟩
    rw [← hw3]
    have HI3 := Lib.hid (show IxAt G w3 b c { p with ta := a', tc := c', T := l' } { s with tab := Pq.put s.tab pr ep sq s.next } by
      obtain ⟨h1, h2, h3⟩ := HP.out
      have := (HI1.out.on h3).setTab (h2.mono HG.out)
      rw [← hw3, h1] at this
      exact this)
    have HK3 := Lib.hid (show Kept (InI b p) W1 w3 by
      rw [hw3]
      exact (Kept.below HP.out.2.2).trans ((Kept.set b 11 w2 _).mono (S' := InI b p) (fun _ _ e => Or.inl e)) (fun _ _ e => e))
    clear hw3 c9 c11 f11 QP HP
    have hw9 : IntKind.i64.wrap (s.next + 1) = s.next + 1 := by
      have h1 := HV.out.nx
      have h2 := HV.out.ok.next
      rw [IntKind.wrap_i64]; omega
    have c9 := HI3.out.cells.c9
    have f9 := HI3.out.z 9
    dsimp only at c9
    go_upto_region 5 with fail
    obtain ⟨w4, hw4⟩ : ∃ w4, w4 = w3.setCell ⟨b, 9, none⟩ (.int .i64 (s.next + 1)) := ⟨_, rfl⟩
    rw [← hw4]
    have HI4 := Lib.hid (show IxAt G w4 b c { p with ta := a', tc := c', T := l' } { s with tab := Pq.put s.tab pr ep sq s.next, next := s.next + 1 } by
      rw [hw4]
      exact HI3.out.setNext (s.next + 1))
    have HK4 := Lib.hid (show Kept (InI b p) W1 w4 by
      rw [hw4]
      exact HK3.out.trans ((Kept.set b 9 w3 _).mono (S' := InI b p) (fun _ _ e => Or.inl e)) (fun _ _ e => e))
    clear hw4 hw9 c9 f9 e0 e1 e2 e3 e4 e5 e6 e7
    have HX4 := Lib.hid (HK4.out.heap HX1.out (fun hk => Nat.lt_irrefl _ (HNB.out _ hk)))
    have e6 := (EE.cells HX4.out).c6
    have c12 := HI4.out.cells.c12
    dsimp only at e6 c12
    have htI : I64 tm := by
      have h1 := HTM.out
      unfold Pq.inB at h1
      exact ⟨by omega, by omega⟩
    have hlk := (HI4.out.on (below_drew (Below.refl _ w4))).cs.look htI
    dsimp only at hlk
    obtain ⟨n, hn⟩ : ∃ n, n = In.cnt s.cs tm := ⟨_, rfl⟩
    have hn0 : 0 ≤ n ∧ n < 20 := by
      have h1 := In.cnt_nonneg tm HV.out.ok.up
      have h2 := HCN.out
      have h3 := HV.out.rt
      unfold In.C.right at h3
      rw [← hn] at h1 h2
      omega
    have HN := Lib.hid hn
    rw [← hn] at hlk
    have hwn : IntKind.i64.wrap (n + 1) = n + 1 := by rw [IntKind.wrap_i64]; omega
    obtain ⟨w5, hmu, hcs5, hk5⟩ := (HI4.out.on (below_drew (Below.refl _ w4))).cs.store (cs' := In.bump s.cs tm) (t := tm) (n := n + 1) HV.out.len htI ⟨by omega, by omega⟩ (by omega) (fun u => by rw [In.cnt_bump s.cs tm u HV.out.ok.up, HN.out])
    dsimp only at hmu
    have HI5 := Lib.hid (show IxAt G w5 b c { p with ta := a', tc := c', T := l' } { s with tab := Pq.put s.tab pr ep sq s.next, next := s.next + 1, cs := In.bump s.cs tm } from (HI4.out.on (below_drew (Below.refl _ w4))).setCs hk5 hcs5)
    have HK5 := Lib.hid (show Kept (InI b p) W1 w5 from HK4.out.trans ((Kept.below (below_drew (Below.refl _ w4))).trans (hk5.mono (S' := InI b p) (fun _ _ e => Or.inr e)) (fun _ _ e => e)) (fun _ _ e => e))
    have HX5 := Lib.hid (HK5.out.heap HX1.out (fun hk => Nat.lt_irrefl _ (HNB.out _ hk)))
    have d6 := (EE.cells HX5.out).c6
    dsimp only at d6
    have QR := Lib.hid (raise_c HI5.out (show Sm c { s with tab := Pq.put s.tab pr ep sq s.next, next := s.next + 1, cs := In.bump s.cs tm } from ⟨HV.out.rt, HV.out.ok.now, HV.out.ok.top⟩) HTM.out (HV.out.bump HCL.out))
    clear hn hn0 hcs5 hk5 htI
    go_upto_region 5 with fail
    go_region
    all_goals (go_wp2_with (go_at_call 29; refine QR.out.mono ?_; rintro r w6 ⟨rfl, hI6, hK6⟩; have HI6 := Lib.hid hI6; have HK6 := Lib.hid hK6; clear hI6 hK6))
    all_goals go_end0
    all_goals exact ⟨rfl, a', c', l', HI6.out, (Kept.below HB1.out).trans (HK5.out.trans HK6.out (fun _ _ e => e)) (fun _ _ e => e)⟩
end
end Go.Proofs.Ytmgpfkckafdbmaa
