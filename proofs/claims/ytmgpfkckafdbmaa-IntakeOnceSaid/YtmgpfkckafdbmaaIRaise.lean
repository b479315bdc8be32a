/-
  raise: a time becomes Top, and the counts of what is closed by that are deleted.
-/
import Derived.Test.YtmgpfkckafdbmaaISmall
import Derived.BigQuiet
namespace Go.Proofs.Ytmgpfkckafdbmaa
set_option maxRecDepth 100000
open Go Go.RowKit Go.Maps

/-- The counts above a time. -/
def abv (cs : List (Int × Int)) (m : Int) : List (Int × Int) := cs.filter (fun p => decide (m < p.1))
theorem cnt_abv (cs : List (Int × Int)) (m t : Int) : In.cnt (abv cs m) t = if m < t then In.cnt cs t else 0 := In.cnt_filter cs m t
/-- What is deleted one by one. -/
theorem raise_end {c : In.C} {s : In.St} {t m : Int} (hcs : ∀ u, In.cnt s.cs u ≠ 0 → In.closed c s < u ∧ (u ≤ s.top ∨ u = t)) (hc : c.right) (ht : s.top < t) (hT : -1 ≤ s.top) (h1 : m ≤ In.closed c { s with top := t }) (h2 : min (In.closed c { s with top := t }) s.top ≤ m) (u : Int) :
    In.cnt (In.raise c s t).cs u = In.cnt (abv s.cs m) u := by
  have e : (In.raise c s t).cs = abv s.cs (In.closed c { s with top := t }) := by
    show s.cs.filter _ = s.cs.filter _
    have : max s.top t = t := by omega
    rw [this]
    rfl
  have hlt : In.closed c { s with top := t } < t := by
    show max (-1) (t - c.late - 1) < t
    unfold In.C.right at hc
    omega
  rw [e, cnt_abv, cnt_abv]
  generalize In.closed c { s with top := t } = K at *
  by_cases q1 : m < u
  · rw [if_pos q1]
    by_cases q2 : K < u
    · rw [if_pos q2]
    · rw [if_neg q2]
      by_cases q3 : In.cnt s.cs u = 0
      · exact q3.symm
      · obtain ⟨g1, g2⟩ := hcs u q3
        omega
  · rw [if_neg q1, if_neg (by omega)]
theorem abv_all {c : In.C} {s : In.St} {t : Int} (hcs : ∀ u, In.cnt s.cs u ≠ 0 → In.closed c s < u ∧ (u ≤ s.top ∨ u = t)) (u : Int) : In.cnt (abv s.cs (In.closed c s)) u = In.cnt s.cs u := by
  rw [cnt_abv]
  split
  · rfl
  · next k =>
    by_cases q : In.cnt s.cs u = 0
    · exact q.symm
    · exact absurd (hcs u q).1 k
theorem abv_next (cs : List (Int × Int)) (m u : Int) : In.cnt (abv cs (m + 1)) u = if u = m + 1 then 0 else In.cnt (abv cs m) u := by
  rw [cnt_abv, cnt_abv]
  by_cases h : u = m + 1
  · rw [if_pos h, if_neg (by omega)]
  · rw [if_neg h]
    by_cases q : m < u
    · rw [if_pos q, if_pos (by omega)]
    · rw [if_neg q, if_neg (by omega)]
theorem wpList_delete_run {P : Program} {w : World} {ops : Array Oper} {rest : List Oper} {o : Oper} {a : Act} {Q : Exit → Act → World → Prop} (hgd : o.guard = none) (d s : Operand) (t t' : TypeId)
    (ho : o.op = .call { callee := .builtin .delete, args := #[d, s], argTypes := #[t, t'] }) (v u : Value) (hd : a.eval d = v) (hs : a.eval s = u) (v' : Value) (w' : World)
    (hr : (Builtin.delete_ #[t, t'] o.type #[v, u]).run P w = .ok v' w') (h : wpList P ops Q rest (a.put o.dst v') w') : wpList P ops Q (o :: rest) a w := by
  refine wpList_plain hgd fun K hK => ?_
  unfold Oper.wp execOp
  simp only [ho, resolve, invoke, builtin, Sem.run_bind, Sem.run_pure, Result.andThen_ok, List.map_toArray, List.map_cons, List.map_nil, hd, hs, hr]
  exact hK _ _ h
section
variable {G : Nat → Prop} {w : World} {b : Nat} {c : In.C} {p : IP} {s : In.St}
set_option maxHeartbeats 1000000 in
theorem raise_c (h : IxAt G w b c p s) (hs : Sm c s) {t : Int} (ht : Pq.inB t) (hcs : ∀ u, In.cnt s.cs u ≠ 0 → In.closed c s < u ∧ (u ≤ s.top ∨ u = t)) :
    Calls Try.prog 29 #[.pointer (some ⟨b, 0, none⟩), .int .i64 t] w fun e w' => e = .returned (.tuple #[]) ∧ IxAt G w' b c p (In.raise c s t) ∧ Kept (InI b p) w w' := by
  have hc := h.cells
  have c8 := hc.c8
  by_cases hle : t ≤ s.top
  · have H := Lib.hid h
    have HE := Lib.hid (show In.raise c s t = { s with cs := (In.raise c s t).cs } by
      have : max s.top t = s.top := by omega
      have q : In.raise c s t = { s with top := max s.top t, cs := (In.raise c s t).cs } := rfl
      rw [this] at q
      exact q)
    have HC := Lib.hid (show ∀ u, In.cnt (In.raise c s t).cs u = In.cnt s.cs u by
      intro u
      have : (In.raise c s t).cs = abv s.cs (In.closed c s) := by
        show s.cs.filter _ = s.cs.filter _
        have : max s.top t = s.top := by omega
        rw [this]
        rfl
      rw [this]
      exact abv_all hcs u)
    clear h hs hc hcs ht
    go_enter Try.func29, Try.ntmps29
    go_wp2_with fail
    (try simp only [Exit.inBlock, Exit.then])
    refine bodyPost_ret (results_none rfl _ _ _) rfl ?_
    refine ⟨rfl, ?_, Kept.refl _ _⟩
    rw [HE.out]
    exact H.out.sameCs HC.out
  · have hgt : s.top < t := by omega
    have hf8 := h.z 8
    have QC := Lib.hid (fun n => closed_cI (h.drewN n) hs)
    have H := Lib.hid h
    have HS := Lib.hid hs
    have HCS := Lib.hid hcs
    obtain ⟨K0, hK0⟩ : ∃ K, K = In.closed c s := ⟨_, rfl⟩
    have HK0 := Lib.hid hK0
    rw [← hK0] at QC
    obtain ⟨hr, hn, htop⟩ := hs
    have hb0 : -1 ≤ K0 ∧ K0 ≤ 1099511627776 := by
      rw [hK0]
      unfold In.closed
      unfold In.C.right at hr
      omega
    have hw1 : IntKind.i64.wrap (K0 + 1) = K0 + 1 := by rw [IntKind.wrap_i64]; omega
    have HR := Lib.hid hr
    clear h hc hcs hK0 hr hn
    unfold Pq.inB at ht
    have ht1 := ht.1
    have ht2 := ht.2
    clear ht
    go_enter Try.func29, Try.ntmps29
    go_wp2_with fail
    go_quiet ((go_at_call 10; exact Calls.quiet_of (QC.out _)))
    obtain ⟨w1, hw1'⟩ : ∃ w1, w1 = w.drewN nq := ⟨_, rfl⟩
    have H1 := Lib.hid (show IxAt G w1 b c p s by rw [hw1']; exact H.out.drewN nq)
    have HK1 := Lib.hid (show Kept (InI b p) w w1 by rw [hw1']; exact drew_kept _ _ _)
    rw [← hw1']
    clear hw1' c8 hf8
    have hf8 := H1.out.z 8
    have c8 := H1.out.cells.c8
    go_upto_region 3 with fail
    obtain ⟨w2, hw2⟩ : ∃ w2, w2 = w1.setCell ⟨b, 8, none⟩ (.int .i64 t) := ⟨_, rfl⟩
    have H2 := Lib.hid (show IxAt G w2 b c p { s with top := t } by rw [hw2]; exact H1.out.setTop t)
    have HK2 := Lib.hid (show Kept (InI b p) w w2 by rw [hw2]; exact HK1.out.trans ((Kept.set b 8 w1 _).mono (S' := InI b p) (fun _ _ e => Or.inl e)) (fun _ _ e => e))
    rw [← hw2]
    clear hw2 c8 hf8
    obtain ⟨K1, hK1⟩ : ∃ K, K = In.closed c { s with top := t } := ⟨_, rfl⟩
    have HK1' := Lib.hid hK1
    have hb1 : -1 ≤ K1 ∧ K1 ≤ 1099511627776 ∧ K0 ≤ K1 := by
      have hr := HR.out
      rw [hK1, HK0.out]
      unfold In.closed
      unfold In.C.right at hr
      dsimp only
      omega
    obtain ⟨M, hM⟩ : ∃ M, min K1 s.top = M := ⟨_, rfl⟩
    have hMb : M ≤ K1 ∧ M ≤ s.top := by omega
    have HM := Lib.hid hM
    clear hK1
    go_wp2_with fail
    go_loopw [6] (fun v6 wr => ∃ m : Int, K0 ≤ m ∧ m ≤ K1 ∧ v6 = .int .i64 (m + 1) ∧ Hid (IxAt G wr b c p { s with top := t, cs := abv s.cs m } ∧ Kept (InI b p) w wr)) (fun v6 _ => (M + 1 - intOf v6 + 1).toNat)
    case atStart =>
      refine ⟨K0, Int.le_refl _, hb1.2.2, rfl, Lib.hid ⟨?_, HK2.out⟩⟩
      have := H2.out.sameCs (cs := abv s.cs K0) (fun u => by rw [HK0.out]; exact abv_all HCS.out u)
      exact this
    case round =>
      obtain ⟨m, hm0, hm1, rfl, HI⟩ := hrel
      obtain ⟨w3, hw3⟩ : ∃ w3, w3 = wr := ⟨wr, rfl⟩
      subst hw3
      have QD := Lib.hid (fun n => closed_cI (HI.out.1.drewN n) (show Sm c { s with top := t, cs := abv s.cs m } from ⟨HS.out.c, HS.out.now, by dsimp only; omega⟩))
      rw [show In.closed c { s with top := t, cs := abv s.cs m } = K1 from HK1'.out.symm] at QD
      have c12 := HI.out.1.cells.c12
      have hst : (In.St.mk s.now t s.next s.refused s.tab (abv s.cs m)).top = t := rfl
      by_cases hmM : m + 1 ≤ M
      · have hw3 : IntKind.i64.wrap (m + 1 + 1) = m + 1 + 1 := by rw [IntKind.wrap_i64]; omega
        go_wp2_with (first
          | (go_at_call 10; refine (QD.out 0).mono ?_; rintro e w4 ⟨rfl, j, hw4⟩
             have H4 := Lib.hid (show IxAt G w4 b c p { s with top := t, cs := abv s.cs m } by rw [hw4]; exact (HI.out.1.drewN 0).drewN j)
             have HK4 := Lib.hid (show Kept (InI b p) w w4 by rw [hw4]; exact (HI.out.2.trans (drew_kept (InI b p) _ 0) (fun _ _ e => e)).trans (drew_kept (InI b p) _ j) (fun _ _ e => e))
             have d12 := H4.out.cells.c12
             clear hw4
             obtain ⟨w5, hdel, hcs5, hk5⟩ := H4.out.cs.drop (cs' := abv s.cs (m + 1)) (show I64 (m + 1) by unfold I64; omega) (fun u => abv_next s.cs m u) 0
             have HDel := Lib.hid hdel
             have H5 := Lib.hid (show IxAt G w5 b c p { s with top := t, cs := abv s.cs (m + 1) } from H4.out.setCs hk5 hcs5)
             have HK5 := Lib.hid (show Kept (InI b p) w w5 from HK4.out.trans (hk5.mono (S' := InI b p) (fun _ _ e => Or.inr e)) (fun _ _ e => e))
             clear hdel hcs5 hk5)
          | (at_delete; refine wpList_delete_run rfl _ _ _ _ rfl _ _ rfl rfl _ w5 HDel.out ?_))
        go_roundw
        case rel => exact ⟨m + 1, by omega, by omega, by go_num, Lib.hid ⟨H5.out, HK5.out⟩⟩
        case measure => (simp only [intOf]; omega)
      · go_wp2_with (go_at_call 10; refine (QD.out 0).mono ?_; rintro e w4 ⟨rfl, j, hw4⟩
                     have H4 := Lib.hid (show IxAt G w4 b c p { s with top := t, cs := abv s.cs m } by rw [hw4]; exact (HI.out.1.drewN 0).drewN j)
                     have HK4 := Lib.hid (show Kept (InI b p) w w4 by rw [hw4]; exact (HI.out.2.trans (drew_kept (InI b p) _ 0) (fun _ _ e => e)).trans (drew_kept (InI b p) _ j) (fun _ _ e => e))
                     clear hw4)
        go_end0
        refine ⟨rfl, ?_, HK4.out⟩
        have HE := raise_end HCS.out HR.out (m := m) hgt htop.1 (by rw [← HK1'.out]; exact hm1) (by rw [← HK1'.out, HM.out]; omega)
        have q : In.raise c s t = { s with top := t, cs := (In.raise c s t).cs } := by
          have e : max s.top t = t := by omega
          show ({ s with top := max s.top t, cs := (In.raise c s t).cs } : In.St) = _
          rw [e]
        rw [q]
        exact H4.out.sameCs HE
end
end Go.Proofs.Ytmgpfkckafdbmaa
