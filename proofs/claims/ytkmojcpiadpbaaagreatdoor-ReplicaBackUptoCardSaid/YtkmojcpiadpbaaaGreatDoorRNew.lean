/-
  Whether a stored state is right; a new replica.
-/
import Derived.Test.YtkmojcpiadpbaaaGreatDoorRStill
import Derived.Test.YtkmojcpiadpbaaaGreatDoorRRightZ
namespace Go.Proofs.YtkmojcpiadpbaaaGreatDoor
set_option maxRecDepth 100000
open Go Go.RowKit Rp

def rightS (h : Hard) (l : List Rec) : Bool := decide (0 ≤ h.tm ∧ h.tm ≤ 1099511627776) && decide (h.vt = -1 ∨ (0 ≤ h.vt ∧ h.vt ≤ 2)) && decide (l.length ≤ 4000) && sound l 1 h.tm
theorem new_none {id : Int} {h : Hard} {l : List Rec} (e : ¬ (0 ≤ id ∧ id ≤ 2) ∨ rightS h l = false) : newR id h l = none := by
  unfold newR
  rw [if_pos]
  rcases e with e | e
  · omega
  · apply Classical.byContradiction
    intro hc
    have hs : sound l 1 h.tm = true := by
      cases hs : sound l 1 h.tm with
      | true => rfl
      | false => exact absurd (Or.inr (Or.inr (Or.inr (Or.inr (Or.inr (Or.inr (Or.inr hs))))))) hc
    have hb : (0 ≤ h.tm ∧ h.tm ≤ 1099511627776) ∧ (-1 ≤ h.vt ∧ h.vt ≤ 2) ∧ l.length ≤ 4000 := by
      refine ⟨⟨?_, ?_⟩, ⟨?_, ?_⟩, ?_⟩ <;> (apply Classical.byContradiction; intro w; apply hc; omega)
    unfold rightS at e
    rw [decide_eq_true hb.1, decide_eq_true (show h.vt = -1 ∨ (0 ≤ h.vt ∧ h.vt ≤ 2) by omega), decide_eq_true hb.2.2, hs] at e
    cases e
theorem new_some {id : Int} {h : Hard} {l : List Rec} (e : 0 ≤ id ∧ id ≤ 2) (e2 : rightS h l = true) : newR id h l = some ⟨id, h, l, 0, 0, fun _ => false, fun _ => 0, fun _ => 0⟩ := by
  unfold newR
  rw [if_neg]
  unfold rightS at e2
  simp only [Bool.and_eq_true, decide_eq_true_eq] at e2
  obtain ⟨⟨⟨h1, h2⟩, h3⟩, h4⟩ := e2
  rintro (q | q | q | q | q | q | q | q)
  all_goals first | omega | (rw [h4] at q; cases q)
set_option maxHeartbeats 1000000 in
theorem rightState_c {G : Nat → Prop} {w : World} (h : Hard) (a : Option Addr) (c : Nat) (l : List Rec) (hs : Src G w a c l.length (recsV l)) (hn : l.length ≤ 9223372036854775807) (hd : ∀ x ∈ l, x.d.length ≤ 9223372036854775807) : Calls Tryz.prog 42 #[.agg #[.int .i64 h.tm, .int .i64 h.vt], .slice a l.length c] w fun e w' => e = .returned (.bool (rightS h l)) ∧ Below w.heap.size w w' := by
  obtain ⟨t, v⟩ := h
  show Calls _ _ #[.agg #[.int .i64 t, .int .i64 v], .slice a l.length c] _ _
  obtain ⟨W1, hW1⟩ : ∃ W1, W1 = w.alloc (.cells #[.int .i64 t, .int .i64 v] 39) := ⟨_, rfl⟩
  have hb1 : Below w.heap.size w W1 := by rw [hW1]; exact below_new w _
  have hx1 : W1.heap[w.heap.size]? = some (.cells #[.int .i64 t, .int .i64 v] 39 (0, 0)) := by rw [hW1]; exact box_new w _
  have c0 : W1.cell? ⟨w.heap.size, 0, none⟩ = some (.int .i64 t) := by rw [Lib.cell_of_heap hx1]; rfl
  have c1 : W1.cell? ⟨w.heap.size, 1, none⟩ = some (.int .i64 v) := by rw [Lib.cell_of_heap hx1]; rfl
  have QR := Lib.hid (rightRecs_c (hs.on hb1) hn hd 1 t)
  have QW := Lib.hid (fun n a b => within_c n a b W1)
  have QI := Lib.hid (fun n => isReplica_c n W1)
  have HB1 := Lib.hid hb1
  obtain ⟨L, hL⟩ : ∃ L : Nat, l.length = L := ⟨_, rfl⟩
  obtain ⟨y, hy⟩ : ∃ y, rightS ⟨t, v⟩ l = y := ⟨_, rfl⟩
  have HY : Hid (y = (decide (0 ≤ t ∧ t ≤ 1099511627776) && decide (v = -1 ∨ (0 ≤ v ∧ v ≤ 2)) && decide (L ≤ 4000) && sound l 1 t)) := by rw [← hL]; exact hy.symm
  obtain ⟨s, hss⟩ : ∃ s, sound l 1 t = s := ⟨_, rfl⟩
  rw [hss] at QR HY
  rw [hL] at QR ⊢
  rw [hy]
  have hn' : (L : Int) ≤ 9223372036854775807 := by omega
  clear hs hn hd hx1 hb1 hL hy hss
  by_cases qA : 0 ≤ t ∧ t ≤ 1099511627776
  · have HA := Lib.hid (two_true qA)
    by_cases qB : v = -1
    · have eB : (v == -1) = true := by simp [qB]
      by_cases qD : (L : Int) ≤ 4000
      · have HE := Lib.hid (show y = s by rw [HY.out, decide_eq_true qA, decide_eq_true (show v = -1 ∨ (0 ≤ v ∧ v ≤ 2) by omega), decide_eq_true (show L ≤ 4000 by omega)]; simp)
        clear qA qB
        go_enter Tryz.func42, Tryz.ntmps42
        go_upto_region 1 with fail
        rw [← hW1]
        clear hW1
        go_wp2_with (first | (go_at_call 27; refine (QW.out _ _ _).mono ?_; rintro e w1 ⟨rfl, hw⟩; rw [hw, HA.out]; clear hw) | (go_at_call 60; refine QR.out.mono ?_; rintro e w1 ⟨rfl, hb⟩))
        go_ret
        exact ⟨by rw [HE.out]; rfl, HB1.out.trans (hb.mono HB1.out.size)⟩
      · have HE := Lib.hid (show y = false by rw [HY.out, decide_eq_false (show ¬ L ≤ 4000 by omega)]; simp)
        clear qA qB
        go_enter Tryz.func42, Tryz.ntmps42
        go_upto_region 1 with fail
        rw [← hW1]
        clear hW1
        go_wp2_with (first | (go_at_call 27; refine (QW.out _ _ _).mono ?_; rintro e w1 ⟨rfl, hw⟩; rw [hw, HA.out]; clear hw) | (go_at_call 60; refine QR.out.mono ?_; rintro e w1 ⟨rfl, hb⟩))
        go_ret
        exact ⟨by rw [HE.out]; rfl, HB1.out⟩
    · have eB : (v == -1) = false := by simp [qB]
      by_cases qC : 0 ≤ v ∧ v ≤ 2
      · have HC := Lib.hid (two_true qC)
        by_cases qD : (L : Int) ≤ 4000
        · have HE := Lib.hid (show y = s by rw [HY.out, decide_eq_true qA, decide_eq_true (show v = -1 ∨ (0 ≤ v ∧ v ≤ 2) by omega), decide_eq_true (show L ≤ 4000 by omega)]; simp)
          clear qA qB qC
          go_enter Tryz.func42, Tryz.ntmps42
          go_upto_region 1 with fail
          rw [← hW1]
          clear hW1
          go_wp2_with (first | (go_at_call 27; refine (QW.out _ _ _).mono ?_; rintro e w1 ⟨rfl, hw⟩; rw [hw, HA.out]; clear hw) | (go_at_call 41; refine (QI.out _).mono ?_; rintro e w1 ⟨rfl, hw⟩; rw [hw, HC.out]; clear hw) | (go_at_call 60; refine QR.out.mono ?_; rintro e w1 ⟨rfl, hb⟩))
          go_ret
          exact ⟨by rw [HE.out]; rfl, HB1.out.trans (hb.mono HB1.out.size)⟩
        · have HE := Lib.hid (show y = false by rw [HY.out, decide_eq_false (show ¬ L ≤ 4000 by omega)]; simp)
          clear qA qB qC
          go_enter Tryz.func42, Tryz.ntmps42
          go_upto_region 1 with fail
          rw [← hW1]
          clear hW1
          go_wp2_with (first | (go_at_call 27; refine (QW.out _ _ _).mono ?_; rintro e w1 ⟨rfl, hw⟩; rw [hw, HA.out]; clear hw) | (go_at_call 41; refine (QI.out _).mono ?_; rintro e w1 ⟨rfl, hw⟩; rw [hw, HC.out]; clear hw) | (go_at_call 60; refine QR.out.mono ?_; rintro e w1 ⟨rfl, hb⟩))
          go_ret
          exact ⟨by rw [HE.out]; rfl, HB1.out⟩
      · have HC := Lib.hid (two_dec qC)
        have HE := Lib.hid (show y = false by rw [HY.out, decide_eq_false (show ¬ (v = -1 ∨ (0 ≤ v ∧ v ≤ 2)) by omega)]; simp)
        clear qA qB qC
        go_enter Tryz.func42, Tryz.ntmps42
        go_upto_region 1 with fail
        rw [← hW1]
        clear hW1
        go_wp2_with (first | (go_at_call 27; refine (QW.out _ _ _).mono ?_; rintro e w1 ⟨rfl, hw⟩; rw [hw, HA.out]; clear hw) | (go_at_call 41; refine (QI.out _).mono ?_; rintro e w1 ⟨rfl, hw⟩; rw [hw, HC.out]; clear hw) | (go_at_call 60; refine QR.out.mono ?_; rintro e w1 ⟨rfl, hb⟩))
        go_ret
        exact ⟨by rw [HE.out]; rfl, HB1.out⟩
  · have HA := Lib.hid (two_dec qA)
    have HE := Lib.hid (show y = false by rw [HY.out, decide_eq_false qA]; simp)
    clear qA
    go_enter Tryz.func42, Tryz.ntmps42
    go_upto_region 1 with fail
    rw [← hW1]
    clear hW1
    go_wp2_with (first | (go_at_call 27; refine (QW.out _ _ _).mono ?_; rintro e w1 ⟨rfl, hw⟩; rw [hw, HA.out]; clear hw) | (go_at_call 60; refine QR.out.mono ?_; rintro e w1 ⟨rfl, hb⟩))
    go_ret
    exact ⟨by rw [HE.out]; rfl, HB1.out⟩

/-- A new replica's block. -/
def newObj (id : Int) (h : Hard) (lv : Value) : Obj := .cells #[.int .i64 id, .int .i64 h.tm, .int .i64 h.vt, lv, .int .i64 0, .int .i64 0, .int .i64 0, .int .i64 0, .int .i64 0, .int .i64 0, .int .i64 0, .int .i64 0] 75
set_option maxHeartbeats 1000000 in
theorem new_c {G : Nat → Prop} {w : World} (id : Int) (h : Hard) (a : Option Addr) (c : Nat) (l : List Rec) (hs : Src G w a c l.length (recsV l)) (hn : l.length ≤ 9223372036854775807) (hd : ∀ x ∈ l, x.d.length ≤ 9223372036854775807) : Calls Tryz.prog 12 #[.int .i64 id, .agg #[.int .i64 h.tm, .int .i64 h.vt], .slice a l.length c] w fun e w' =>
    (∀ r, newR id h l = some r → ∃ bn lv, e = .returned (.pointer (some ⟨bn, 0, none⟩)) ∧ RepAt w' bn lv r ∧ w.heap.size ≤ bn ∧ (∀ k, lv.ownBlock = some k → w.heap.size ≤ k)) ∧ (newR id h l = none → e = .returned (.pointer none)) ∧ Below w.heap.size w w' := by
  obtain ⟨t, v⟩ := h
  show Calls _ _ #[_, .agg #[.int .i64 t, .int .i64 v], .slice a l.length c] _ _
  obtain ⟨W1, hW1⟩ : ∃ W1, W1 = w.alloc (.cells #[.int .i64 t, .int .i64 v] 39) := ⟨_, rfl⟩
  have hb1 : Below w.heap.size w W1 := by rw [hW1]; exact below_new w _
  have hx1 : W1.heap[w.heap.size]? = some (.cells #[.int .i64 t, .int .i64 v] 39 (0, 0)) := by rw [hW1]; exact box_new w _
  have c0 : W1.cell? ⟨w.heap.size, 0, none⟩ = some (.int .i64 t) := by rw [Lib.cell_of_heap hx1]; rfl
  have c1 : W1.cell? ⟨w.heap.size, 1, none⟩ = some (.int .i64 v) := by rw [Lib.cell_of_heap hx1]; rfl
  have HB1 := Lib.hid hb1
  have HX1 := Lib.hid hx1
  have QI := Lib.hid (fun y hy => isReplica_q id y hy W1)
  have QI0 := Lib.hid (isReplica_c id W1)
  obtain ⟨y, hy⟩ : ∃ y, rightS ⟨t, v⟩ l = y := ⟨_, rfl⟩
  have QS := Lib.hid (show Calls Tryz.prog 42 #[.agg #[.int .i64 t, .int .i64 v], .slice a l.length c] W1 fun e w' => e = .returned (.bool y) ∧ Hid (Below W1.heap.size W1 w') by have := rightState_c ⟨t, v⟩ a c l (hs.on hb1) hn hd; rw [hy] at this; exact this)
  have HSRC := Lib.hid (fun W (hW : Below w.heap.size w W) => hs.on hW)
  have HY := Lib.hid hy
  have HNN := Lib.hid (fun (e : ¬ (0 ≤ id ∧ id ≤ 2) ∨ y = false) => (new_none (id := id) (h := ⟨t, v⟩) (l := l) (by rw [hy]; exact e)))
  clear hs hn hd hx1 hb1 hy
  by_cases qA : 0 ≤ id ∧ id ≤ 2
  · have HA := Lib.hid (two_true qA)
    cases y with
    | false =>
      have HN := Lib.hid (HNN.out (Or.inr rfl))
      clear qA
      go_enter Tryz.func12, Tryz.ntmps12
      go_upto_region 1 with fail
      rw [← hW1]
      clear hW1
      go_wp2_with (first | (go_at_call 41; refine QI0.out.mono ?_; rintro e w1 ⟨rfl, hw⟩; rw [hw, HA.out]; clear hw) | (go_at_call 42; refine QS.out.mono ?_; rintro e w2 ⟨rfl, HB2⟩))
      go_ret
      exact ⟨fun r e => by rw [HN.out] at e; (cases e), fun _ => rfl, HB1.out.trans (HB2.out.mono HB1.out.size)⟩
    | true =>
      have HSM := Lib.hid (new_some (h := ⟨t, v⟩) (l := l) qA HY.out)
      have HFN := Lib.hid (new_fine HSM.out).1
      have hlen := HFN.out.len
      have HLEN := Lib.hid hlen
      clear qA hlen
      go_enter Tryz.func12, Tryz.ntmps12
      go_upto_region 1 with fail
      rw [← hW1]
      clear hW1
      go_upto_region 3 with (first | (go_at_call 41; refine QI0.out.mono ?_; rintro e w1 ⟨rfl, hw⟩; rw [hw, HA.out]; clear hw) | (go_at_call 42; refine QS.out.mono ?_; rintro e w2 ⟨rfl, HB2⟩))
      have HX2 := Lib.hid (box_on HX1.out HB2.out)
      have HBW := Lib.hid (HB1.out.trans (HB2.out.mono HB1.out.size))
      have QC := Lib.hid ((clone_c a c l w2.drew (HSRC.out _ (below_drew HBW.out)) (by have := HLEN.out; show l.length ≤ 100000; have e : l.length ≤ 4000 := this; omega)).mono (R' := fun e w' => ∃ a' c', e = .returned (.slice a' l.length c') ∧ w'.cell? ⟨w.heap.size, 0, none⟩ = some (.int .i64 t) ∧ w'.cell? ⟨w.heap.size, 1, none⟩ = some (.int .i64 v) ∧ Hid (RecRow w' w2.drew.heap.size (.slice a' l.length c') l ∧ Below w2.drew.heap.size w2.drew w')) (fun e w' hh => by
        obtain ⟨a', c', q1, q2, q3⟩ := hh
        have q4 := box_on (show w2.drew.heap[w.heap.size]? = _ from HX2.out) q3
        exact ⟨a', c', q1, (by rw [Lib.cell_of_heap q4]; rfl), (by rw [Lib.cell_of_heap q4]; rfl), Lib.hid ⟨q2, q3⟩⟩))
      have d0 : w2.cell? ⟨w.heap.size, 0, none⟩ = some (.int .i64 t) := by rw [Lib.cell_of_heap HX2.out]; rfl
      have d1 : w2.cell? ⟨w.heap.size, 1, none⟩ = some (.int .i64 v) := by rw [Lib.cell_of_heap HX2.out]; rfl
      clear c0 c1
      go_region_law (go_simp; go_at_call 43; refine QC.out.mono ?_; rintro e w5 ⟨a', c', rfl, n1, n2, HH⟩)
      all_goals
        go_wp2_with fail
        go_ret
        have hsz : w.heap.size ≤ w5.heap.size := Nat.le_trans (below_drew HBW.out).size HH.out.2.size
        have hrow := HH.out.1
        have hblw : Below w.heap.size w w5 := (below_drew HBW.out).trans (HH.out.2.mono (below_drew HBW.out).size)
        refine ⟨fun r e => ?_, fun e => (by rw [HSM.out] at e; cases e), hblw.trans ((below_new w5 _).mono hsz)⟩
        rw [HSM.out] at e
        injection e with e
        subst e
        refine ⟨w5.heap.size, .slice a' l.length c', rfl, ⟨box_new w5 _, (hrow.low (Nat.zero_le _)).on (below_new w5 _), fun e => by have := hrow.lt e; omega, HFN.out⟩, hsz, fun k e => Nat.le_trans (below_drew HBW.out).size (hrow.above e)⟩
  · have HA := Lib.hid (two_dec qA)
    have HN := Lib.hid (HNN.out (Or.inl qA))
    clear qA
    go_enter Tryz.func12, Tryz.ntmps12
    go_upto_region 1 with fail
    rw [← hW1]
    clear hW1
    go_wp2_with (first | (go_at_call 41; refine QI0.out.mono ?_; rintro e w1 ⟨rfl, hw⟩; rw [hw, HA.out]; clear hw))
    go_ret
    exact ⟨fun r e => by rw [HN.out] at e; (cases e), fun _ => rfl, HB1.out⟩
end Go.Proofs.YtkmojcpiadpbaaaGreatDoor
