/-
  The program reads a message. Written by gen/krdm.py.
-/
import Derived.Test.YtkmojcpiadpbaaaGreatDoorKRdA
import Derived.Test.YtkmojcpiadpbaaaGreatDoorRLast
namespace Go.Proofs.YtkmojcpiadpbaaaGreatDoor
set_option maxRecDepth 100000
open Go Go.RowKit Go.Sort Wire Rp

def zeroM : Msg := ⟨0, 0, 0, 0, 0, 0, 0, false, []⟩
theorem mkMsg8 (n0 n1 n2 n3 n4 n5 n6 n7 : Int) (rs : List Rec) : mkMsg [n0, n1, n2, n3, n4, n5, n6, n7] rs = ⟨n0, n1, n2, n3, n4, n5, n6, (n7 == 1), rs⟩ := by
  show (⟨n0, n1, n2, n3, n4, n5, n6, decide (n7 = 1), rs⟩ : Msg) = _
  congr 1
theorem readP_at {s : List UInt8} {s8 sc z : RS} {n0 n1 n2 n3 n4 n5 n6 n7 n8 : Int} {rs : List Rec} (e1 : rdInts 8 ⟨s, false⟩ = ([n0, n1, n2, n3, n4, n5, n6, n7], s8)) (e2 : rdN s8 = (n8, sc)) (e3 : rdMany (s.length + 1) sc = (rs, z)) :
    readP s = if z.f = false ∧ z.r = [] ∧ (0 ≤ n7 ∧ n7 ≤ 1) ∧ (rs.length : Int) = n8 then some ⟨n0, n1, n2, n3, n4, n5, n6, (n7 == 1), rs⟩ else none := by
  unfold readP
  simp only [e1, e2, e3]
  rw [mkMsg8]
  rfl
theorem rdMany_end {n : Nat} {s : RS} (h : s.r.length = 0) : rdMany n s = ([], s) := by
  cases n with
  | zero => rfl
  | succ n => exact if_pos h
theorem rdMany_more {n : Nat} {s : RS} (h : ¬ s.r.length = 0) : rdMany (n + 1) s = ((rdRec s).1 :: (rdMany n (rdRec s).2).1, (rdMany n (rdRec s).2).2) := if_neg h
def leftOf (b : Nat) (w : World) : Nat := match w.heap[b]? with
  | some (.cells cs _ _) => (match cs.getD 0 undef with | .string t => t.size | _ => 0)
  | _ => 0
theorem leftOf_rd {w : World} {b : Nat} {r : List UInt8} {f : Bool} (h : Rd w b r f) : leftOf b w = r.length := by
  unfold leftOf
  rw [show w.heap[b]? = _ from h]
  rfl
section
variable {w wx : World} {b : Nat} {s s' : RS} {n : Int} {X : World → Prop}
theorem ra_int_k (hg : Good w) (e : rdI s = (n, s')) (hl : s.r.length ≤ 4000000) (hX : ∀ u v, X u → Only b u v → X v) (hh : RA w wx b s ∧ X wx) : Calls Tryz.prog 24 #[.pointer (some ⟨b, 0, none⟩)] wx fun e w' => e = .returned (.int .i64 n) ∧ Hid (RA w w' b s' ∧ X w') :=
  (ra_int hh.1 hg hl).mono (fun e' w' hq => by rw [e] at hq; exact ⟨hq.1, Lib.hid ⟨hq.2.1, hX _ _ hh.2 hq.2.2⟩⟩)
theorem ra_num_k (hg : Good w) (e : rdN s = (n, s')) (hl : s.r.length ≤ 4000000) (hX : ∀ u v, X u → Only b u v → X v) (hh : RA w wx b s ∧ X wx) : Calls Tryz.prog 25 #[.pointer (some ⟨b, 0, none⟩)] wx fun e w' => e = .returned (.int .i64 n) ∧ Hid (RA w w' b s' ∧ X w') :=
  (ra_num hh.1 hg hl).mono (fun e' w' hq => by rw [e] at hq; exact ⟨hq.1, Lib.hid ⟨hq.2.1, hX _ _ hh.2 hq.2.2⟩⟩)
end
/-- In the loop: what has been read lies behind the box of the message. -/
structure RdL (w W1 wr : World) (br B : Nat) (n0 n1 n2 n3 n4 n5 n6 n7 : Int) (a : Option Addr) (c : Nat) (rs : List Rec) (s : RS) : Prop where
  ra : RA w wr br s
  bel : Below W1.heap.size W1 wr
  box : wr.heap[B]? = some (.cells #[.int .i64 n0, .int .i64 n1, .int .i64 n2, .int .i64 n3, .int .i64 n4, .int .i64 n5, .int .i64 n6, .bool (n7 == 1), .slice a rs.length c] 24 (0, 0))
  row : RecRow wr (B + 1) (.slice a rs.length c) rs
theorem RdL.on {w W1 wr wr' : World} {br B : Nat} {n0 n1 n2 n3 n4 n5 n6 n7 : Int} {a : Option Addr} {c : Nat} {rs : List Rec} {s : RS} (h : RdL w W1 wr br B n0 n1 n2 n3 n4 n5 n6 n7 a c rs s) (hb : Below wr.heap.size wr wr') : RdL w W1 wr' br B n0 n1 n2 n3 n4 n5 n6 n7 a c rs s :=
  ⟨h.ra.on hb, h.bel.trans (hb.mono h.bel.size), box_on h.box hb, h.row.on hb⟩
theorem RdL.push {w W1 w3 : World} {br B : Nat} {n0 n1 n2 n3 n4 n5 n6 n7 : Int} {a : Option Addr} {c : Nat} {rs : List Rec} {z : RS} (h : RdL w W1 w3 br B n0 n1 n2 n3 n4 n5 n6 n7 a c rs z) (hbr : br < B) (hbW : W1.heap.size ≤ br) (x : Rec) (hl : rs.length + 1 ≤ 100000) :
    (w3.alloc (.cells #[.int .i64 x.t, .string ⟨x.d.toArray⟩] 27)).heap[B]? = some (.cells #[.int .i64 n0, .int .i64 n1, .int .i64 n2, .int .i64 n3, .int .i64 n4, .int .i64 n5, .int .i64 n6, .bool (n7 == 1), .slice a rs.length c] 24 (0, 0)) ∧ ∃ a1 c1 w5, (Builtin.append_ #[22, 22] 22 #[.slice a rs.length c, .slice (some ⟨w3.heap.size, 0, none⟩) 1 1]).run Tryz.prog (w3.alloc (.cells #[.int .i64 x.t, .string ⟨x.d.toArray⟩] 27)) = .ok (.slice a1 (rs.length + 1) c1) w5 ∧
      w5.heap[B]? = some (.cells #[.int .i64 n0, .int .i64 n1, .int .i64 n2, .int .i64 n3, .int .i64 n4, .int .i64 n5, .int .i64 n6, .bool (n7 == 1), .slice a rs.length c] 24 (0, 0)) ∧ RdL w W1 (w5.setCell ⟨B, 8, none⟩ (.slice a1 (rs.length + 1) c1)) br B n0 n1 n2 n3 n4 n5 n6 n7 a1 c1 (rs ++ [x]) z := by
  have hb := below_new w3 (.cells #[.int .i64 x.t, .string ⟨x.d.toArray⟩] 27)
  have h1 := h.on hb
  have hBl : B < w3.heap.size := box_lt h.box
  refine ⟨h1.box, ?_⟩
  obtain ⟨a1, c1, w5, hr, hrow, _, hk⟩ := app_recs _ (B + 1) _ rs h1.row (G := fun _ => True) (some ⟨w3.heap.size, 0, none⟩) 1 [x] (rec_src (box_new w3 _) trivial) hl (Nat.le_trans hBl hb.size)
  have e1 : ([x] : List Rec).length = 1 := rfl
  rw [e1] at hr hrow
  have hown : ∀ k, (Value.slice a rs.length c).ownBlock = some k → B + 1 ≤ k := fun k e => h1.row.above e
  have hbox := hk.heap h1.box (fun e => by have := hown B e; omega)
  have hkB : Kept (fun k => k = B) w5 (w5.setCell ⟨B, 8, none⟩ (.slice a1 (rs.length + 1) c1)) := Kept.set _ _ _ _
  have hlow := h.ra.hb
  have h5 := h1.ra.far hk (fun k e => by have := hown k e; omega) (fun e => by have := hown br e; omega)
  refine ⟨a1, c1, w5, hr, hbox, h5.far hkB (fun k e => by rw [e]; omega) (fun e => by have e : br = B := e; omega), ?_, ?_, ?_⟩
  · exact (h1.bel.trans (hk.toBelow h1.bel.size (fun k e => by have := hown k e; omega))).trans (hkB.toBelow (Nat.le_trans h1.bel.size hk.size) (fun k e => by rw [e]; omega))
  · have := box_set hbox 8 (.slice a1 (rs.length + 1) c1)
    rw [this, List.length_append]
    rfl
  · rw [List.length_append, e1]
    exact hrow.kept hkB (fun k e e' => by have := hrow.above e; omega)
theorem RdL.read {w W1 wr : World} {br B : Nat} {n0 n1 n2 n3 n4 n5 n6 n7 : Int} {a : Option Addr} {c : Nat} {rs : List Rec} {z : RS} (h : RdL w W1 wr br B n0 n1 n2 n3 n4 n5 n6 n7 a c rs z) (hg : Good w) (hbr : br < B) (hbW : W1.heap.size ≤ br) (hl : z.r.length ≤ 4000000) :
    Calls Tryz.prog 20 #[.pointer (some ⟨br, 0, none⟩)] wr fun e w' => e = .returned (.agg #[.int .i64 (rdRec z).1.t, .string ⟨(rdRec z).1.d.toArray⟩]) ∧ Hid (RdL w W1 w' br B n0 n1 n2 n3 n4 n5 n6 n7 a c rs (rdRec z).2) := by
  refine (readRec_k h.ra hg hl).mono (fun e w' hq => ?_)
  obtain ⟨x, rfl, hv, h1, h2⟩ := hq
  exact ⟨hv, Lib.hid ⟨h1, h.bel.trans (only_below h2 h.bel.size hbW), (only_kept h2).heap h.box (fun e => by have e : B = br := e; omega), h.row.kept (only_kept h2) (fun k e e' => by have := h.row.above e; have e' : k = br := e'; omega)⟩⟩
theorem set9 (w : World) (b : Nat) (v0 v1 v2 v3 v4 v5 v6 v7 v8 : Value) : Kept (fun k => k = b) w (((((((((w.setCell ⟨b, 0, none⟩ v0).setCell ⟨b, 1, none⟩ v1).setCell ⟨b, 2, none⟩ v2).setCell ⟨b, 3, none⟩ v3).setCell ⟨b, 4, none⟩ v4).setCell ⟨b, 5, none⟩ v5).setCell ⟨b, 6, none⟩ v6).setCell ⟨b, 7, none⟩ v7).setCell ⟨b, 8, none⟩ v8) := ((((((((Kept.set b 0 w v0).trans (Kept.set b 1 _ v1) (fun _ _ e => e)).trans (Kept.set b 2 _ v2) (fun _ _ e => e)).trans (Kept.set b 3 _ v3) (fun _ _ e => e)).trans (Kept.set b 4 _ v4) (fun _ _ e => e)).trans (Kept.set b 5 _ v5) (fun _ _ e => e)).trans (Kept.set b 6 _ v6) (fun _ _ e => e)).trans (Kept.set b 7 _ v7) (fun _ _ e => e)).trans (Kept.set b 8 _ v8) (fun _ _ e => e)
set_option linter.unusedSimpArgs false in
theorem box9 {w : World} {b : Nat} {T : TypeId} {f : Nat × Nat} {x0 x1 x2 x3 x4 x5 x6 x7 x8 : Value} (h : w.heap[b]? = some (.cells #[x0, x1, x2, x3, x4, x5, x6, x7, x8] T f)) (v0 v1 v2 v3 v4 v5 v6 v7 v8 : Value) : (((((((((w.setCell ⟨b, 0, none⟩ v0).setCell ⟨b, 1, none⟩ v1).setCell ⟨b, 2, none⟩ v2).setCell ⟨b, 3, none⟩ v3).setCell ⟨b, 4, none⟩ v4).setCell ⟨b, 5, none⟩ v5).setCell ⟨b, 6, none⟩ v6).setCell ⟨b, 7, none⟩ v7).setCell ⟨b, 8, none⟩ v8).heap[b]? = some (.cells #[v0, v1, v2, v3, v4, v5, v6, v7, v8] T f) := by
  have h0 := box_set h 0 v0
  simp only [List.setIfInBounds_toArray, List.set_cons_zero, List.set_cons_succ] at h0
  have h1 := box_set h0 1 v1
  simp only [List.setIfInBounds_toArray, List.set_cons_zero, List.set_cons_succ] at h1
  have h2 := box_set h1 2 v2
  simp only [List.setIfInBounds_toArray, List.set_cons_zero, List.set_cons_succ] at h2
  have h3 := box_set h2 3 v3
  simp only [List.setIfInBounds_toArray, List.set_cons_zero, List.set_cons_succ] at h3
  have h4 := box_set h3 4 v4
  simp only [List.setIfInBounds_toArray, List.set_cons_zero, List.set_cons_succ] at h4
  have h5 := box_set h4 5 v5
  simp only [List.setIfInBounds_toArray, List.set_cons_zero, List.set_cons_succ] at h5
  have h6 := box_set h5 6 v6
  simp only [List.setIfInBounds_toArray, List.set_cons_zero, List.set_cons_succ] at h6
  have h7 := box_set h6 7 v7
  simp only [List.setIfInBounds_toArray, List.set_cons_zero, List.set_cons_succ] at h7
  have h8 := box_set h7 8 v8
  simp only [List.setIfInBounds_toArray, List.set_cons_zero, List.set_cons_succ] at h8
  exact h8
def RdDone (w w' : World) (s : List UInt8) (e : Ending) : Prop := ∃ p : PM, p.m = (readP s).getD zeroM ∧ e = .returned (.tuple #[p.val, .bool (readP s).isSome]) ∧ p.ok (fun j => w.heap.size ≤ j) w' ∧ Below w.heap.size w w'
def FuelIs (s : List UInt8) (sc : RS) (rs : List Rec) (z : RS) : Prop := ∃ F, z.r.length < F ∧ rdMany (s.length + 1) sc = (rs ++ (rdMany F z).1, (rdMany F z).2)
theorem FuelIs.more {s : List UInt8} {sc z : RS} {rs : List Rec} (h : FuelIs s sc rs z) (h0 : ¬ z.r.length = 0) : FuelIs s sc (rs ++ [(rdRec z).1]) (rdRec z).2 := by
  obtain ⟨F, h1, h2⟩ := h
  obtain ⟨G, rfl⟩ : ∃ G, F = G + 1 := ⟨F - 1, by omega⟩
  refine ⟨G, by have := rdRec_lt (s := z) (by omega); omega, ?_⟩
  rw [h2, rdMany_more h0]
  simp
theorem FuelIs.done {s : List UInt8} {sc z : RS} {rs : List Rec} (h : FuelIs s sc rs z) (h0 : z.r.length = 0) : rdMany (s.length + 1) sc = (rs, z) := by
  obtain ⟨F, _, h2⟩ := h
  rw [h2, rdMany_end h0, List.append_nil]
set_option maxHeartbeats 4000000 in
set_option linter.unusedSimpArgs false in
theorem read_c (s : List UInt8) (hs : s.length ≤ 40000) (w : World) (hg : Good w) : Calls Tryz.prog 7 #[.string ⟨s.toArray⟩] w fun e w' => RdDone w w' s e := by
  obtain ⟨W1, hW1⟩ : ∃ W1, W1 = w.alloc (.cells #[.int .i64 0, .int .i64 0, .int .i64 0, .int .i64 0, .int .i64 0, .int .i64 0, .int .i64 0, .bool false, .slice none 0 0] 24) := ⟨_, rfl⟩
  have hb1 : Below w.heap.size w W1 := by rw [hW1]; exact below_new w _
  have hx1 : W1.heap[w.heap.size]? = some (.cells #[.int .i64 0, .int .i64 0, .int .i64 0, .int .i64 0, .int .i64 0, .int .i64 0, .int .i64 0, .bool false, .slice none 0 0] 24 (0, 0)) := by rw [hW1]; exact box_new w _
  have hs1 : w.heap.size < W1.heap.size := box_lt hx1
  have QO := Lib.hid ((rOpen_c s W1).mono (R' := fun e w' => e = .returned (.pointer (some ⟨W1.heap.size, 0, none⟩)) ∧ Hid (RA w w' W1.heap.size ⟨s, false⟩ ∧ Below W1.heap.size W1 w')) (fun e w' hh => ⟨hh.1, Lib.hid ⟨⟨hb1.trans (hh.2.2.mono hb1.size), hb1.size, hh.2.1, fun e => by cases e⟩, hh.2.2⟩⟩))
  obtain ⟨s0, hs0⟩ : ∃ s0 : RS, s0 = ⟨s, false⟩ := ⟨_, rfl⟩
  rw [← hs0] at QO
  have l0 : s0.r.length ≤ 40000 := by rw [hs0]; exact hs
  obtain ⟨n0, s1, e0⟩ : ∃ n s', rdI s0 = (n, s') := ⟨_, _, rfl⟩
  have l1 : s1.r.length ≤ 40000 := by have := rdI_le s0; rw [e0] at this; exact Nat.le_trans this l0
  obtain ⟨n1, s2, e1⟩ : ∃ n s', rdI s1 = (n, s') := ⟨_, _, rfl⟩
  have l2 : s2.r.length ≤ 40000 := by have := rdI_le s1; rw [e1] at this; exact Nat.le_trans this l1
  obtain ⟨n2, s3, e2⟩ : ∃ n s', rdI s2 = (n, s') := ⟨_, _, rfl⟩
  have l3 : s3.r.length ≤ 40000 := by have := rdI_le s2; rw [e2] at this; exact Nat.le_trans this l2
  obtain ⟨n3, s4, e3⟩ : ∃ n s', rdI s3 = (n, s') := ⟨_, _, rfl⟩
  have l4 : s4.r.length ≤ 40000 := by have := rdI_le s3; rw [e3] at this; exact Nat.le_trans this l3
  obtain ⟨n4, s5, e4⟩ : ∃ n s', rdI s4 = (n, s') := ⟨_, _, rfl⟩
  have l5 : s5.r.length ≤ 40000 := by have := rdI_le s4; rw [e4] at this; exact Nat.le_trans this l4
  obtain ⟨n5, s6, e5⟩ : ∃ n s', rdI s5 = (n, s') := ⟨_, _, rfl⟩
  have l6 : s6.r.length ≤ 40000 := by have := rdI_le s5; rw [e5] at this; exact Nat.le_trans this l5
  obtain ⟨n6, s7, e6⟩ : ∃ n s', rdI s6 = (n, s') := ⟨_, _, rfl⟩
  have l7 : s7.r.length ≤ 40000 := by have := rdI_le s6; rw [e6] at this; exact Nat.le_trans this l6
  obtain ⟨n7, s8, e7⟩ : ∃ n s', rdI s7 = (n, s') := ⟨_, _, rfl⟩
  have l8 : s8.r.length ≤ 40000 := by have := rdI_le s7; rw [e7] at this; exact Nat.le_trans this l7
  obtain ⟨n8, sc, e8⟩ : ∃ n s', rdN s8 = (n, s') := ⟨_, _, rfl⟩
  have l9 : sc.r.length ≤ 40000 := by have := rdN_le s8; rw [e8] at this; exact Nat.le_trans this l8
  have hle9 : sc.r.length ≤ s.length := by
    have := rdN_le s8
    rw [e8] at this
    refine Nat.le_trans this ?_
    refine Nat.le_trans (show s8.r.length ≤ s7.r.length from by have := rdI_le s7; rw [e7] at this; exact this) ?_
    refine Nat.le_trans (show s7.r.length ≤ s6.r.length from by have := rdI_le s6; rw [e6] at this; exact this) ?_
    refine Nat.le_trans (show s6.r.length ≤ s5.r.length from by have := rdI_le s5; rw [e5] at this; exact this) ?_
    refine Nat.le_trans (show s5.r.length ≤ s4.r.length from by have := rdI_le s4; rw [e4] at this; exact this) ?_
    refine Nat.le_trans (show s4.r.length ≤ s3.r.length from by have := rdI_le s3; rw [e3] at this; exact this) ?_
    refine Nat.le_trans (show s3.r.length ≤ s2.r.length from by have := rdI_le s2; rw [e2] at this; exact this) ?_
    refine Nat.le_trans (show s2.r.length ≤ s1.r.length from by have := rdI_le s1; rw [e1] at this; exact this) ?_
    refine Nat.le_trans (show s1.r.length ≤ s0.r.length from by have := rdI_le s0; rw [e0] at this; exact this) ?_
    rw [hs0]
    exact Nat.le_refl _
  have hX1 : ∀ u v : World, Below W1.heap.size W1 u → Only W1.heap.size u v → Below W1.heap.size W1 v := fun u v h1 h2 => h1.trans (only_below h2 h1.size (Nat.le_refl _))
  have Q0 := Lib.hid (fun (wx : World) (hh : RA w wx W1.heap.size s0 ∧ Below W1.heap.size W1 wx) => ra_int_k (X := fun u => Below W1.heap.size W1 u) hg e0 (Nat.le_trans l0 (by decide)) hX1 hh)
  have Q1 := Lib.hid (fun (wx : World) (hh : RA w wx W1.heap.size s1 ∧ Below W1.heap.size W1 wx) => ra_int_k (X := fun u => Below W1.heap.size W1 u) hg e1 (Nat.le_trans l1 (by decide)) hX1 hh)
  have Q2 := Lib.hid (fun (wx : World) (hh : RA w wx W1.heap.size s2 ∧ Below W1.heap.size W1 wx) => ra_int_k (X := fun u => Below W1.heap.size W1 u) hg e2 (Nat.le_trans l2 (by decide)) hX1 hh)
  have Q3 := Lib.hid (fun (wx : World) (hh : RA w wx W1.heap.size s3 ∧ Below W1.heap.size W1 wx) => ra_int_k (X := fun u => Below W1.heap.size W1 u) hg e3 (Nat.le_trans l3 (by decide)) hX1 hh)
  have Q4 := Lib.hid (fun (wx : World) (hh : RA w wx W1.heap.size s4 ∧ Below W1.heap.size W1 wx) => ra_int_k (X := fun u => Below W1.heap.size W1 u) hg e4 (Nat.le_trans l4 (by decide)) hX1 hh)
  have Q5 := Lib.hid (fun (wx : World) (hh : RA w wx W1.heap.size s5 ∧ Below W1.heap.size W1 wx) => ra_int_k (X := fun u => Below W1.heap.size W1 u) hg e5 (Nat.le_trans l5 (by decide)) hX1 hh)
  have Q6 := Lib.hid (fun (wx : World) (hh : RA w wx W1.heap.size s6 ∧ Below W1.heap.size W1 wx) => ra_int_k (X := fun u => Below W1.heap.size W1 u) hg e6 (Nat.le_trans l6 (by decide)) hX1 hh)
  have HE := Lib.hid (show rdInts 8 ⟨s, false⟩ = ([n0, n1, n2, n3, n4, n5, n6, n7], s8) from by rw [← hs0]; exact rdInts8 e0 e1 e2 e3 e4 e5 e6 e7)
  have HE8 := Lib.hid e8
  have HL9 := Lib.hid l9
  have HSL := Lib.hid (show sc.r.length ≤ s.length from hle9)
  have HB1 := Lib.hid hb1
  have HX1 := Lib.hid hx1
  have HS1 := Lib.hid hs1
  have HG := Lib.hid hg
  have QB := Lib.hid (fun (B : Nat) (hB : W1.heap.size < B) =>
    have hX2 : ∀ u v : World, (Below W1.heap.size W1 u ∧ u.heap[B]? = some (.cells #[.int .i64 n0, .int .i64 n1, .int .i64 n2, .int .i64 n3, .int .i64 n4, .int .i64 n5, .int .i64 n6, .bool false, .slice none 0 0] 24 (0, 0))) → Only W1.heap.size u v → (Below W1.heap.size W1 v ∧ v.heap[B]? = some (.cells #[.int .i64 n0, .int .i64 n1, .int .i64 n2, .int .i64 n3, .int .i64 n4, .int .i64 n5, .int .i64 n6, .bool false, .slice none 0 0] 24 (0, 0))) := fun u v h1 h2 => ⟨hX1 u v h1.1 h2, (only_kept h2).heap h1.2 (fun e => by have e : B = W1.heap.size := e; omega)⟩
    (show (∀ wx, (RA w wx W1.heap.size s7 ∧ Below W1.heap.size W1 wx ∧ wx.heap[B]? = some (.cells #[.int .i64 n0, .int .i64 n1, .int .i64 n2, .int .i64 n3, .int .i64 n4, .int .i64 n5, .int .i64 n6, .bool false, .slice none 0 0] 24 (0, 0))) → Calls Tryz.prog 24 #[.pointer (some ⟨W1.heap.size, 0, none⟩)] wx fun e w' => e = .returned (.int .i64 n7) ∧ Hid (RA w w' W1.heap.size s8 ∧ Below W1.heap.size W1 w' ∧ w'.heap[B]? = some (.cells #[.int .i64 n0, .int .i64 n1, .int .i64 n2, .int .i64 n3, .int .i64 n4, .int .i64 n5, .int .i64 n6, .bool false, .slice none 0 0] 24 (0, 0)))) ∧
      (∀ wx, (RA w wx W1.heap.size s8 ∧ Below W1.heap.size W1 wx ∧ wx.heap[B]? = some (.cells #[.int .i64 n0, .int .i64 n1, .int .i64 n2, .int .i64 n3, .int .i64 n4, .int .i64 n5, .int .i64 n6, .bool false, .slice none 0 0] 24 (0, 0))) → Calls Tryz.prog 25 #[.pointer (some ⟨W1.heap.size, 0, none⟩)] wx fun e w' => e = .returned (.int .i64 n8) ∧ (w'.cell? ⟨B, 7, none⟩ = some (.bool false) ∧ (∀ o, w'.frozen? ⟨B, o, none⟩ = false)) ∧ Hid (RA w w' W1.heap.size sc ∧ Below W1.heap.size W1 w' ∧ w'.heap[B]? = some (.cells #[.int .i64 n0, .int .i64 n1, .int .i64 n2, .int .i64 n3, .int .i64 n4, .int .i64 n5, .int .i64 n6, .bool false, .slice none 0 0] 24 (0, 0)))) from
      ⟨fun wx hh => ra_int_k hg e7 (Nat.le_trans l7 (by decide)) hX2 hh, fun wx hh => (ra_num_k hg e8 (Nat.le_trans l8 (by decide)) hX2 hh).mono (fun e w' hq => ⟨hq.1, ⟨by rw [Lib.cell_of_heap hq.2.out.2.2]; rfl, fun o => Lib.frozen_of_heap hq.2.out.2.2 o⟩, hq.2⟩)⟩))
  clear hb1 hx1 hs1 hg hs hX1 hle9 hs0 e0 e1 e2 e3 e4 e5 e6 e7 e8 l0 l1 l2 l3 l4 l5 l6 l7 l8 l9
  go_enter Tryz.func7, Tryz.ntmps7
  go_upto_region 1 with fail
  rw [← hW1]
  clear hW1
  go_upto_region 3 with (first | ((with_reducible refine QO.out.mono ?_); rintro e w2 ⟨rfl, H0⟩) | ((with_reducible refine (Q0.out _ H0.out).mono ?_); rintro e w3 ⟨rfl, H1⟩) | ((with_reducible refine (Q1.out _ H1.out).mono ?_); rintro e w4 ⟨rfl, H2⟩) | ((with_reducible refine (Q2.out _ H2.out).mono ?_); rintro e w5 ⟨rfl, H3⟩) | ((with_reducible refine (Q3.out _ H3.out).mono ?_); rintro e w6 ⟨rfl, H4⟩) | ((with_reducible refine (Q4.out _ H4.out).mono ?_); rintro e w7 ⟨rfl, H5⟩) | ((with_reducible refine (Q5.out _ H5.out).mono ?_); rintro e w8 ⟨rfl, H6⟩) | ((with_reducible refine (Q6.out _ H6.out).mono ?_); rintro e w9 ⟨rfl, H7⟩))
  obtain ⟨W2, hW2⟩ : ∃ W2, W2 = w9.alloc (.cells #[.int .i64 n0, .int .i64 n1, .int .i64 n2, .int .i64 n3, .int .i64 n4, .int .i64 n5, .int .i64 n6, .bool false, .slice none 0 0] 24) := ⟨_, rfl⟩
  obtain ⟨B, hB⟩ : ∃ B, B = w9.heap.size := ⟨_, rfl⟩
  have hx2 : W2.heap[B]? = some (.cells #[.int .i64 n0, .int .i64 n1, .int .i64 n2, .int .i64 n3, .int .i64 n4, .int .i64 n5, .int .i64 n6, .bool false, .slice none 0 0] 24 (0, 0)) := by rw [hW2, hB]; exact box_new w9 _
  have hb2 : Below w9.heap.size w9 W2 := by rw [hW2]; exact below_new w9 _
  have hBl : W1.heap.size < B := by rw [hB]; exact H7.out.1.rd.lt
  have H8 := Lib.hid (show RA w W2 W1.heap.size s7 ∧ Below W1.heap.size W1 W2 ∧ W2.heap[B]? = some (.cells #[.int .i64 n0, .int .i64 n1, .int .i64 n2, .int .i64 n3, .int .i64 n4, .int .i64 n5, .int .i64 n6, .bool false, .slice none 0 0] 24 (0, 0)) from ⟨H7.out.1.on hb2, H7.out.2.trans (hb2.mono H7.out.2.size), hx2⟩)
  obtain ⟨QY, QN⟩ := QB.out B hBl
  have QY := Lib.hid QY
  have QN := Lib.hid QN
  rw [← hW2, ← hB]
  have HBL := Lib.hid hBl
  clear hW2 hB hx2 hb2 hBl QB Q0 Q1 Q2 Q3 Q4 Q5 Q6
  go_upto_region 5 with (first | ((with_reducible refine (QY.out _ H8.out).mono ?_); rintro e w10 ⟨rfl, H9⟩) | ((with_reducible refine (QN.out _ H9.out).mono ?_); rintro e w11 ⟨rfl, ⟨c7, cf⟩, H10⟩))
  have hx3 := box_set H10.out.2.2 7 (.bool (n7 == 1))
  have hkB : Kept (fun k => k = B) w11 (w11.setCell ⟨B, 7, none⟩ (.bool (n7 == 1))) := Kept.set _ _ _ _
  have HJ := Lib.hid (show RdL w W1 (w11.setCell ⟨B, 7, none⟩ (.bool (n7 == 1))) W1.heap.size B n0 n1 n2 n3 n4 n5 n6 n7 none 0 [] sc from ⟨H10.out.1.far hkB (fun k e => by rw [e]; have := HBL.out; have := HS1.out; omega) (fun e => by have e : W1.heap.size = B := e; have := HBL.out; omega), H10.out.2.1.trans (hkB.toBelow H10.out.2.1.size (fun k e => by rw [e]; exact Nat.le_of_lt HBL.out)), hx3, recRow_nil _ _⟩)
  have d8 : (w11.setCell ⟨B, 7, none⟩ (.bool (n7 == 1))).cell? ⟨B, 8, none⟩ = some (.slice none 0 0) := by rw [Lib.cell_of_heap hx3]; rfl
  have df := Lib.frozen_of_heap hx3
  have HF := Lib.hid (show FuelIs s sc [] sc from ⟨s.length + 1, by have := HSL.out; omega, rfl⟩)
  clear hx3 hkB
  go_loopw [] (fun wr => ∃ (a : Option Addr) (c n : Nat) (rs : List Rec) (z : RS), wr.cell? ⟨B, 8, none⟩ = some (.slice a n c) ∧ (∀ o, wr.frozen? ⟨B, o, none⟩ = false) ∧ Hid (rs.length = n ∧ n + z.r.length ≤ 40000 ∧ FuelIs s sc rs z ∧ RdL w W1 wr W1.heap.size B n0 n1 n2 n3 n4 n5 n6 n7 a c rs z)) (fun wr => leftOf W1.heap.size wr)
  case atStart => exact ⟨none, 0, 0, [], sc, d8, df, Lib.hid ⟨rfl, by have := HL9.out; omega, HF.out, HJ.out⟩⟩
  case round =>
    obtain ⟨a, c, n, rs, z, x8, xf, HR⟩ := hrel
    clear d8 df HJ HF c7 cf
    obtain ⟨LN, hLN⟩ : ∃ LN, LN = z.r.length := ⟨_, rfl⟩
    have QL := Lib.hid ((rLeft_c W1.heap.size z.r z.f wr HR.out.2.2.2.ra.rd).mono (R' := fun e w' => e = .returned (.int .i64 (LN : Int)) ∧ w' = wr) (fun e w' hq => ⟨by rw [hLN]; exact hq.1, hq.2.symm⟩))
    have HLN := Lib.hid hLN
    clear hLN
    by_cases h0 : LN = 0
    · have h0' : ¬ (0 : Int) < (LN : Int) := by omega
      have hz : z.r.length = 0 := by rw [← HLN.out]; exact h0
      obtain ⟨ok, hok⟩ : ∃ ok, ok = (!z.f && z.r.isEmpty) := ⟨_, rfl⟩
      obtain ⟨inr, hin⟩ : ∃ inr, inr = (decide (0 ≤ n7) && decide (n7 ≤ 1)) := ⟨_, rfl⟩
      have hn : rs.length = n := HR.out.1
      have hP := readP_at HE.out HE8.out (HR.out.2.2.1.done hz)
      have QD := Lib.hid ((rDone_c W1.heap.size z.r z.f wr HR.out.2.2.2.ra.rd).mono (R' := fun e w' => e = .returned (.bool ok) ∧ w' = wr) (fun e w' hq => ⟨by rw [hok]; exact hq.1, hq.2.symm⟩))
      have QW := Lib.hid ((within_c n7 0 1 wr).mono (R' := fun e w' => e = .returned (.bool inr) ∧ w' = wr) (fun e w' hq => ⟨by rw [hin]; exact hq.1, hq.2⟩))
      have hxr := box_on HX1.out HR.out.2.2.2.bel
      have HBR := Lib.hid (HB1.out.trans (HR.out.2.2.2.bel.mono HB1.out.size))
      have hyr := HR.out.2.2.2.box
      rw [hn] at hyr hP
      clear HLN hz
      have r0 : wr.cell? ⟨w.heap.size, 0, none⟩ = some (.int .i64 0) := by rw [Lib.cell_of_heap hxr]; rfl
      have r1 : wr.cell? ⟨w.heap.size, 1, none⟩ = some (.int .i64 0) := by rw [Lib.cell_of_heap hxr]; rfl
      have r2 : wr.cell? ⟨w.heap.size, 2, none⟩ = some (.int .i64 0) := by rw [Lib.cell_of_heap hxr]; rfl
      have r3 : wr.cell? ⟨w.heap.size, 3, none⟩ = some (.int .i64 0) := by rw [Lib.cell_of_heap hxr]; rfl
      have r4 : wr.cell? ⟨w.heap.size, 4, none⟩ = some (.int .i64 0) := by rw [Lib.cell_of_heap hxr]; rfl
      have r5 : wr.cell? ⟨w.heap.size, 5, none⟩ = some (.int .i64 0) := by rw [Lib.cell_of_heap hxr]; rfl
      have r6 : wr.cell? ⟨w.heap.size, 6, none⟩ = some (.int .i64 0) := by rw [Lib.cell_of_heap hxr]; rfl
      have r7 : wr.cell? ⟨w.heap.size, 7, none⟩ = some (.bool false) := by rw [Lib.cell_of_heap hxr]; rfl
      have r8 : wr.cell? ⟨w.heap.size, 8, none⟩ = some (.slice none 0 0) := by rw [Lib.cell_of_heap hxr]; rfl
      have rf := Lib.frozen_of_heap hxr
      have d0 : wr.cell? ⟨B, 0, none⟩ = some (.int .i64 n0) := by rw [Lib.cell_of_heap hyr]; rfl
      have d1 : wr.cell? ⟨B, 1, none⟩ = some (.int .i64 n1) := by rw [Lib.cell_of_heap hyr]; rfl
      have d2 : wr.cell? ⟨B, 2, none⟩ = some (.int .i64 n2) := by rw [Lib.cell_of_heap hyr]; rfl
      have d3 : wr.cell? ⟨B, 3, none⟩ = some (.int .i64 n3) := by rw [Lib.cell_of_heap hyr]; rfl
      have d4 : wr.cell? ⟨B, 4, none⟩ = some (.int .i64 n4) := by rw [Lib.cell_of_heap hyr]; rfl
      have d5 : wr.cell? ⟨B, 5, none⟩ = some (.int .i64 n5) := by rw [Lib.cell_of_heap hyr]; rfl
      have d6 : wr.cell? ⟨B, 6, none⟩ = some (.int .i64 n6) := by rw [Lib.cell_of_heap hyr]; rfl
      have d7 : wr.cell? ⟨B, 7, none⟩ = some (.bool (n7 == 1)) := by rw [Lib.cell_of_heap hyr]; rfl
      have d8 : wr.cell? ⟨B, 8, none⟩ = some (.slice a n c) := by rw [Lib.cell_of_heap hyr]; rfl
      cases ok with
      | false =>
        have HNO := Lib.hid (show readP s = none from by rw [hP]; exact if_neg (fun q => by rw [q.1, q.2.1] at hok; simp at hok))
        clear hP hok hin
        go_wp2_with (first | ((with_reducible refine QL.out.mono ?_); rintro e w2 ⟨rfl, hw⟩; rw [hw]; clear hw) | ((with_reducible refine QD.out.mono ?_); rintro e w3 ⟨rfl, hw⟩; rw [hw]; clear hw) | ((with_reducible refine QW.out.mono ?_); rintro e w4 ⟨rfl, hw⟩; rw [hw]; clear hw))
        (try simp only [Exit.inBlock, Exit.then])
        refine bodyPost_ret (ret_msg2 rfl _ _ w.heap.size ⟨zeroM, none, 0⟩ rfl (box9 hxr _ _ _ _ _ _ _ _ _)) rfl ?_
        exact ⟨⟨zeroM, none, 0⟩, by rw [HNO.out]; rfl, by rw [HNO.out]; rfl, Src.nil _ _, HBR.out.trans ((set9 _ _ _ _ _ _ _ _ _ _ _).toBelow HBR.out.size (fun k e => by rw [e]; exact Nat.le_refl _))⟩

      | true =>
        cases inr with
        | false =>
          have HNO := Lib.hid (show readP s = none from by rw [hP]; exact if_neg (fun q => by simp [q.2.2.1.1, q.2.2.1.2] at hin))
          clear hP hok hin
          go_wp2_with (first | ((with_reducible refine QL.out.mono ?_); rintro e w2 ⟨rfl, hw⟩; rw [hw]; clear hw) | ((with_reducible refine QD.out.mono ?_); rintro e w3 ⟨rfl, hw⟩; rw [hw]; clear hw) | ((with_reducible refine QW.out.mono ?_); rintro e w4 ⟨rfl, hw⟩; rw [hw]; clear hw))
          (try simp only [Exit.inBlock, Exit.then])
          refine bodyPost_ret (ret_msg2 rfl _ _ w.heap.size ⟨zeroM, none, 0⟩ rfl (box9 hxr _ _ _ _ _ _ _ _ _)) rfl ?_
          exact ⟨⟨zeroM, none, 0⟩, by rw [HNO.out]; rfl, by rw [HNO.out]; rfl, Src.nil _ _, HBR.out.trans ((set9 _ _ _ _ _ _ _ _ _ _ _).toBelow HBR.out.size (fun k e => by rw [e]; exact Nat.le_refl _))⟩

        | true =>
          by_cases hc : (n : Int) = n8
          · have HYES := Lib.hid (show readP s = some ⟨n0, n1, n2, n3, n4, n5, n6, (n7 == 1), rs⟩ from by
              simp at hok hin
              rw [hP]
              exact if_pos ⟨hok.1, hok.2, hin, hc⟩)
            clear hP hok hin
            go_wp2_with (first | ((with_reducible refine QL.out.mono ?_); rintro e w2 ⟨rfl, hw⟩; rw [hw]; clear hw) | ((with_reducible refine QD.out.mono ?_); rintro e w3 ⟨rfl, hw⟩; rw [hw]; clear hw) | ((with_reducible refine QW.out.mono ?_); rintro e w4 ⟨rfl, hw⟩; rw [hw]; clear hw))
            (try simp only [Exit.inBlock, Exit.then])
            refine bodyPost_ret (ret_msg2 rfl _ _ w.heap.size ⟨⟨n0, n1, n2, n3, n4, n5, n6, (n7 == 1), rs⟩, a, c⟩ rfl ?_) rfl ?_
            · have hq := box9 hxr (.int .i64 n0) (.int .i64 n1) (.int .i64 n2) (.int .i64 n3) (.int .i64 n4) (.int .i64 n5) (.int .i64 n6) (.bool (n7 == 1)) (.slice a n c)
              rw [← hn] at hq ⊢
              exact hq
            · have hk := set9 wr w.heap.size (.int .i64 n0) (.int .i64 n1) (.int .i64 n2) (.int .i64 n3) (.int .i64 n4) (.int .i64 n5) (.int .i64 n6) (.bool (n7 == 1)) (.slice a n c)
              have hsr := HR.out.2.2.2.row.src (G := fun k => w.heap.size < k) (fun k e => by have := HR.out.2.2.2.row.above e; have := HBL.out; have := HS1.out; omega)
              exact ⟨⟨⟨n0, n1, n2, n3, n4, n5, n6, (n7 == 1), rs⟩, a, c⟩, by rw [HYES.out]; rfl, by rw [HYES.out]; rfl, Src.mono' (Src.kept hsr hk (fun k _ e e' => by omega)) (fun k e => Nat.le_of_lt e), HBR.out.trans (hk.toBelow HBR.out.size (fun k e => by rw [e]; exact Nat.le_refl _))⟩
          · have hc' : ((n : Int) == n8) = false := by simp [hc]
            have HNO := Lib.hid (show readP s = none from by rw [hP]; exact if_neg (fun q => hc q.2.2.2))
            clear hP hok hin
            go_wp2_with (first | ((with_reducible refine QL.out.mono ?_); rintro e w2 ⟨rfl, hw⟩; rw [hw]; clear hw) | ((with_reducible refine QD.out.mono ?_); rintro e w3 ⟨rfl, hw⟩; rw [hw]; clear hw) | ((with_reducible refine QW.out.mono ?_); rintro e w4 ⟨rfl, hw⟩; rw [hw]; clear hw))
            (try simp only [Exit.inBlock, Exit.then])
            refine bodyPost_ret (ret_msg2 rfl _ _ w.heap.size ⟨zeroM, none, 0⟩ rfl (box9 hxr _ _ _ _ _ _ _ _ _)) rfl ?_
            exact ⟨⟨zeroM, none, 0⟩, by rw [HNO.out]; rfl, by rw [HNO.out]; rfl, Src.nil _ _, HBR.out.trans ((set9 _ _ _ _ _ _ _ _ _ _ _).toBelow HBR.out.size (fun k e => by rw [e]; exact Nat.le_refl _))⟩
    · have h0' : (0 : Int) < (LN : Int) := by omega
      go_upto_region 6 with ((with_reducible refine QL.out.mono ?_); rintro e w2 ⟨rfl, hw⟩; rw [hw]; clear hw)
      have hbd : Below wr.heap.size wr wr.drew := below_drew (Below.refl _ _)
      obtain ⟨xt, hxt⟩ : ∃ xt, xt = (rdRec z).1.t := ⟨_, rfl⟩
      obtain ⟨xd, hxd⟩ : ∃ xd, xd = (rdRec z).1.d := ⟨_, rfl⟩
      have hx : (rdRec z).1 = ⟨xt, xd⟩ := by rw [hxt, hxd]
      have hn : rs.length = n := HR.out.1
      have QR := Lib.hid ((HR.out.2.2.2.on hbd).read HG.out HBL.out (Nat.le_refl _) (by have := HR.out.2.1; omega))
      rw [← hxt, ← hxd] at QR
      clear hxt hxd hbd
      refine e_start [7] (fun w' => w'.cell? ⟨B, 8, none⟩ = some (.slice a n c) ∧ (∀ o, w'.frozen? ⟨B, o, none⟩ = false)) (by kernel_rfl) ⟨x8, xf⟩ (fun hS => ?_)
      refine e_take (i := 0) (v := ?_) rfl (by kernel_rfl) (by kernel_rfl) (by kernel_rfl) (by kernel_rfl) (fun _ _ _ h => h) (Or.inl ⟨by rfl, ?_⟩) (by assumption) ?_
      rotate_left
      · (intro wS hSw; (try dsimp only at hSw); obtain ⟨s1, s2⟩ := hSw; go_simp <;> with_reducible rfl)
      try simp only [Act.put, List.setIfInBounds_toArray, List.set_cons_zero, List.set_cons_succ]
      refine e_take (i := 1) (v := ?_) rfl (by kernel_rfl) (by kernel_rfl) (by kernel_rfl) (by kernel_rfl) (fun _ _ _ h => h) (Or.inl ⟨by rfl, ?_⟩) (by assumption) ?_
      rotate_left
      · (intro wS hSw; (try dsimp only at hSw); obtain ⟨s1, s2⟩ := hSw; go_simp <;> with_reducible rfl)
      try simp only [Act.put, List.setIfInBounds_toArray, List.set_cons_zero, List.set_cons_succ]
      refine e_take (i := 2) (v := ?_) rfl (by kernel_rfl) (by kernel_rfl) (by kernel_rfl) (by kernel_rfl) (fun _ _ _ h => h) (Or.inl ⟨by rfl, ?_⟩) (by assumption) ?_
      rotate_left
      · (intro wS hSw; (try dsimp only at hSw); obtain ⟨s1, s2⟩ := hSw; go_simp <;> with_reducible rfl)
      try simp only [Act.put, List.setIfInBounds_toArray, List.set_cons_zero, List.set_cons_succ]
      refine e_one (i := 3) (by kernel_rfl) rfl rfl (fun K hK => ?_)
      go_simp
      refine QR.out.mono ?_
      rintro e w3 ⟨rfl, HR3⟩
      try simp only [go_sem]
      obtain ⟨q1, a1, c1, w5, hrA, q5, HR5⟩ := HR3.out.push HBL.out (Nat.le_refl _) (rdRec z).1 (by have := HR.out.1; have := HR.out.2.1; omega)
      rw [hx] at hrA HR5 q1
      rw [hn] at hrA HR5
      have HR5 := Lib.hid HR5
      have yA : (w3.alloc (.cells #[.int .i64 xt, .string ⟨xd.toArray⟩] 27)).cell? ⟨B, 8, none⟩ = some (.slice a n c) := by rw [Lib.cell_of_heap q1, ← hn]; rfl
      have yfA := Lib.frozen_of_heap q1
      have y3 : w3.cell? ⟨B, 8, none⟩ = some (.slice a n c) := by rw [Lib.cell_of_heap HR3.out.box, ← hn]; rfl
      have yf3 := Lib.frozen_of_heap HR3.out.box
      have y5 : w5.cell? ⟨B, 8, none⟩ = some (.slice a n c) := by rw [Lib.cell_of_heap q5, ← hn]; rfl
      have yf5 := Lib.frozen_of_heap q5
      clear q1 q5
      refine hK _ _ (Or.inr ⟨y3, yf3⟩) ?_
      try simp only [Act.put, List.setIfInBounds_toArray, List.set_cons_zero, List.set_cons_succ]
      refine e_one (i := 4) (by kernel_rfl) rfl rfl (fun K hK => ?_)
      go_simp
      refine hK _ _ (Or.inr ⟨yA, yfA⟩) ?_
      try simp only [Act.put, List.setIfInBounds_toArray, List.set_cons_zero, List.set_cons_succ]
      refine e_one (i := 5) (by kernel_rfl) rfl rfl (fun K hK => ?_)
      refine Lib.wp_append_run _ (.tmp 36) (.tmp 39) _ _ rfl _ _ rfl rfl _ _ hrA ?_
      refine hK _ _ (Or.inr ⟨y5, yf5⟩) ?_
      try simp only [Act.put, List.setIfInBounds_toArray, List.set_cons_zero, List.set_cons_succ]
      refine e_one (i := 6) (by kernel_rfl) rfl rfl (fun K hK => ?_)
      go_simp
      refine hK _ _ (Or.inr ⟨y5, yf5⟩) ?_
      try simp only [Act.put, List.setIfInBounds_toArray, List.set_cons_zero, List.set_cons_succ]
      refine e_one (i := 7) (by kernel_rfl) rfl rfl (fun K hK => ?_)
      go_simp
      refine hK _ _ (Or.inl (by simp)) ?_
      try simp only [Act.put, List.setIfInBounds_toArray, List.set_cons_zero, List.set_cons_succ]
      refine e_done (by kernel_rfl) ?_ _
      go_roundw
      case rel =>
        have e1 : (rs ++ [(⟨xt, xd⟩ : Rec)]).length = n + 1 := by rw [List.length_append, hn]; rfl
        have hLN := HLN.out
        have h40 := HR.out.2.1
        refine ⟨_, _, _, _, _, _, _, _, _, _, ⟨a1, c1, n + 1, rs ++ [⟨xt, xd⟩], (rdRec z).2, ?_, Lib.frozen_of_heap HR5.out.box, Lib.hid ⟨e1, ?_, ?_, HR5.out⟩⟩, rfl⟩
        · rw [Lib.cell_of_heap HR5.out.box, ← e1]
          rfl
        · have := rdRec_lt (s := z) (by omega)
          omega
        · rw [← hx]
          exact HR.out.2.2.1.more (by omega)
      case measure =>
        rw [leftOf_rd HR5.out.ra.rd, leftOf_rd HR.out.2.2.2.ra.rd]
        exact rdRec_lt (by have := HLN.out; omega)
end Go.Proofs.YtkmojcpiadpbaaaGreatDoor
