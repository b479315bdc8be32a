/-
  The program reads one entry of a string.
-/
import Derived.Test.YtkmojcpiadpbaaaGreatDoorKRead
import Derived.Test.YtkmojcpiadpbaaaGreatDoorRProp
namespace Go.Proofs.YtkmojcpiadpbaaaGreatDoor
set_option maxRecDepth 100000
open Go Go.RowKit Go.Sort Wire Rp

/-- The one entry that a string is. -/
def readR (s : List UInt8) : Option Rec := if (!(rdRec ⟨s, false⟩).2.f && (rdRec ⟨s, false⟩).2.r.isEmpty) = true then some (rdRec ⟨s, false⟩).1 else none
theorem readR_eRec {x : Rec} (h : OkR x) : readR (eRec x) = some x := by
  have e : rdRec ⟨eRec x, false⟩ = (x, ⟨[], false⟩) := by have := rdRec_eRec (r := []) (f := false) h; rwa [List.append_nil] at this
  unfold readR
  rw [e]
  rfl
theorem readR_some {s : List UInt8} {x : Rec} (h : readR s = some x) : OkR x ∧ s = eRec x := by
  unfold readR at h
  split at h
  · next k =>
    simp only [Bool.and_eq_true, Bool.not_eq_true', List.isEmpty_iff] at k
    injection h with h
    obtain ⟨_, h2, h3⟩ := rdRec_good k.1
    rw [h] at h2 h3
    rw [k.2, List.append_nil] at h3
    exact ⟨h2, h3⟩
  · cases h
def recV (x : Rec) : Value := .agg #[.int .i64 x.t, .string ⟨x.d.toArray⟩]
theorem only_below {b : Nat} {w w' : World} {n : Nat} (h : Only b w w') (hn : n ≤ w.heap.size) (hb : n ≤ b) : Below n w w' := (only_kept h).toBelow hn (fun k e => by rw [e]; exact hb)
set_option maxHeartbeats 2000000 in
theorem readR_c (s : List UInt8) (hs : s.length ≤ 2000000) (w : World) (hg : Good w) : Calls Tryz.prog 5 #[.string ⟨s.toArray⟩] w fun e w' => e = .returned (.tuple #[recV ((readR s).getD ⟨0, []⟩), .bool (readR s).isSome]) ∧ Hid (Below w.heap.size w w') := by
  obtain ⟨W1, hW1⟩ : ∃ W1, W1 = w.alloc (.cells #[.int .i64 0, .string ⟨#[]⟩] 27) := ⟨_, rfl⟩
  have hb1 : Below w.heap.size w W1 := by rw [hW1]; exact below_new w _
  have hx1 : W1.heap[w.heap.size]? = some (.cells #[.int .i64 0, .string ⟨#[]⟩] 27 (0, 0)) := by rw [hW1]; exact box_new w _
  have hs1 : w.heap.size < W1.heap.size := box_lt hx1
  have QO := Lib.hid ((rOpen_c s W1).mono (R' := fun e w' => e = .returned (.pointer (some ⟨W1.heap.size, 0, none⟩)) ∧ Hid (RA w w' W1.heap.size ⟨s, false⟩ ∧ Below W1.heap.size W1 w')) (fun e w' hh => ⟨hh.1, Lib.hid ⟨⟨hb1.trans (hh.2.2.mono hb1.size), hb1.size, hh.2.1, fun e => by cases e⟩, hh.2.2⟩⟩))
  obtain ⟨x, s', he⟩ : ∃ x s', rdRec ⟨s, false⟩ = (x, s') := ⟨_, _, rfl⟩
  have QR := Lib.hid (fun (wx : World) (hh : RA w wx W1.heap.size ⟨s, false⟩ ∧ Below W1.heap.size W1 wx) => (readRec_k hh.1 hg (by show s.length ≤ _; omega)).mono (R' := fun e w' => e = .returned (.agg #[.int .i64 x.t, .string ⟨x.d.toArray⟩]) ∧ (w'.cell? ⟨w.heap.size, 0, none⟩ = some (.int .i64 0) ∧ w'.cell? ⟨w.heap.size, 1, none⟩ = some (.string ⟨#[]⟩) ∧ (∀ o, w'.frozen? ⟨w.heap.size, o, none⟩ = false)) ∧ Hid (RA w w' W1.heap.size s' ∧ Below W1.heap.size W1 w')) (fun e w' hq => by
    obtain ⟨y, hy, hv, h1, h2⟩ := hq
    rw [he] at hy h1
    subst hy
    have hx := box_on hx1 (hh.2.trans (only_below h2 hh.2.size (Nat.le_refl _)))
    exact ⟨hv, ⟨by rw [Lib.cell_of_heap hx]; rfl, by rw [Lib.cell_of_heap hx]; rfl, fun o => Lib.frozen_of_heap hx o⟩, Lib.hid ⟨h1, hh.2.trans (only_below h2 hh.2.size (Nat.le_refl _))⟩⟩))
  obtain ⟨ok, hok⟩ : ∃ ok, ok = (!s'.f && s'.r.isEmpty) := ⟨_, rfl⟩
  have QD := Lib.hid (fun (wx : World) (hh : RA w wx W1.heap.size s' ∧ Below W1.heap.size W1 wx) => (rDone_c W1.heap.size s'.r s'.f (wx.alloc (.cells #[.int .i64 x.t, .string ⟨x.d.toArray⟩] 27)) (hh.1.on (below_new _ _)).rd).mono (R' := fun e w' => e = .returned (.bool ok) ∧ (w'.cell? ⟨w.heap.size, 0, none⟩ = some (.int .i64 0) ∧ w'.cell? ⟨w.heap.size, 1, none⟩ = some (.string ⟨#[]⟩) ∧ (∀ o, w'.frozen? ⟨w.heap.size, o, none⟩ = false)) ∧ (w'.cell? ⟨wx.heap.size, 0, none⟩ = some (.int .i64 x.t) ∧ w'.cell? ⟨wx.heap.size, 1, none⟩ = some (.string ⟨x.d.toArray⟩)) ∧ Hid (w'.heap[w.heap.size]? = some (.cells #[.int .i64 0, .string ⟨#[]⟩] 27 (0, 0)) ∧ Below W1.heap.size W1 w')) (fun e w' hq => by
    have hb := hh.2.trans ((below_new wx (.cells #[.int .i64 x.t, .string ⟨x.d.toArray⟩] 27)).mono hh.2.size)
    have hx := box_on hx1 hb
    have hy := box_new wx (.cells #[.int .i64 x.t, .string ⟨x.d.toArray⟩] 27)
    rw [← hq.2]
    exact ⟨by rw [hok]; exact hq.1, ⟨by rw [Lib.cell_of_heap hx]; rfl, by rw [Lib.cell_of_heap hx]; rfl, fun o => Lib.frozen_of_heap hx o⟩, ⟨by rw [Lib.cell_of_heap hy]; rfl, by rw [Lib.cell_of_heap hy]; rfl⟩, Lib.hid ⟨hx, hb⟩⟩))
  have hres : readR s = if ok = true then some x else none := by unfold readR; rw [he, hok]
  rw [hres]
  have HB1 := Lib.hid hb1
  have HX1 := Lib.hid hx1
  have HS1 := Lib.hid hs1
  clear hb1 hx1 hs1 he hok hres hg hs
  cases ok with
  | true =>
    go_enter Tryz.func5, Tryz.ntmps5
    go_upto_region 1 with fail
    rw [← hW1]
    clear hW1
    go_wp2_with (first | ((with_reducible refine QO.out.mono ?_); rintro e w2 ⟨rfl, H2⟩) | ((with_reducible refine (QR.out _ H2.out).mono ?_); rintro e w3 ⟨rfl, ⟨c0, c1, cf⟩, H3⟩) | ((with_reducible refine (QD.out _ H3.out).mono ?_); clear c0 c1 cf; rintro e w4 ⟨rfl, ⟨c0, c1, cf⟩, ⟨g0, g1⟩, H4⟩))
    (try simp only [Exit.inBlock, Exit.then])
    refine bodyPost_ret (ret_rec2 rfl _ _ w.heap.size _ _ rfl (box_set (box_set H4.out.1 0 _) 1 _)) rfl ?_
    exact ⟨rfl, Lib.hid ((HB1.out.trans (H4.out.2.mono HB1.out.size)).trans (((Kept.set _ _ _ _).trans (Kept.set _ _ _ _) (fun _ _ e => e)).toBelow (Nat.le_trans (Nat.le_of_lt HS1.out) H4.out.2.size) (fun k e => by rw [e]; exact Nat.le_refl _)))⟩
  | false =>
    go_enter Tryz.func5, Tryz.ntmps5
    go_upto_region 1 with fail
    rw [← hW1]
    clear hW1
    go_wp2_with (first | ((with_reducible refine QO.out.mono ?_); rintro e w2 ⟨rfl, H2⟩) | ((with_reducible refine (QR.out _ H2.out).mono ?_); rintro e w3 ⟨rfl, ⟨c0, c1, cf⟩, H3⟩) | ((with_reducible refine (QD.out _ H3.out).mono ?_); clear c0 c1 cf; rintro e w4 ⟨rfl, ⟨c0, c1, cf⟩, ⟨g0, g1⟩, H4⟩))
    (try simp only [Exit.inBlock, Exit.then])
    refine bodyPost_ret (ret_rec2 rfl _ _ w.heap.size _ _ rfl (box_set (box_set H4.out.1 0 _) 1 _)) rfl ?_
    exact ⟨rfl, Lib.hid ((HB1.out.trans (H4.out.2.mono HB1.out.size)).trans (((Kept.set _ _ _ _).trans (Kept.set _ _ _ _) (fun _ _ e => e)).toBelow (Nat.le_trans (Nat.le_of_lt HS1.out) H4.out.2.size) (fun k e => by rw [e]; exact Nat.le_refl _)))⟩
end Go.Proofs.YtkmojcpiadpbaaaGreatDoor
