/-
  The reference's disk: a sector survives.
-/
import Derived.Test.YtninopllfbiccaaDoorDGy
import Derived.Deep.RegionLaw
import Derived.IntWalk
import Derived.StillTailTactics
namespace Go.Proofs.YtninopllfbiccaaDoor
set_option maxRecDepth 100000
open Go Go.RowKit Go.Maps Dk

def surviveR (X : R) (p : Nat × Nat) : R :=
  { X with fs := setR X.fs (if 64 * p.2 < (getR X.fs (p.1 : Int)).now.length then { getR X.fs (p.1 : Int) with dur := put (getR X.fs (p.1 : Int)).dur (64 * p.2) (sec (getR X.fs (p.1 : Int)).now p.2) } else getR X.fs (p.1 : Int)) }
theorem sec_cut (N : List UInt8) (n a en : Nat) (ha : a = 64 * n) (he : en = min (a + 64) N.length) (h : a < N.length) : (N.take en).drop a = sec N n := by
  unfold sec
  subst ha he
  rw [List.drop_take]
  by_cases h1 : 64 * n + 64 ≤ N.length
  · rw [Nat.min_eq_left h1]
    congr 1
    omega
  · rw [Nat.min_eq_right (by omega), List.take_of_length_le (by simp), List.take_of_length_le (by simp; omega)]
theorem rstep_set {w w1 w2 : World} {r : Nat} {fv fv' qv kv : Value} {X Y : R} (hb : Below w.heap.size w w1) (hR : RAt w2 r fv' qv kv Y) (hf : ∀ k, fv'.ownBlock = some k → w1.heap.size ≤ k) (hk : Kept (fun k => k = r) w1 w2) (_h : RAt w r fv qv kv X) : RStep w w2 r fv qv kv Y :=
  RStep.mk hR (fun k e => Or.inr (by have := hf k e; have := hb.size; omega)) (fun k e => Or.inl e) (((Kept.below (S := fun k => k = r ∨ fv.ownBlock = some k ∨ qv.ownBlock = some k) hb)).trans hk (fun k _ e => Or.inl e))

set_option maxHeartbeats 4000000 in
set_option maxRecDepth 100000 in
theorem rsurvive_c (r : Nat) (fv qv kv : Value) (X : R) (hX : X.Ok) (f n : Nat) (hn : n ≤ 262144) (w : World) (h : RAt w r fv qv kv X) :
    Calls Tryd.prog 44 #[.pointer (some ⟨r, 0, none⟩), .agg #[.int .i64 (f : Int), .int .i64 (n : Int)]] w fun e w' => e = .returned (.tuple #[]) ∧ RStep w w' r fv qv kv (surviveR X (f, n)) := by
  have hfew := hX.few
  have hsm := getR_small hX (f : Int)
  obtain ⟨x, hx⟩ : ∃ x, x = getR X.fs (f : Int) := ⟨_, rfl⟩
  have HS1 := Lib.hid (show 64 * n < x.now.length → surviveR X (f, n) = { X with fs := setR X.fs ⟨x.num, x.now, put x.dur (64 * n) (sec x.now n)⟩ } from fun hc => by
    unfold surviveR
    simp only [← hx]
    rw [if_pos hc])
  have HS2 := Lib.hid (show ¬ 64 * n < x.now.length → surviveR X (f, n) = { X with fs := setR X.fs x } from fun hc => by
    unfold surviveR
    simp only [← hx]
    rw [if_neg hc])
  obtain ⟨Y, hYe⟩ : ∃ Y, Y = surviveR X (f, n) := ⟨_, rfl⟩
  rw [← hYe] at HS1 HS2 ⊢
  have hxn : x.num = (f : Int) := by rw [hx]; exact getR_num _ _
  obtain ⟨W0, hW0⟩ : ∃ W0, W0 = w.alloc (.cells #[.int .i64 (f : Int), .int .i64 (n : Int)] 80) := ⟨_, rfl⟩
  have hB0 : Below w.heap.size w W0 := by rw [hW0]; exact (Below.refl _ _).alloc (Nat.le_refl _) _
  have hq0 : W0.heap[w.heap.size]? = some (.cells #[.int .i64 (f : Int), .int .i64 (n : Int)] 80 (0, 0)) := by rw [hW0]; exact heap_alloc_new w _
  have q1 := rget_c r fv qv kv X (f : Int) W0 (h.on hB0) (by omega)
  rw [← hx] at q1
  unfold rfV at q1
  have q00 : W0.cell? ⟨w.heap.size, 0, none⟩ = some (.int .i64 (f : Int)) := by rw [Lib.cell_of_heap hq0]; rfl
  have q01 : W0.cell? ⟨w.heap.size, 1, none⟩ = some (.int .i64 (n : Int)) := by rw [Lib.cell_of_heap hq0]; rfl
  have Q1 := Lib.hid q1
  have H := Lib.hid h
  have HQ0 := Lib.hid hq0
  have HB0 := Lib.hid hB0
  obtain ⟨hsm1, hsm2⟩ := hsm
  rw [← hx] at hsm1 hsm2
  clear h q1 hx hq0 hB0 hYe
  go_enter Tryd.func44, Tryd.ntmps44
  go_upto_region 2 with (go_at_call 49; (try rw [← hW0]); refine Q1.out.mono ?_; rintro e w2 ⟨rfl, hb2⟩)
  obtain ⟨W2, hW2⟩ : ∃ W2, W2 = w2.alloc (.cells #[.int .i64 (f : Int), .string ⟨x.now.toArray⟩, .string ⟨x.dur.toArray⟩] 82) := ⟨_, rfl⟩
  rw [← hW2]
  have hbx : FBox W2 w2.heap.size ⟨(f : Int), x.now, x.dur⟩ := by rw [hW2]; exact FBox.new w2 ⟨(f : Int), x.now, x.dur⟩
  have hB02 : Below W0.heap.size W0 W2 := by rw [hW2]; exact hb2.alloc hb2.size _
  have hB2 : Below w.heap.size w W2 := HB0.out.trans (hB02.mono HB0.out.size)
  have hwl : w.heap.size < W0.heap.size := (Array.getElem?_eq_some_iff.1 HQ0.out).1
  have hq2 : W2.heap[w.heap.size]? = some (.cells #[.int .i64 (f : Int), .int .i64 (n : Int)] 80 (0, 0)) := (hB02.block _ hwl).trans HQ0.out
  obtain ⟨b, hbe⟩ : ∃ b, b = w2.heap.size := ⟨_, rfl⟩
  have hbw : w.heap.size < b := by have := hb2.size; omega
  rw [← hbe] at hbx ⊢
  have d0 := hbx.c0
  have d1 := hbx.c1
  have d2 := hbx.c2
  have e0 : W2.cell? ⟨w.heap.size, 0, none⟩ = some (.int .i64 (f : Int)) := by rw [Lib.cell_of_heap hq2]; rfl
  have e1 : W2.cell? ⟨w.heap.size, 1, none⟩ = some (.int .i64 (n : Int)) := by rw [Lib.cell_of_heap hq2]; rfl
  obtain ⟨at', hat⟩ : ∃ at', at' = 64 * n := ⟨_, rfl⟩
  have hmul : 64 * (n : Int) = (at' : Int) := by omega
  have hmul2 : (n : Int) * 64 = (at' : Int) := by omega
  have HBX := Lib.hid hbx
  have HB2 := Lib.hid hB2
  have HAT := Lib.hid hat
  have HXN := Lib.hid hxn
  rw [← hat] at HS1 HS2
  have has : at' ≤ 16777216 := by omega
  clear hW2 hb2 hB02 hwl hq2 hbx hB2 hbe hat q00 q01 hW0 hn
  by_cases hlt : at' < x.now.length
  · have HYE := Lib.hid (HS1.out hlt)
    have hlt' : (at' : Int) < (x.now.length : Int) := by omega
    obtain ⟨en, hen⟩ : ∃ en, en = min (at' + 64) x.now.length := ⟨_, rfl⟩
    have hmin : (if ((x.now.length : Nat) : Int) < (at' : Int) + 64 then ((x.now.length : Nat) : Int) else (at' : Int) + 64) = (en : Int) := by split <;> omega
    have hsl := slice_str x.now at' en (by omega) (by omega)
    rw [sec_cut x.now n at' en HAT.out hen hlt] at hsl
    have hsecl : (sec x.now n).length ≤ 64 := by rw [sec_length]; omega
    have hsecn : sec x.now n ≠ [] := by
      intro e
      have h1 := sec_length x.now n
      rw [e] at h1
      have := HAT.out
      simp at h1
      omega
    have hene : en ≤ 16777216 := by omega
    have q2 := rput_c x.dur at' (sec x.now n) hsm2 (by omega) W2.drew
    unfold putR at q2
    rw [if_neg hsecn] at q2
    obtain ⟨y, hy⟩ : ∃ y : RF, y = ⟨x.num, x.now, put x.dur at' (sec x.now n)⟩ := ⟨_, rfl⟩
    rw [← hy] at HYE
    obtain ⟨dd, hdd⟩ : ∃ dd, dd = put x.dur at' (sec x.now n) := ⟨_, rfl⟩
    rw [← hdd] at q2 hy
    obtain ⟨sc, hsc⟩ : ∃ sc, sc = sec x.now n := ⟨_, rfl⟩
    rw [← hsc] at q2 hsl
    have Q2 := Lib.hid (q2.mono (R' := fun e w3 => e = .returned (.string ⟨dd.toArray⟩) ∧ w3.cell? ⟨b, 0, none⟩ = some (.int .i64 (f : Int)) ∧ w3.cell? ⟨b, 1, none⟩ = some (.string ⟨x.now.toArray⟩) ∧ w3.cell? ⟨b, 2, none⟩ = some (.string ⟨x.dur.toArray⟩) ∧ w3.frozen? ⟨b, 2, none⟩ = false ∧ Hid (Below w.heap.size w w3)) (by
      rintro e w3 ⟨rfl, hb3⟩
      have hb3' : Below W2.heap.size W2 w3 := ⟨hb3.os, hb3.tape, hb3.output, hb3.size, hb3.block⟩
      have hbx3 := HBX.out.on hb3'
      exact ⟨rfl, hbx3.c0, hbx3.c1, hbx3.c2, hbx3.z 2, Lib.hid (HB2.out.trans (hb3'.mono HB2.out.size))⟩))
    have HY := Lib.hid (show rfV y = .agg #[.int .i64 (f : Int), .string ⟨x.now.toArray⟩, .string ⟨dd.toArray⟩] by rw [hy, ← HXN.out]; rfl)
    clear q2 hsecn hsecl hen hy hdd hsc
    have hw1 : IntKind.i64.wrap (at' : Int) = (at' : Int) := IntWalk.i64_in _ (by omega)
    have hw2 : IntKind.i64.wrap ((at' : Int) + 64) = (at' : Int) + 64 := IntWalk.i64_in _ (by omega)
    go_upto_region 3 with fail
    go_still_tail 19, (by kernel_rfl)
    change wpList _ _ _ _ _ W2.drew
    clear d0 d1 d2 e0 e1 hsl hmin hw1 hw2 hmul hmul2
    go_wp2_with (go_at_call 57; refine Q2.out.mono ?_; rintro e w3 ⟨rfl, d0, d1, d2, z2, HB3⟩)
    obtain ⟨W4, hW4⟩ : ∃ W4, W4 = w3.setCell ⟨b, 2, none⟩ (.string ⟨dd.toArray⟩) := ⟨_, rfl⟩
    rw [← hW4]
    have hB4 : Below w.heap.size w W4 := by rw [hW4]; exact HB3.out.setCell (Nat.le_of_lt hbw) _
    have q3 := rset_c r fv qv kv X y (by omega) W4 (H.out.on hB4)
    rw [HY.out] at q3
    refine q3.mono ?_
    rintro e w5 ⟨rfl, fv5, hR5, hf5, hk5⟩
    have hst := rstep_set hB4 hR5 hf5 hk5 H.out
    clear q3 hR5 hf5 hk5 d0 d1 d2 z2 HB3 hW4
    go_wp2_with fail
    go_end0
    exact ⟨rfl, by rw [HYE.out]; exact hst⟩
  · have HYE := Lib.hid (HS2.out hlt)
    have hlt' : ¬ (at' : Int) < (x.now.length : Int) := by omega
    have q3 := rset_c r fv qv kv X x (by omega) W2 (H.out.on HB2.out)
    rw [show rfV x = .agg #[.int .i64 (f : Int), .string ⟨x.now.toArray⟩, .string ⟨x.dur.toArray⟩] by rw [← HXN.out]; rfl] at q3
    have Q3 := Lib.hid q3
    clear q3
    go_wp2_with (go_at_call 58; refine Q3.out.mono ?_; rintro e w5 ⟨rfl, fv5, hR5, hf5, hk5⟩)
    go_end0
    exact ⟨rfl, by rw [HYE.out]; exact rstep_set HB2.out hR5 hf5 hk5 H.out⟩
end Go.Proofs.YtninopllfbiccaaDoor
