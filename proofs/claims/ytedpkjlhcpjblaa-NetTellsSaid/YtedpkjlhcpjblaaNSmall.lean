/-
  The law's examples; how many operations there are; how often a packet is in a list.
-/
import Derived.Test.YtedpkjlhcpjblaaNLaw
namespace Go.Proofs.Ytedpkjlhcpjblaa
set_option maxRecDepth 100000
open Go Go.RowKit Nt

set_option maxHeartbeats 4000000 in
theorem small_c (w : World) : Calls Try.prog 7 #[] w fun e w' => e = .returned (.bool true) ∧ Below w.heap.size w w' := by
  go_enter Try.func7, Try.ntmps7
  go_wp2_with fail
  refine (nf_new (w0 := w) (Below.refl _ _) (F := fun _ => False) (fun _ e => e.elim)).mono ?_
  rintro e w1 ⟨rfl, hn1, hb1, hl1⟩
  have H1 := Lib.hid (And.intro hn1 (And.intro hb1 hl1))
  clear hn1 hb1 hl1
  go_wp2_with fail
  refine (new_c w1).mono ?_
  rintro e w2 ⟨rfl, hm2, hb2⟩
  obtain ⟨M, hM⟩ : ∃ M, M = w1.heap.size := ⟨_, rfl⟩
  have hn2 : NF w w2 w.heap.size new (fun k => k = M) := H1.out.1.below hb2 (fun k e => ⟨Or.inr (by rw [e, hM]; exact Nat.le_refl _), by rw [e, hM]; exact hm2.lt⟩)
  have hMl : w.heap.size ≤ M := by rw [hM]; exact H1.out.2.1.size
  have hMn : M ≠ w.heap.size := by have := H1.out.2.2; omega
  rw [← hM] at hm2 ⊢
  have HN2 := Lib.hid hn2
  have HM2 := Lib.hid hm2
  have HMl := Lib.hid hMl
  have HMn := Lib.hid hMn
  clear hm2 hb2 hn2 hM hMl hMn H1
  go_wp2_with fail
  refine (nf_send HN2.out (n' := ⟨[⟨0, 1, [97]⟩], 0⟩) (z := 0) (x := 0) (y := 1) (s := [97]) rfl).mono ?_
  rintro e w3 ⟨rfl, hn3, hk3⟩
  have HN3 := Lib.hid hn3
  have HM3 := Lib.hid (HM2.out.kept hk3 (fun e => e rfl) (fun k e => by cases e))
  clear hn3 hk3
  go_wp2_with fail
  refine (nf_send HN3.out (n' := ⟨[⟨0, 1, [97]⟩, ⟨0, 2, [98]⟩], 0⟩) (z := 0) (x := 0) (y := 2) (s := [98]) rfl).mono ?_
  rintro e w4 ⟨rfl, hn4, hk4⟩
  have HN4 := Lib.hid hn4
  have HM4 := Lib.hid (HM3.out.kept hk4 (fun e => e rfl) (fun k e => by cases e))
  clear hn4 hk4
  go_wp2_with fail
  refine (nf_deliver HN4.out (n' := ⟨[⟨0, 1, [97]⟩], 0⟩) (z := 0) (p := ⟨0, 2, [98]⟩) (i := 1) rfl).mono ?_
  rintro e w5 ⟨rfl, hn5, hk5⟩
  obtain ⟨W5, hW5⟩ : ∃ W5, W5 = w5.alloc (.cells #[.int .i64 0, .int .i64 2, .string ⟨#[98]⟩] 33) := ⟨_, rfl⟩
  have hb5 : Below w5.heap.size w5 W5 := by rw [hW5]; exact (Below.refl _ _).alloc (Nat.le_refl _) _
  have HX5 := Lib.hid (show PkBox W5 w5.heap.size ⟨0, 2, [98]⟩ by rw [hW5]; exact PkBox.new w5 ⟨0, 2, [98]⟩)
  have HN5 := Lib.hid (hn5.up hb5)
  have HM5 := Lib.hid ((HM4.out.kept hk5 (fun e => e rfl) (fun k e => by cases e)).on hb5)
  have HX5' := Lib.hid (show Up (fun k => k = M) w5 W5 w5.heap.size from Or.inr ⟨Nat.le_refl _, HX5.out.lt⟩)
  have HM5' := Lib.hid (show Up (fun k => k = M) w5 W5 M from Or.inl rfl)
  obtain ⟨bx, hbx⟩ : ∃ bx, bx = w5.heap.size := ⟨_, rfl⟩
  have HL5 := Lib.hid (show w.heap.size ≤ bx by rw [hbx]; exact hn5.base.size)
  rw [← hbx] at HX5 HX5'
  have HBX := Lib.hid (show M ≠ bx by rw [hbx]; have := HM5.out.lt; have := (HM4.out.kept hk5 (fun e => e rfl) (fun k e => by cases e)).lt; omega)
  generalize hF : Up (fun k => k = M) w5 W5 = F5 at HN5 HX5' HM5'
  clear hn5 hk5 hb5 hF
  go_upto_region 8 with fail
  rw [← hW5, ← hbx]
  clear hW5 hbx
  go_wp2_with fail
  refine (nf_deliver HN5.out (n' := ⟨[], 0⟩) (z := 0) (p := ⟨0, 1, [97]⟩) (i := 0) rfl).mono ?_
  rintro e w6 ⟨rfl, hn6, hk6⟩
  obtain ⟨W6, hW6⟩ : ∃ W6, W6 = w6.alloc (.cells #[.int .i64 0, .int .i64 1, .string ⟨#[97]⟩] 33) := ⟨_, rfl⟩
  have hb6 : Below w6.heap.size w6 W6 := by rw [hW6]; exact (Below.refl _ _).alloc (Nat.le_refl _) _
  have hx6 := hk6.box HX5.out HX5'.out
  have hm6 := HM5.out.kept hk6 (fun e => e HM5'.out) (fun k e => by cases e)
  have HX6 := Lib.hid (hx6.kept (Kept.below (S := fun _ => False) hb6) (fun e => e))
  have HY6 := Lib.hid (show PkBox W6 w6.heap.size ⟨0, 1, [97]⟩ by rw [hW6]; exact PkBox.new w6 ⟨0, 1, [97]⟩)
  have HM6 := Lib.hid (hm6.on hb6)
  have HB6 := Lib.hid (hn6.base.trans (hb6.mono hn6.base.size))
  obtain ⟨by', hby⟩ : ∃ by', by' = w6.heap.size := ⟨_, rfl⟩
  have HBY := Lib.hid (show M ≠ by' ∧ bx ≠ by' by rw [hby]; have := hm6.lt; have := hx6.lt; omega)
  rw [← hby] at HY6
  clear hn6 hk6 hb6 hx6 hm6
  go_upto_region 9 with fail
  rw [← hW6, ← hby]
  clear hW6 hby
  have hnm : NF w W6 M new (fun k => k = bx ∨ k = by') := ⟨_, HM6.out, ⟨⟨Int.le_refl _, by decide⟩, Nat.zero_le _, fun p hp => by cases hp⟩, HB6.out, HMl.out, (fun k e => by cases e), (fun e => e.elim HBX.out HBY.out.1), (fun k e => e.elim (fun e => e ▸ HX6.out.lt) (fun e => e ▸ HY6.out.lt))⟩
  have HQ6 := Lib.hid hnm
  clear hnm
  go_wp2_with fail
  refine (nf_send HQ6.out (n' := ⟨[⟨0, 1, [97]⟩], 0⟩) (z := 0) (x := 0) (y := 1) (s := [97]) rfl).mono ?_
  rintro e w7 ⟨rfl, hn7, hk7⟩
  have HQ7 := Lib.hid hn7
  have HK7 := Lib.hid hk7
  clear hn7 hk7
  go_wp2_with fail
  refine (nf_split HQ7.out 1).mono ?_
  rintro e w8 ⟨rfl, hn8, hk8⟩
  have HQ8 := Lib.hid hn8
  have HK8 := Lib.hid (HK7.out.trans hk8)
  clear hn8 hk8
  go_wp2_with fail
  refine (nf_deliver HQ8.out (n' := ⟨[], 1⟩) (z := 10) (p := zero) (i := 0) rfl).mono ?_
  rintro e w9 ⟨rfl, hn9, hk9⟩
  obtain ⟨W9, hW9⟩ : ∃ W9, W9 = w9.alloc (.cells #[.int .i64 zero.a, .int .i64 zero.b, .string ⟨zero.s.toArray⟩] 33) := ⟨_, rfl⟩
  have hb9 : Below w9.heap.size w9 W9 := by rw [hW9]; exact (Below.refl _ _).alloc (Nat.le_refl _) _
  have HQ9 := Lib.hid (hn9.on hb9)
  have HK9 := Lib.hid ((HK8.out.trans hk9).trans (Held.below hb9))
  clear hn9 hk9 hb9
  go_upto_region 12 with fail
  rw [← hW9]
  clear hW9
  go_wp2_with fail
  refine (nf_count HQ9.out).mono ?_
  rintro e w10 ⟨rfl, hw⟩
  rw [hw]
  clear hw
  go_wp2_with fail
  refine (nf_split HQ9.out 3).mono ?_
  rintro e w10 ⟨rfl, hn10, hk10⟩
  have HQ10 := Lib.hid hn10
  have HK10 := Lib.hid (HK9.out.trans hk10)
  clear hn10 hk10
  go_wp2_with fail
  refine (nf_send HQ10.out (n' := ⟨[⟨0, 1, [97]⟩], 3⟩) (z := 0) (x := 0) (y := 1) (s := [97]) rfl).mono ?_
  rintro e w11 ⟨rfl, hn11, hk11⟩
  have HQ11 := Lib.hid hn11
  have HK11 := Lib.hid (HK10.out.trans hk11)
  clear hn11 hk11
  go_wp2_with fail
  refine (nf_send HQ11.out (n' := ⟨[⟨0, 1, [97]⟩], 3⟩) (z := 10) (x := 1) (y := 2) (s := [98]) rfl).mono ?_
  rintro e w12 ⟨rfl, hn12, hk12⟩
  have hk12' := HK11.out.trans hk12
  have hx12 := hk12'.box HX6.out (Or.inl rfl)
  have hy12 := hk12'.box HY6.out (Or.inr rfl)
  have b0 := hx12.c0
  have b1 := hx12.c1
  have b2 := hx12.c2
  have d1 := hy12.c1
  have d2 := hy12.c2
  have HQ12 := Lib.hid hn12
  have HB12 := Lib.hid hn12.base
  have hh1 := nf_hear hn12 0 1
  have hh2 := nf_hear hn12 1 2
  rw [show hear 3 0 1 = true from rfl] at hh1
  rw [show hear 3 1 2 = false from rfl] at hh2
  have HH1 := Lib.hid hh1
  have HH2 := Lib.hid hh2
  have E : ∀ W : World, (binOp .eql 33 (.agg #[.int .i64 0, .int .i64 2, .string ⟨#[98]⟩]) (.agg #[.int .i64 0, .int .i64 2, .string ⟨#[98]⟩])).run Try.prog W = .ok (.bool true) W := fun W => eq_pk ⟨0, 2, [98]⟩ ⟨0, 2, [98]⟩ W
  clear hn12 hk12 hk12' hx12 hy12 hh1 hh2
  go_wp2_with fail
  refine HH1.out.mono ?_
  rintro e w13 ⟨rfl, hw⟩
  rw [hw]
  clear hw
  go_wp2_with fail
  refine HH2.out.mono ?_
  rintro e w13 ⟨rfl, hw⟩
  rw [hw]
  clear hw
  go_wp2_with fail
  go_ret
  exact ⟨rfl, HB12.out⟩
end Go.Proofs.Ytedpkjlhcpjblaa
