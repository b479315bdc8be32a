/-
  The reference's network: Drop, Deliver, Double, Send, Copy; the program's Copy.
-/
import Derived.Test.YtedpkjlhcpjblaaNRef
namespace Go.Proofs.Ytedpkjlhcpjblaa
set_option maxRecDepth 100000
open Go Go.RowKit Nt

/-! ### Drop, Deliver -/
theorem rdrop_out {w : World} {b : Nat} {lv : Value} {n : N} (h : RefAt w b lv n) (i : Int) (hi : i < 0 ∨ (n.l.length : Int) ≤ i) : Calls Try.prog 28 #[.pointer (some ⟨b, 0, none⟩), .int .i64 i] w fun e w' => e = .returned (.int .i64 4) ∧ w' = w := by
  have c0 := h.c0
  obtain ⟨a, c, rfl, _⟩ := h.row.shape
  obtain ⟨L, hL⟩ : ∃ L, L = n.l.length := ⟨_, rfl⟩
  rw [← hL] at c0 hi
  clear h hL
  by_cases h0 : i < 0
  · clear hi
    go_enter Try.func28, Try.ntmps28
    go_wp2_with fail
    go_ret
    exact ⟨rfl, rfl⟩
  · have h1 : (L : Int) ≤ i := by omega
    clear hi
    go_enter Try.func28, Try.ntmps28
    go_wp2_with fail
    go_ret
    exact ⟨rfl, rfl⟩
theorem rdrop_in {w : World} {b : Nat} {lv : Value} {n : N} (h : RefAt w b lv n) (hl : n.l.length ≤ 500) (k : Nat) (hk : k < n.l.length) : Calls Try.prog 28 #[.pointer (some ⟨b, 0, none⟩), .int .i64 (k : Int)] w fun e w' => e = .returned (.int .i64 0) ∧ RTurned w w' b lv ⟨cut n.l k, n.m⟩ := by
  have c0 := h.c0
  have Q := Lib.hid (remove_c h hl k hk)
  obtain ⟨a, c, rfl, _⟩ := h.row.shape
  obtain ⟨L, hL⟩ : ∃ L, L = n.l.length := ⟨_, rfl⟩
  rw [← hL] at c0 hk Q ⊢
  have h0 : ¬ (k : Int) < 0 := by omega
  have h1 : ¬ (L : Int) ≤ (k : Int) := by omega
  clear h hL hl hk
  go_enter Try.func28, Try.ntmps28
  go_wp2_with fail
  refine Q.out.mono ?_
  rintro e w1 ⟨rfl, ht⟩
  have HT := Lib.hid ht
  clear ht
  go_wp2_with fail
  go_ret
  exact ⟨rfl, HT.out⟩
set_option maxHeartbeats 1000000 in
theorem rdeliver_out {w : World} {b : Nat} {lv : Value} {n : N} (h : RefAt w b lv n) (i : Int) (hi : i < 0 ∨ (n.l.length : Int) ≤ i) : Calls Try.prog 27 #[.pointer (some ⟨b, 0, none⟩), .int .i64 i] w fun e w' => e = .returned (.tuple #[.agg #[.int .i64 0, .int .i64 0, .string ⟨#[]⟩], .int .i64 4]) ∧ Below w.heap.size w w' := by
  obtain ⟨W0, hW0⟩ : ∃ W0, W0 = w.alloc (.cells #[.int .i64 0, .int .i64 0, .string ⟨#[]⟩] 33) := ⟨_, rfl⟩
  have hb0 : Below w.heap.size w W0 := by rw [hW0]; exact (Below.refl _ _).alloc (Nat.le_refl _) _
  have hx0 : PkBox W0 w.heap.size zero := by rw [hW0]; exact PkBox.new w zero
  have c0 := (h.on hb0).c0
  have d0 := hx0.c0
  have d1 := hx0.c1
  have d2 := hx0.c2
  have z0 := hx0.z 0
  have z1 := hx0.z 1
  have z2 := hx0.z 2
  have HB0 := Lib.hid hb0
  have HX0 := Lib.hid hx0
  obtain ⟨a, c, rfl, _⟩ := h.row.shape
  obtain ⟨L, hL⟩ : ∃ L, L = n.l.length := ⟨_, rfl⟩
  rw [← hL] at c0 hi
  clear h hL hb0 hx0
  by_cases h0 : i < 0
  · clear hi
    go_enter Try.func27, Try.ntmps27
    go_upto_region 1 with fail
    rw [← hW0]
    clear hW0
    go_wp2_with fail
    (try simp only [Exit.inBlock, Exit.then])
    refine bodyPost_ret (ret_pk2 rfl _ _ w.heap.size zero rfl (HX0.out.set3 zero)) rfl ?_
    exact ⟨rfl, below_set3 HB0.out (Nat.le_refl _) _ _ _⟩
  · have h1 : (L : Int) ≤ i := by omega
    clear hi
    go_enter Try.func27, Try.ntmps27
    go_upto_region 1 with fail
    rw [← hW0]
    clear hW0
    go_wp2_with fail
    (try simp only [Exit.inBlock, Exit.then])
    refine bodyPost_ret (ret_pk2 rfl _ _ w.heap.size zero rfl (HX0.out.set3 zero)) rfl ?_
    exact ⟨rfl, below_set3 HB0.out (Nat.le_refl _) _ _ _⟩
set_option maxHeartbeats 2000000 in
theorem rdeliver_in {w : World} {b : Nat} {lv : Value} {n : N} (h : RefAt w b lv n) (hl : n.l.length ≤ 500) (k : Nat) (p : Pk) (hp : n.l[k]? = some p) (r : Pk) (z : Int) (hrz : (if hear n.m p.a p.b then (p, 0) else (zero, 10)) = (r, z)) : Calls Try.prog 27 #[.pointer (some ⟨b, 0, none⟩), .int .i64 (k : Int)] w fun e w' =>
    e = .returned (.tuple #[.agg #[.int .i64 r.a, .int .i64 r.b, .string ⟨r.s.toArray⟩], .int .i64 z]) ∧ RTurned w w' b lv ⟨cut n.l k, n.m⟩ := by
  obtain ⟨W0, hW0⟩ : ∃ W0, W0 = w.alloc (.cells #[.int .i64 0, .int .i64 0, .string ⟨#[]⟩] 33) := ⟨_, rfl⟩
  obtain ⟨W1, hW1⟩ : ∃ W1, W1 = W0.alloc (.cells #[.int .i64 p.a, .int .i64 p.b, .string ⟨p.s.toArray⟩] 33) := ⟨_, rfl⟩
  have hb0 : Below w.heap.size w W0 := by rw [hW0]; exact (Below.refl _ _).alloc (Nat.le_refl _) _
  have hx0 : PkBox W0 w.heap.size zero := by rw [hW0]; exact PkBox.new w zero
  have hbW : Below W0.heap.size W0 W1 := by rw [hW1]; exact (Below.refl _ _).alloc (Nat.le_refl _) _
  have hx1 : PkBox W1 W0.heap.size p := by rw [hW1]; exact PkBox.new W0 p
  have h0 := h.on hb0
  have h1 := h0.on hbW
  have hk := (List.getElem?_eq_some_iff.1 hp).1
  have c0 := h0.c0
  obtain ⟨a, c, rfl, _⟩ := h.row.shape
  obtain ⟨g, rfl, _, e0, e1, e2⟩ := pks_cells h0.row hp
  obtain ⟨n', hn'⟩ : ∃ n' : N, n' = ⟨cut n.l k, n.m⟩ := ⟨_, rfl⟩
  have hnm : n'.m = n.m := by rw [hn']
  have D := Lib.hid (remove_c h1 hl k hk)
  rw [← hn'] at D ⊢
  rw [← hnm] at hrz
  have HZ := Lib.hid hrz
  have HB0 := Lib.hid hb0
  have HX0 := Lib.hid hx0
  have HB := Lib.hid hbW
  have HX1 := Lib.hid hx1
  have HLT := Lib.hid h.lt
  obtain ⟨L, hL⟩ : ∃ L, L = n.l.length := ⟨_, rfl⟩
  have HLO := Lib.hid (show ∀ k, (Value.slice (some ⟨g, 0, none⟩) n.l.length c).ownBlock = some k → k < w.heap.size from fun k e => h.row.lt e)
  rw [← hL] at c0 hk D HLO ⊢
  have k0 : ¬ (k : Int) < 0 := by omega
  have k1 : ¬ (L : Int) ≤ (k : Int) := by omega
  have k2 : (k : Int) < (L : Int) := by omega
  clear h hp h0 h1 hb0 hx0 hbW hx1 hk hn' hnm hrz hL hl
  go_enter Try.func27, Try.ntmps27
  go_upto_region 1 with fail
  rw [← hW0]
  clear hW0
  go_upto_region 4 with fail
  rw [← hW1]
  clear hW1
  go_wp2_with fail
  refine D.out.mono ?_
  rintro e w2 ⟨rfl, ht2⟩
  obtain ⟨lv2, hN2, hl2, hK2⟩ := ht2
  have hlt := HLT.out
  have hx2 := (HX0.out.kept (Kept.below (S := fun _ => False) HB.out) (fun e => e)).kept hK2 (fun e => by
    rcases e with e | e
    · omega
    · have := HLO.out _ e; omega)
  have hx3 := HX1.out.kept hK2 (fun e => by
    have := HB0.out.size
    rcases e with e | e
    · omega
    · have := HLO.out _ e; omega)
  have HT := Lib.hid (show RTurned W1 w2 b (.slice (some ⟨g, 0, none⟩) L c) n' from ⟨lv2, hN2, hl2, hK2⟩)
  have HR := Lib.hid (rhear_c hN2 p.a p.b)
  have b0 := hx3.c0
  have b1 := hx3.c1
  have b2 := hx3.c2
  have d0 := hx2.c0
  have d1 := hx2.c1
  have d2 := hx2.c2
  have z0 := hx2.z 0
  have z1 := hx2.z 1
  have z2 := hx2.z 2
  have HX2 := Lib.hid hx2
  have HB1 := Lib.hid (HB0.out.trans (HB.out.mono HB0.out.size))
  have HLW := Lib.hid (show w.heap.size < W1.heap.size from Nat.lt_of_lt_of_le HX0.out.lt HB.out.size)
  have HFAR := Lib.hid (fun x y z => HT.out.far HB1.out (Kept.set3 w.heap.size w2 x y z) (fun k e => ⟨Nat.le_of_eq e.symm, by rw [e]; exact HLW.out⟩) HLT.out HLO.out)
  clear hN2 hl2 hK2 hx2 hx3 hlt e0 e1 e2 c0
  cases hh : hear n'.m p.a p.b with
  | true =>
    have hrz := HZ.out
    rw [hh, if_pos rfl] at hrz
    obtain ⟨rfl, rfl⟩ := Prod.mk.inj hrz
    rw [hh] at HR
    clear hh hrz HZ
    go_wp2_with fail
    refine HR.out.mono ?_
    rintro e w3 ⟨rfl, hw⟩
    rw [hw]
    clear hw
    go_wp2_with fail
    (try simp only [Exit.inBlock, Exit.then])
    refine bodyPost_ret (ret_pk2 rfl _ _ w.heap.size p rfl (HX2.out.set3 p)) rfl ?_
    exact ⟨rfl, HFAR.out _ _ _⟩
  | false =>
    have hrz := HZ.out
    rw [hh, if_neg (by simp)] at hrz
    obtain ⟨rfl, rfl⟩ := Prod.mk.inj hrz
    rw [hh] at HR
    clear hh hrz HZ
    go_wp2_with fail
    refine HR.out.mono ?_
    rintro e w3 ⟨rfl, hw⟩
    rw [hw]
    clear hw
    go_wp2_with fail
    (try simp only [Exit.inBlock, Exit.then])
    refine bodyPost_ret (ret_pk2 rfl _ _ w.heap.size zero rfl (HX2.out.set3 zero)) rfl ?_
    exact ⟨rfl, HFAR.out _ _ _⟩

/-! ### Send -/
set_option maxHeartbeats 1000000 in
theorem rsend_bad (w : World) (b : Nat) (x y : Int) (s : List UInt8) (hb : isEnd x = false ∨ isEnd y = false ∨ x = y) : Calls Try.prog 31 #[.pointer (some ⟨b, 0, none⟩), .int .i64 x, .int .i64 y, .string ⟨s.toArray⟩] w fun e w' => e = .returned (.int .i64 1) ∧ w' = w := by
  by_cases x0 : x < 0
  · clear hb
    go_enter Try.func31, Try.ntmps31
    go_wp2_with fail
    go_ret
    exact ⟨rfl, rfl⟩
  by_cases x1 : 15 < x
  · clear hb
    go_enter Try.func31, Try.ntmps31
    go_wp2_with fail
    go_ret
    exact ⟨rfl, rfl⟩
  by_cases y0 : y < 0
  · clear hb
    go_enter Try.func31, Try.ntmps31
    go_wp2_with fail
    go_ret
    exact ⟨rfl, rfl⟩
  by_cases y1 : 15 < y
  · clear hb
    go_enter Try.func31, Try.ntmps31
    go_wp2_with fail
    go_ret
    exact ⟨rfl, rfl⟩
  have hx : isEnd x = true := isEnd_iff.2 (by omega)
  have hy : isEnd y = true := isEnd_iff.2 (by omega)
  have hxy : (x == y) = true := by
    rcases hb with hb | hb | hb
    · rw [hx] at hb; cases hb
    · rw [hy] at hb; cases hb
    · simpa using hb
  clear hb hx hy
  go_enter Try.func31, Try.ntmps31
  go_wp2_with fail
  go_ret
  exact ⟨rfl, rfl⟩
set_option maxHeartbeats 1000000 in
theorem rsend_c {w : World} {b : Nat} {lv : Value} {n : N} (h : RefAt w b lv n) (hl : n.l.length ≤ 500) (x y : Int) (s : List UInt8) : Calls Try.prog 31 #[.pointer (some ⟨b, 0, none⟩), .int .i64 x, .int .i64 y, .string ⟨s.toArray⟩] w fun e w' => e = .returned (.int .i64 (send n x y s).2) ∧ RTurned w w' b lv (send n x y s).1 := by
  by_cases hb : isEnd x = false ∨ isEnd y = false ∨ x = y
  · rw [send_arg hb]
    exact (rsend_bad w b x y s hb).mono fun e w' ⟨h1, h2⟩ => ⟨h1, by rw [h2]; exact h.same (Below.refl _ _)⟩
  have hx : isEnd x = true := by
    cases hx : isEnd x with
    | true => rfl
    | false => exact absurd (Or.inl hx) hb
  have hy : isEnd y = true := by
    cases hy : isEnd y with
    | true => rfl
    | false => exact absurd (Or.inr (Or.inl hy)) hb
  have hxy : x ≠ y := fun e => hb (Or.inr (Or.inr e))
  obtain ⟨x0, x1⟩ := isEnd_iff.1 hx
  obtain ⟨y0, y1⟩ := isEnd_iff.1 hy
  have x2 : ¬ x < 0 := by omega
  have x3 : ¬ 15 < x := by omega
  have y2 : ¬ y < 0 := by omega
  have y3 : ¬ 15 < y := by omega
  have hxb : (x == y) = false := by simpa using hxy
  have HR := Lib.hid (rhear_c h x y)
  have H := Lib.hid h
  cases hh : hear n.m x y with
  | false =>
    rw [send_lost hx hy hxy hh]
    rw [hh] at HR
    clear h hb hx hy hxy hh
    go_enter Try.func31, Try.ntmps31
    go_wp2_with fail
    refine HR.out.mono ?_
    rintro e w1 ⟨rfl, hw⟩
    rw [hw]
    clear hw
    go_wp2_with fail
    go_ret
    exact ⟨rfl, H.out.same (Below.refl _ _)⟩
  | true =>
    rw [hh] at HR
    have c0 := h.c0
    by_cases h5 : 500 ≤ n.l.length
    · rw [send_full hx hy hxy hh h5]
      obtain ⟨a, c, rfl, _⟩ := h.row.shape
      obtain ⟨L, hL⟩ : ∃ L, L = n.l.length := ⟨_, rfl⟩
      rw [← hL] at c0 h5 H ⊢
      have h6 : (500 : Int) ≤ (L : Int) := by omega
      clear h hb hx hy hxy hh hL
      go_enter Try.func31, Try.ntmps31
      go_wp2_with fail
      refine HR.out.mono ?_
      rintro e w1 ⟨rfl, hw⟩
      rw [hw]
      clear hw
      go_wp2_with fail
      go_ret
      exact ⟨rfl, H.out.same (Below.refl _ _)⟩
    · rw [send_ok hx hy hxy hh (by omega)]
      obtain ⟨a, c, rfl, _⟩ := h.row.shape
      obtain ⟨a5, c5, w5, hr, ho5, hb5, hk5⟩ := app_pk w 0 _ n.l ⟨x, y, s⟩ h.row (by omega) (Nat.zero_le _)
      have hend := h.put hk5 ho5 (fun k e => by
        rcases hb5 with h1 | ⟨q, h1, h2⟩
        · exact Or.inl (by rw [← h1]; exact e)
        · rw [h1] at e; injection e with e; exact Or.inr (by omega))
      have hbk := hk5.heap h.blk h.apart
      have e0 : w5.cell? ⟨b, 0, none⟩ = some (.slice a n.l.length c) := by rw [Lib.cell_of_heap hbk]; rfl
      have z0 : w5.frozen? ⟨b, 0, none⟩ = false := Lib.frozen_of_heap hbk 0
      have HRUN := Lib.hid hr
      have HE := Lib.hid hend
      obtain ⟨L, hL⟩ : ∃ L, L = n.l.length := ⟨_, rfl⟩
      rw [← hL] at c0 h5 H HRUN HE e0 ⊢
      have h6 : ¬ (500 : Int) ≤ (L : Int) := by omega
      clear h hb hx hy hxy hh hL hr ho5 hb5 hk5 hend hbk
      go_enter Try.func31, Try.ntmps31
      go_wp2_with fail
      refine HR.out.mono ?_
      rintro e w1 ⟨rfl, hw⟩
      rw [hw]
      clear hw
      go_wp2_with (at_builtin; refine Lib.wpList_append_run _ rfl _ _ _ _ rfl _ _ rfl rfl _ w5 HRUN.out ?_)
      go_ret
      exact ⟨rfl, HE.out⟩

/-! ### Double -/
theorem rdouble_out {w : World} {b : Nat} {lv : Value} {n : N} (h : RefAt w b lv n) (i : Int) (hi : i < 0 ∨ (n.l.length : Int) ≤ i) : Calls Try.prog 29 #[.pointer (some ⟨b, 0, none⟩), .int .i64 i] w fun e w' => e = .returned (.int .i64 4) ∧ w' = w := by
  have c0 := h.c0
  obtain ⟨a, c, rfl, _⟩ := h.row.shape
  obtain ⟨L, hL⟩ : ∃ L, L = n.l.length := ⟨_, rfl⟩
  rw [← hL] at c0 hi
  clear h hL
  by_cases h0 : i < 0
  · clear hi
    go_enter Try.func29, Try.ntmps29
    go_wp2_with fail
    go_ret
    exact ⟨rfl, rfl⟩
  · have h1 : (L : Int) ≤ i := by omega
    clear hi
    go_enter Try.func29, Try.ntmps29
    go_wp2_with fail
    go_ret
    exact ⟨rfl, rfl⟩
theorem rdouble_full {w : World} {b : Nat} {lv : Value} {n : N} (h : RefAt w b lv n) (k : Nat) (hk : k < n.l.length) (h5 : 500 ≤ n.l.length) : Calls Try.prog 29 #[.pointer (some ⟨b, 0, none⟩), .int .i64 (k : Int)] w fun e w' => e = .returned (.int .i64 6) ∧ w' = w := by
  have c0 := h.c0
  obtain ⟨a, c, rfl, _⟩ := h.row.shape
  obtain ⟨L, hL⟩ : ∃ L, L = n.l.length := ⟨_, rfl⟩
  rw [← hL] at c0 hk h5
  have k0 : ¬ (k : Int) < 0 := by omega
  have k1 : ¬ (L : Int) ≤ (k : Int) := by omega
  have k2 : (500 : Int) ≤ (L : Int) := by omega
  clear h hL
  go_enter Try.func29, Try.ntmps29
  go_wp2_with fail
  go_ret
  exact ⟨rfl, rfl⟩
end Go.Proofs.Ytedpkjlhcpjblaa
