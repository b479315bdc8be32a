/-
  The methods of a network that turn it: a packet added, Drop, Deliver, Double, Send.
-/
import Derived.Test.YtedpkjlhcpjblaaNMeth
namespace Go.Proofs.Ytedpkjlhcpjblaa
set_option maxRecDepth 100000
open Go Go.RowKit Nt

/-- What an operation leaves of a network: its list may lie in another block of its own, or in a new one. -/
def Turned (w w' : World) (b : Nat) (lv : Value) (n' : N) : Prop := ∃ lv', NetAt w' b lv' n' ∧ (lv'.ownBlock = lv.ownBlock ∨ ∃ k, lv'.ownBlock = some k ∧ w.heap.size ≤ k) ∧ Kept (fun k => k = b ∨ lv.ownBlock = some k) w w'
theorem NetAt.same {w w' : World} {b : Nat} {lv : Value} {n : N} (h : NetAt w b lv n) (hb : Below w.heap.size w w') : Turned w w' b lv n := ⟨lv, h.on hb, Or.inl rfl, Kept.below hb⟩
theorem Turned.below {w w' w'' : World} {b : Nat} {lv : Value} {n : N} (h : Turned w w' b lv n) (hb : Below w'.heap.size w' w'') : Turned w w'' b lv n := by
  obtain ⟨lv', h1, h2, h3⟩ := h
  exact ⟨lv', h1.on hb, h2, h3.trans (Kept.below (S := fun _ => False) hb) (fun _ _ e => e.elim)⟩
theorem Turned.from {w0 w w' : World} {b : Nat} {lv : Value} {n : N} (h : Turned w w' b lv n) (hb : Below w0.heap.size w0 w) : Turned w0 w' b lv n := by
  obtain ⟨lv', h1, h2, h3⟩ := h
  refine ⟨lv', h1, ?_, (Kept.below hb).trans h3 (fun _ _ e => e)⟩
  rcases h2 with h2 | ⟨k, h2, h4⟩
  · exact Or.inl h2
  · exact Or.inr ⟨k, h2, Nat.le_trans hb.size h4⟩
theorem cells2_set {w : World} {p : Nat} {a b : Value} {T : TypeId} (h : w.heap[p]? = some (.cells #[a, b] T (0, 0))) (v : Value) : (w.setCell ⟨p, 0, none⟩ v).heap[p]? = some (.cells #[v, b] T (0, 0)) ∧ (w.setCell ⟨p, 1, none⟩ v).heap[p]? = some (.cells #[a, v] T (0, 0)) := by
  simp [World.setCell, Array.getElem?_modify, h]
/-- Another list is put into the network. -/
theorem NetAt.put {w w1 : World} {b : Nat} {lv : Value} {n : N} (h : NetAt w b lv n) (hk : Kept (fun k => lv.ownBlock = some k) w w1) {lv' : Value} {l' : List Pk} (hr : PkRow w1 0 lv' l') (hb : lv'.ownBlock = lv.ownBlock ∨ ∃ k, lv'.ownBlock = some k ∧ w.heap.size ≤ k) :
    Turned w (w1.setCell ⟨b, 0, none⟩ lv') b lv ⟨l', n.m⟩ := by
  have hb1 := hk.heap h.blk h.apart
  have hk2 := Kept.set b 0 w1 lv'
  have hne : lv'.ownBlock ≠ some b := fun e => by
    rcases hb with hb | ⟨k, hb, hk⟩
    · exact h.apart (by rw [← hb]; exact e)
    · rw [hb] at e; injection e with e; have := h.lt; omega
  refine ⟨lv', ⟨(cells2_set hb1 lv').1, hr.kept hk2 (fun k e e' => hne (by rw [e, e'])), hne⟩, hb, ?_⟩
  exact (hk.mono (S' := fun k => k = b ∨ lv.ownBlock = some k) (fun _ _ e => Or.inr e)).trans hk2 (fun _ _ e => Or.inl e)

theorem add_full {w : World} {b : Nat} {lv : Value} {n : N} (h : NetAt w b lv n) (hl : 500 ≤ n.l.length) (p : Pk) : Calls Try.prog 35 #[.pointer (some ⟨b, 0, none⟩), .agg #[.int .i64 p.a, .int .i64 p.b, .string ⟨p.s.toArray⟩]] w fun e w' => e = .returned (.int .i64 6) ∧ Below w.heap.size w w' := by
  obtain ⟨W1, hW1⟩ : ∃ W1, W1 = w.alloc (.cells #[.int .i64 p.a, .int .i64 p.b, .string ⟨p.s.toArray⟩] 33) := ⟨_, rfl⟩
  have hb1 : Below w.heap.size w W1 := by rw [hW1]; exact (Below.refl _ _).alloc (Nat.le_refl _) _
  have h1 := h.on hb1
  have c0 := h1.c0
  obtain ⟨a, c, rfl, hc, _, _⟩ := h.row.shape
  obtain ⟨L, hL⟩ : ∃ L, L = n.l.length := ⟨_, rfl⟩
  rw [← hL] at hl c0
  have h2 : (500 : Int) ≤ (L : Int) := by omega
  have HB := Lib.hid hb1
  clear h h1 hb1 hc hL
  go_enter Try.func35, Try.ntmps35
  go_upto_region 1 with fail
  rw [← hW1]
  clear hW1
  go_wp2_with fail
  go_ret
  exact ⟨rfl, HB.out⟩
set_option maxHeartbeats 1000000 in
theorem add_room {w : World} {b : Nat} {lv : Value} {n : N} (h : NetAt w b lv n) (hl : n.l.length < 500) (p : Pk) : Calls Try.prog 35 #[.pointer (some ⟨b, 0, none⟩), .agg #[.int .i64 p.a, .int .i64 p.b, .string ⟨p.s.toArray⟩]] w fun e w' => e = .returned (.int .i64 0) ∧ Turned w w' b lv ⟨n.l ++ [p], n.m⟩ := by
  obtain ⟨W1, hW1⟩ : ∃ W1, W1 = w.alloc (.cells #[.int .i64 p.a, .int .i64 p.b, .string ⟨p.s.toArray⟩] 33) := ⟨_, rfl⟩
  have hb1 : Below w.heap.size w W1 := by rw [hW1]; exact (Below.refl _ _).alloc (Nat.le_refl _) _
  have hx1 : PkBox W1 w.heap.size p := by rw [hW1]; exact PkBox.new w p
  have h1 := h.on hb1
  have c0 := h1.c0
  have b0 := hx1.c0
  have b1 := hx1.c1
  have b2 := hx1.c2
  obtain ⟨a, c, rfl, hc, _, _⟩ := h.row.shape
  have hkd : Below W1.heap.size W1 W1.drew := ⟨rfl, rfl, rfl, Nat.le_refl _, fun _ _ => rfl⟩
  obtain ⟨a5, c5, w5, hr, ho5, hb5, hk5⟩ := app_pk W1.drew 0 _ n.l p (h1.row.on hkd) (by omega) (Nat.zero_le _)
  have hk5' : Kept (fun k => (Value.slice a n.l.length c).ownBlock = some k) w w5 := (Kept.below hb1).trans ((Kept.below hkd).trans hk5 (fun _ _ e => e)) (fun _ _ e => e)
  have hb5' : (Value.slice a5 (n.l.length + 1) c5).ownBlock = (Value.slice a n.l.length c).ownBlock ∨ ∃ k, (Value.slice a5 (n.l.length + 1) c5).ownBlock = some k ∧ w.heap.size ≤ k := by
    rcases hb5 with e | ⟨y, e, hy⟩
    · exact Or.inl e
    · exact Or.inr ⟨y, e, Nat.le_trans hb1.size hy⟩
  have hend := h.put hk5' ho5 hb5'
  have hbk := hk5'.heap h.blk h.apart
  have e0 : w5.cell? ⟨b, 0, none⟩ = some (.slice a n.l.length c) := by rw [Lib.cell_of_heap hbk]; rfl
  have z0 : w5.frozen? ⟨b, 0, none⟩ = false := Lib.frozen_of_heap hbk 0
  have HE := Lib.hid hend
  obtain ⟨L, hL⟩ : ∃ L, L = n.l.length := ⟨_, rfl⟩
  rw [← hL] at hr e0 c0 HE hl ⊢
  have q0 : (W1.alloc (.cells #[.int .i64 p.a, .int .i64 p.b, .string ⟨p.s.toArray⟩] 33)).cell? ⟨b, 0, none⟩ = some (.slice a L c) := (Kept.alloc (fun _ => False) W1 _).cell c0 (fun e => e)
  have hr' : (Builtin.append_ #[27, 27] 27 #[.slice a L c, .slice (some ⟨W1.heap.size, 0, none⟩) 1 1]).run Try.prog (W1.alloc (.cells #[.int .i64 p.a, .int .i64 p.b, .string ⟨p.s.toArray⟩] 33)).drew = .ok (.slice a5 (L + 1) c5) w5 := hr
  have HR := Lib.hid hr'
  have h2 : ¬ (500 : Int) ≤ (L : Int) := by omega
  clear h h1 hb1 hx1 hc hL hkd hr hr' ho5 hb5 hk5 hk5' hb5' hend hbk
  go_enter Try.func35, Try.ntmps35
  go_upto_region 1 with fail
  rw [← hW1]
  clear hW1
  go_wp2_with fail
  go_region_law (refine step_append_run rfl (.tmp 15) (.tmp 17) _ _ rfl _ _ rfl rfl _ _ HR.out ?_)
  all_goals
    go_wp2_with fail
    go_ret
    exact ⟨rfl, HE.out⟩

/-! ### Drop -/
theorem ne_zero {n : N} (hn : Ok n) {k : Nat} {p : Pk} (hp : n.l[k]? = some p) : decide (p = zero) = false := by
  have := (hn.ends p (List.mem_of_getElem? hp)).2.2
  rw [decide_eq_false_iff_not]
  rintro rfl
  exact this rfl
theorem drop_out {w : World} {b : Nat} {lv : Value} {n : N} (h : NetAt w b lv n) (i : Int) (hi : i < 0 ∨ (n.l.length : Int) ≤ i) : Calls Try.prog 26 #[.pointer (some ⟨b, 0, none⟩), .int .i64 i] w fun e w' => e = .returned (.int .i64 4) ∧ Below w.heap.size w w' := by
  have E : ∀ W : World, (binOp .eql 33 (.agg #[.int .i64 0, .int .i64 0, .string ⟨#[]⟩]) (.agg #[.int .i64 0, .int .i64 0, .string ⟨#[]⟩])).run Try.prog W = .ok (.bool true) W := fun W => eq_pk zero zero W
  have Q := Lib.hid (at_out h i hi)
  clear h hi
  go_enter Try.func26, Try.ntmps26
  go_wp2_with fail
  refine Q.out.mono ?_
  rintro e w1 ⟨rfl, hb⟩
  have HB := Lib.hid hb
  clear hb
  go_wp2_with fail
  go_ret
  exact ⟨rfl, HB.out⟩
set_option maxHeartbeats 1000000 in
theorem drop_in {w : World} {b : Nat} {lv : Value} {n : N} (h : NetAt w b lv n) (hn : Ok n) (k : Nat) (p : Pk) (hp : n.l[k]? = some p) : Calls Try.prog 26 #[.pointer (some ⟨b, 0, none⟩), .int .i64 (k : Int)] w fun e w' => e = .returned (.int .i64 0) ∧ Turned w w' b lv ⟨cut n.l k, n.m⟩ := by
  have E : ∀ W : World, (binOp .eql 33 (.agg #[.int .i64 p.a, .int .i64 p.b, .string ⟨p.s.toArray⟩]) (.agg #[.int .i64 0, .int .i64 0, .string ⟨#[]⟩])).run Try.prog W = .ok (.bool false) W := fun W => by
    have := eq_pk p zero W
    rw [ne_zero hn hp] at this
    exact this
  have Q := Lib.hid (at_in h k p hp)
  have hk := (List.getElem?_eq_some_iff.1 hp).1
  have hl := hn.len
  have hw : IntKind.i64.wrap ((k : Int) + 1) = (k : Int) + 1 := by rw [IntKind.wrap_i64]; omega
  obtain ⟨a, c, rfl, _⟩ := h.row.shape
  obtain ⟨g, rfl, _⟩ := own_at2 (own_base h.row) rfl (by omega)
  have H := Lib.hid h
  have HK := Lib.hid hk
  have HL := Lib.hid hl
  have hkL : (k : Int) < 500 := by omega
  clear h hp hk hl hn
  go_enter Try.func26, Try.ntmps26
  go_wp2_with fail
  refine Q.out.mono ?_
  rintro e w1 ⟨rfl, hb⟩
  have h1 := H.out.on hb
  have c0 := h1.c0
  have HB := Lib.hid hb
  have H1 := Lib.hid h1
  clear hb h1
  go_wp2_with fail
  refine (delete_c H1.out.row HK.out (by have := HL.out; omega) _ rfl).mono ?_
  rintro e w2 ⟨rfl, hr2, hg2⟩
  have hk2 : Kept (fun k => (Value.slice (some ⟨g, 0, none⟩) n.l.length c).ownBlock = some k) w1 w2 := Kept.grown hg2 (fun k e => by rw [← e]; rfl)
  have hend := H1.out.put hk2 hr2 (Or.inl rfl)
  have hbk := hk2.heap H1.out.blk H1.out.apart
  have e0 : w2.cell? ⟨b, 0, none⟩ = some (.slice (some ⟨g, 0, none⟩) n.l.length c) := by rw [Lib.cell_of_heap hbk]; rfl
  have z0 : w2.frozen? ⟨b, 0, none⟩ = false := Lib.frozen_of_heap hbk 0
  have HE := Lib.hid (hend.from HB.out)
  clear hr2 hg2 hk2 hend hbk
  go_wp2_with fail
  go_ret
  exact ⟨rfl, HE.out⟩

/-! ### Double -/
theorem double_out {w : World} {b : Nat} {lv : Value} {n : N} (h : NetAt w b lv n) (i : Int) (hi : i < 0 ∨ (n.l.length : Int) ≤ i) : Calls Try.prog 24 #[.pointer (some ⟨b, 0, none⟩), .int .i64 i] w fun e w' => e = .returned (.int .i64 4) ∧ Below w.heap.size w w' := by
  have E : ∀ W : World, (binOp .eql 33 (.agg #[.int .i64 0, .int .i64 0, .string ⟨#[]⟩]) (.agg #[.int .i64 0, .int .i64 0, .string ⟨#[]⟩])).run Try.prog W = .ok (.bool true) W := fun W => eq_pk zero zero W
  have Q := Lib.hid (at_out h i hi)
  clear h hi
  go_enter Try.func24, Try.ntmps24
  go_wp2_with fail
  refine Q.out.mono ?_
  rintro e w1 ⟨rfl, hb⟩
  obtain ⟨W1, hW1⟩ : ∃ W1, W1 = w1.alloc (.cells #[.int .i64 0, .int .i64 0, .string ⟨#[]⟩] 33) := ⟨_, rfl⟩
  have hx1 : PkBox W1 w1.heap.size zero := by rw [hW1]; exact PkBox.new w1 zero
  have b0 := hx1.c0
  have b1 := hx1.c1
  have b2 := hx1.c2
  have HB := Lib.hid (show Below w.heap.size w W1 by rw [hW1]; exact hb.alloc hb.size _)
  clear hb hx1
  go_upto_region 2 with fail
  rw [← hW1]
  clear hW1
  go_wp2_with fail
  go_ret
  exact ⟨rfl, HB.out⟩
theorem add_c {w : World} {b : Nat} {lv : Value} {n : N} (h : NetAt w b lv n) (p : Pk) : Calls Try.prog 35 #[.pointer (some ⟨b, 0, none⟩), .agg #[.int .i64 p.a, .int .i64 p.b, .string ⟨p.s.toArray⟩]] w fun e w' => e = .returned (.int .i64 (if 500 ≤ n.l.length then 6 else 0)) ∧ Turned w w' b lv (if 500 ≤ n.l.length then n else ⟨n.l ++ [p], n.m⟩) := by
  by_cases h5 : 500 ≤ n.l.length
  · rw [if_pos h5, if_pos h5]
    exact (add_full h h5 p).mono fun e w' ⟨h1, h2⟩ => ⟨h1, h.same h2⟩
  · rw [if_neg h5, if_neg h5]
    exact add_room h (by omega) p
theorem double_in {w : World} {b : Nat} {lv : Value} {n : N} (h : NetAt w b lv n) (hn : Ok n) (k : Nat) (p : Pk) (hp : n.l[k]? = some p) : Calls Try.prog 24 #[.pointer (some ⟨b, 0, none⟩), .int .i64 (k : Int)] w fun e w' => e = .returned (.int .i64 (if 500 ≤ n.l.length then 6 else 0)) ∧ Turned w w' b lv (if 500 ≤ n.l.length then n else ⟨n.l ++ [p], n.m⟩) := by
  have E : ∀ W : World, (binOp .eql 33 (.agg #[.int .i64 p.a, .int .i64 p.b, .string ⟨p.s.toArray⟩]) (.agg #[.int .i64 0, .int .i64 0, .string ⟨#[]⟩])).run Try.prog W = .ok (.bool false) W := fun W => by
    have := eq_pk p zero W
    rw [ne_zero hn hp] at this
    exact this
  have A := Lib.hid (fun (W : World) (hW : NetAt W b lv n) => add_c hW p)
  obtain ⟨z, hz⟩ : ∃ z : Int, z = if 500 ≤ n.l.length then 6 else 0 := ⟨_, rfl⟩
  obtain ⟨n', hn'⟩ : ∃ n' : N, n' = if 500 ≤ n.l.length then n else ⟨n.l ++ [p], n.m⟩ := ⟨_, rfl⟩
  rw [← hz, ← hn'] at A ⊢
  have Q := Lib.hid (at_in h k p hp)
  have H := Lib.hid h
  clear h hp hn hz hn'
  go_enter Try.func24, Try.ntmps24
  go_wp2_with fail
  refine Q.out.mono ?_
  rintro e w1 ⟨rfl, hb⟩
  obtain ⟨W1, hW1⟩ : ∃ W1, W1 = w1.alloc (.cells #[.int .i64 p.a, .int .i64 p.b, .string ⟨p.s.toArray⟩] 33) := ⟨_, rfl⟩
  have hx1 : PkBox W1 w1.heap.size p := by rw [hW1]; exact PkBox.new w1 p
  have b0 := hx1.c0
  have b1 := hx1.c1
  have b2 := hx1.c2
  have hbW : Below w.heap.size w W1 := by rw [hW1]; exact hb.alloc hb.size _
  have H1 := Lib.hid (H.out.on hbW)
  have HB := Lib.hid hbW
  clear hb hx1 hbW
  go_upto_region 2 with fail
  rw [← hW1]
  clear hW1
  go_wp2_with fail
  refine (A.out _ H1.out).mono ?_
  rintro e w2 ⟨rfl, ht⟩
  have HT := Lib.hid (ht.from HB.out)
  clear ht
  go_wp2_with fail
  go_ret
  exact ⟨rfl, HT.out⟩

/-! ### Send -/
set_option maxHeartbeats 1000000 in
theorem send_c {w : World} {b : Nat} {lv : Value} {n : N} (h : NetAt w b lv n) (hn : Ok n) (x y : Int) (s : List UInt8) : Calls Try.prog 20 #[.pointer (some ⟨b, 0, none⟩), .int .i64 x, .int .i64 y, .string ⟨s.toArray⟩] w fun e w' => e = .returned (.int .i64 (send n x y s).2) ∧ Turned w w' b lv (send n x y s).1 := by
  have Q := Lib.hid (fun z => isEnd_c z w)
  have H := Lib.hid h
  have HR := Lib.hid (hear_c h hn x y)
  have A := Lib.hid (add_c h ⟨x, y, s⟩)
  cases hx : isEnd x with
  | false =>
    rw [send_arg (Or.inl hx)]
    have HX := Lib.hid hx
    clear h hn hx A HR
    go_enter Try.func20, Try.ntmps20
    go_wp2_with (go_at_call 32; refine (Q.out _).mono ?_; rintro e w1 ⟨rfl, hw⟩; rw [hw, HX.out]; clear hw)
    go_ret
    exact ⟨rfl, H.out.same (Below.refl _ _)⟩
  | true =>
    cases hy : isEnd y with
    | false =>
      rw [send_arg (Or.inr (Or.inl hy))]
      have HX := Lib.hid hx
      have HY := Lib.hid hy
      clear h hn hx hy A HR
      go_enter Try.func20, Try.ntmps20
      go_wp2_with (go_at_call 32; refine (Q.out _).mono ?_; rintro e w1 ⟨rfl, hw⟩; rw [hw]; (first | rw [HX.out] | rw [HY.out]); clear hw)
      go_ret
      exact ⟨rfl, H.out.same (Below.refl _ _)⟩
    | true =>
      have HX := Lib.hid hx
      have HY := Lib.hid hy
      by_cases hxy : x = y
      · rw [send_arg (Or.inr (Or.inr hxy))]
        have hxb : (x == y) = true := by simpa using hxy
        clear h hn hx hy hxy A HR
        go_enter Try.func20, Try.ntmps20
        go_wp2_with (go_at_call 32; refine (Q.out _).mono ?_; rintro e w1 ⟨rfl, hw⟩; rw [hw]; (first | rw [HX.out] | rw [HY.out]); clear hw)
        go_ret
        exact ⟨rfl, H.out.same (Below.refl _ _)⟩
      · have hxb : (x == y) = false := by simpa using hxy
        cases hh : hear n.m x y with
        | false =>
          rw [send_lost hx hy hxy hh]
          rw [hh] at HR
          clear h hn hx hy hxy A hh
          go_enter Try.func20, Try.ntmps20
          go_wp2_with (first | (go_at_call 32; refine (Q.out _).mono ?_; rintro e w1 ⟨rfl, hw⟩; rw [hw]; (first | rw [HX.out] | rw [HY.out]); clear hw) | (go_at_call 15; refine HR.out.mono ?_; rintro e w1 ⟨rfl, hw⟩; rw [hw]; clear hw))
          go_ret
          exact ⟨rfl, H.out.same (Below.refl _ _)⟩
        | true =>
          have e : send n x y s = (if 500 ≤ n.l.length then n else ⟨n.l ++ [⟨x, y, s⟩], n.m⟩, if 500 ≤ n.l.length then 6 else 0) := by
            by_cases h5 : 500 ≤ n.l.length
            · rw [send_full hx hy hxy hh h5, if_pos h5, if_pos h5]
            · rw [send_ok hx hy hxy hh (by omega), if_neg h5, if_neg h5]
          rw [e]
          clear e
          rw [hh] at HR
          obtain ⟨z, hz⟩ : ∃ z : Int, z = if 500 ≤ n.l.length then 6 else 0 := ⟨_, rfl⟩
          obtain ⟨n', hn'⟩ : ∃ n' : N, n' = if 500 ≤ n.l.length then n else ⟨n.l ++ [⟨x, y, s⟩], n.m⟩ := ⟨_, rfl⟩
          rw [← hz, ← hn'] at A ⊢
          clear h hn hx hy hxy hh hz hn'
          go_enter Try.func20, Try.ntmps20
          go_wp2_with (first | (go_at_call 32; refine (Q.out _).mono ?_; rintro e w1 ⟨rfl, hw⟩; rw [hw]; (first | rw [HX.out] | rw [HY.out]); clear hw) | (go_at_call 15; refine HR.out.mono ?_; rintro e w1 ⟨rfl, hw⟩; rw [hw]; clear hw))
          refine A.out.mono ?_
          rintro e w2 ⟨rfl, ht⟩
          have HT := Lib.hid ht
          clear ht
          go_wp2_with fail
          go_ret
          exact ⟨rfl, HT.out⟩
end Go.Proofs.Ytedpkjlhcpjblaa
