/-
  Rows of packets appended to one another; how often a packet is in a list; the lists beside a network that the law keeps.
-/
import Derived.Test.YtedpkjlhcpjblaaNFew
namespace Go.Proofs.Ytedpkjlhcpjblaa
set_option maxRecDepth 100000
open Go Go.RowKit Nt

/-- A row of packets appended to another. -/
theorem app_row (w : World) (base : Nat) (v : Value) (l : List Pk) (h : PkRow w base v l) (B : Nat) (sv : Value) (m : List Pk) (hs : PkRow w B sv m) (hl : l.length + m.length ≤ 100000) (hb : base ≤ w.heap.size) :
    ∃ a c w', (Builtin.append_ #[27, 27] 27 #[v, sv]).run Try.prog w = .ok (.slice a (l.length + m.length) c) w' ∧
      PkRow w' base (.slice a (l.length + m.length) c) (l ++ m) ∧ ((Value.slice a (l.length + m.length) c).ownBlock = v.ownBlock ∨ ∃ y, (Value.slice a (l.length + m.length) c).ownBlock = some y ∧ w.heap.size ≤ y) ∧ Kept (fun k => v.ownBlock = some k) w w' := by
  obtain ⟨i0, hi0, hz0, hz1, hz2⟩ := info_parts infoPk
  obtain ⟨sa, sc, rfl, _, _, hno⟩ := hs.shape
  obtain ⟨v5, w5, hr, hown5, hgr5, hbl5⟩ := run_append_any_own (P := Try.prog) w base 27 27 33 i0 _ 3 32 Try.underlying27 hi0 hz0 hz1 hz2 rfl (by decide) v l.length (pksV l) h
    sa m.length sc (pksV m) (pksV_length m) (fun h0 => by
      cases sa with
      | none => have := (hno rfl).1; omega
      | some ad => exact ⟨ad, rfl, fun j u hu => own_cell_size (own_base hs) rfl j u hu⟩) (pksV_one m) (by unfold maxLen; omega) (by omega) hb
  obtain ⟨a, c, rfl, _⟩ := own_shape (own_base hown5)
  refine ⟨a, c, w5, hr, ?_, ?_, Kept.grown hgr5 (fun k e => e)⟩
  · unfold PkRow; rw [pksV_app, List.length_append]; exact hown5
  · rcases hbl5 with e | e
    · exact Or.inl e
    · exact Or.inr ⟨_, e, Nat.le_refl _⟩
theorem neq_pk (p q : Pk) (w : World) : (binOp .neq 33 (.agg #[.int .i64 p.a, .int .i64 p.b, .string ⟨p.s.toArray⟩]) (.agg #[.int .i64 q.a, .int .i64 q.b, .string ⟨q.s.toArray⟩])).run Try.prog w = .ok (.bool (!decide (p = q))) w := by
  have h := eq_pk p q w
  rw [run_eql_struct] at h
  rw [run_neq_struct]
  cases hr : (Op.equalIn 10000 33 (.agg #[.int .i64 p.a, .int .i64 p.b, .string ⟨p.s.toArray⟩]) (.agg #[.int .i64 q.a, .int .i64 q.b, .string ⟨q.s.toArray⟩])).run Try.prog w with
  | ok b w1 =>
    rw [hr] at h
    simp only [Result.andThen] at h ⊢
    injection h with h1 h2
    injection h1 with h1
    rw [h1, h2]
  | halt x w1 =>
    rw [hr] at h
    simp [Result.andThen] at h

theorem count_take {l : List Pk} {k : Nat} {x : Pk} (hx : l[k]? = some x) (p : Pk) : (l.take (k + 1)).count p = (l.take k).count p + (if x = p then 1 else 0) := by
  rw [List.take_add_one, hx, List.count_append]
  congr 1
  by_cases h : x = p
  · simp [h]
  · simp [h]
set_option maxHeartbeats 1000000 in
theorem cnt_c {w : World} {B : Nat} {v : Value} {l : List Pk} (h : PkRow w B v l) (hl : l.length ≤ 100000) (p : Pk) : Calls Try.prog 19 #[v, .agg #[.int .i64 p.a, .int .i64 p.b, .string ⟨p.s.toArray⟩]] w fun e w' => e = .returned (.int .i64 ((l.count p : Nat) : Int)) ∧ Below w.heap.size w w' := by
  obtain ⟨W1, hW1⟩ : ∃ W1, W1 = w.alloc (.cells #[.int .i64 p.a, .int .i64 p.b, .string ⟨p.s.toArray⟩] 33) := ⟨_, rfl⟩
  have hb1 : Below w.heap.size w W1 := by rw [hW1]; exact (Below.refl _ _).alloc (Nat.le_refl _) _
  have hx1 : PkBox W1 w.heap.size p := by rw [hW1]; exact PkBox.new w p
  obtain ⟨a, c, rfl, _⟩ := h.shape
  obtain ⟨L, hL⟩ : ∃ L, L = l.length := ⟨_, rfl⟩
  have HR := Lib.hid (h.on hb1)
  have HL := Lib.hid hL
  have HB := Lib.hid hb1
  have HX := Lib.hid hx1
  rw [← hL] at hl HR ⊢
  clear h hb1 hx1 hL
  go_enter Try.func19, Try.ntmps19
  go_upto_region 1 with fail
  rw [← hW1]
  clear hW1
  go_wp2_with fail
  go_loopw [5, 6] (fun v5 v6 wr => ∃ k N : Nat, k ≤ L ∧ N ≤ k ∧ v6 = .int .i64 (k : Int) ∧ v5 = .int .i64 (N : Int) ∧ Hid (N = (l.take k).count p) ∧ Below W1.heap.size W1 wr) (fun _ v6 _ => L - (intOf v6).toNat)
  case atStart => exact ⟨0, 0, Nat.zero_le _, Nat.le_refl _, rfl, rfl, Lib.hid (by simp), Below.refl _ _⟩
  case round =>
    obtain ⟨k, N, hk, hNk, rfl, rfl, HN, hbw⟩ := hrel
    have HW := Lib.hid hbw
    by_cases hkl : k < L
    · have hkl' : (k : Int) < (L : Int) := by omega
      have hk0 : (0 : Int) ≤ (k : Int) := by omega
      obtain ⟨x, hx⟩ : ∃ x, l[k]? = some x := ⟨l[k]'(by have := HL.out; omega), List.getElem?_eq_getElem _⟩
      obtain ⟨g, rfl, _, d0, d1, d2⟩ := pks_cells (HR.out.on hbw) hx
      have hxb := HX.out.kept (Kept.below (S := fun _ => False) hbw) (fun e => e)
      have b0 := hxb.c0
      have b1 := hxb.c1
      have b2 := hxb.c2
      have HCT := Lib.hid (count_take hx p)
      clear hx hxb hbw
      by_cases hxp : x = p
      · have E : ∀ W : World, (binOp .eql 33 (.agg #[.int .i64 x.a, .int .i64 x.b, .string ⟨x.s.toArray⟩]) (.agg #[.int .i64 p.a, .int .i64 p.b, .string ⟨p.s.toArray⟩])).run Try.prog W = .ok (.bool true) W := fun W => by
          rw [eq_pk x p W]; simp [hxp]
        have HC2 := Lib.hid (show (l.take (k + 1)).count p = (l.take k).count p + 1 by rw [HCT.out, if_pos hxp])
        clear hxp
        go_wp2_with fail
        go_quiet (fail)
        go_wp2_with fail
        go_roundw
        case rel => exact ⟨k + 1, N + 1, hkl, by omega, by go_num, by go_num, Lib.hid (by rw [HC2.out, ← HN.out]), below_drewN HW.out _⟩
        case measure => simp [intOf]; omega
      · have E : ∀ W : World, (binOp .eql 33 (.agg #[.int .i64 x.a, .int .i64 x.b, .string ⟨x.s.toArray⟩]) (.agg #[.int .i64 p.a, .int .i64 p.b, .string ⟨p.s.toArray⟩])).run Try.prog W = .ok (.bool false) W := fun W => by
          rw [eq_pk x p W]; simp [hxp]
        have HC2 := Lib.hid (show (l.take (k + 1)).count p = (l.take k).count p by rw [HCT.out, if_neg hxp]; rfl)
        clear hxp
        go_wp2_with fail
        go_quiet (fail)
        go_wp2_with fail
        go_roundw
        case rel => exact ⟨k + 1, N, hkl, by omega, by go_num, rfl, Lib.hid (by rw [HC2.out, ← HN.out]), below_drewN HW.out _⟩
        case measure => simp [intOf]; omega
    · have hkl' : ¬ (k : Int) < (L : Int) := by omega
      have HC2 := Lib.hid (show N = l.count p by rw [HN.out, List.take_of_length_le (by have := HL.out; omega)])
      go_wp2_with fail
      go_ret
      exact ⟨by rw [HC2.out]; rfl, HB.out.trans (HW.out.mono HB.out.size)⟩

/-! ### The lists that the law keeps -/
def FH (mv gv : Value) (j : Nat) : Prop := mv.ownBlock = some j ∨ gv.ownBlock = some j
/-- A network, and two lists of packets apart from it and from each other. -/
structure HM (w W : World) (b : Nat) (n : N) (G : Nat → Prop) (made got : List Pk) (mv gv : Value) : Prop where
  nf : NF w W b n G
  mr : PkRow W w.heap.size mv made
  gr : PkRow W w.heap.size gv got
  ap : ∀ j, mv.ownBlock = some j → gv.ownBlock ≠ some j
  mg : ∀ j, mv.ownBlock = some j → G j
  gg : ∀ j, gv.ownBlock = some j → G j
theorem HM.flip {w W : World} {b : Nat} {n : N} {G : Nat → Prop} {made got : List Pk} {mv gv : Value} (h : HM w W b n G made got mv gv) : HM w W b n G got made gv mv := ⟨h.nf, h.gr, h.mr, fun j e e' => h.ap j e' e, h.gg, h.mg⟩
theorem HM.done {w W : World} {b : Nat} {n : N} {G : Nat → Prop} {made got : List Pk} {mv gv : Value} (h : HM w W b n G made got mv gv) : HM w W b n (FH mv gv) made got mv gv :=
  ⟨h.nf.below (Below.refl _ _) (fun k e => ⟨Or.inl (e.elim (h.mg k) (h.gg k)), e.elim (fun e => h.mr.lt e) (fun e => h.gr.lt e)⟩), h.mr, h.gr, h.ap, fun _ e => Or.inl e, fun _ e => Or.inr e⟩
theorem HM.made {w W : World} {b : Nat} {n : N} {G : Nat → Prop} {made got : List Pk} {mv gv : Value} (h : HM w W b n G made got mv gv) (x : Pk) (hl : made.length ≤ 1000) :
    ∃ a c W', (Builtin.append_ #[27, 27] 27 #[mv, .slice (some ⟨W.heap.size, 0, none⟩) 1 1]).run Try.prog (W.alloc (.cells #[.int .i64 x.a, .int .i64 x.b, .string ⟨x.s.toArray⟩] 33)) = .ok (.slice a (made.length + 1) c) W' ∧
      HM w W' b n (FH (.slice a (made.length + 1) c) gv) (made ++ [x]) got (.slice a (made.length + 1) c) gv := by
  obtain ⟨a, c, W', hr, ho, hb, hk⟩ := app_pk W w.heap.size mv made x h.mr (by omega) h.nf.base.size
  refine ⟨a, c, W', hr, h.nf.move hk (fun k e => ⟨h.mg k e, h.mr.above e⟩) (fun k e => ?_), ho, h.gr.kept hk (fun k e e' => h.ap k e' e), fun k e e' => ?_, fun _ e => Or.inl e, fun _ e => Or.inr e⟩
  · rcases e with e | e
    · refine ⟨?_, ho.lt e⟩
      rcases hb with hb | ⟨y, hb, hy⟩
      · exact Or.inl (h.mg k (by rw [← hb]; exact e))
      · rw [hb] at e; injection e with e; exact Or.inr (by omega)
    · exact ⟨Or.inl (h.gg k e), by have := h.gr.lt e; have := hk.size; omega⟩
  · rcases hb with hb | ⟨y, hb, hy⟩
    · exact h.ap k (by rw [← hb]; exact e) e'
    · rw [hb] at e; injection e with e; have := h.gr.lt e'; omega
def RH (w W : World) (b k : Nat) (mv gv : Value) : Prop := ∃ n made got, HM w W b n (FH mv gv) made got mv gv ∧ Honest n made got ∧ made.length ≤ k ∧ got.length ≤ k

/-! ### What an operation tells -/
theorem step_lost {n n' : N} {x : Op7} {p : Pk} {z : Int} (e : Nt.step n x = (n', p, z)) (hz : z ≠ 0) : p = zero := by
  unfold Nt.step at e
  rcases mod8 x.k with k | k | k | k | k | k
  · rw [if_neg (by omega), if_neg (by omega), if_neg (by omega), if_neg (by omega), if_neg (by omega)] at e
    exact ((Prod.mk.inj (Prod.mk.inj e).2).1).symm
  · rw [if_pos k] at e
    unfold Nt.deliver at e
    cases ha : at? n x.n with
    | none => rw [ha] at e; exact ((Prod.mk.inj (Prod.mk.inj e).2).1).symm
    | some q =>
      rw [ha] at e
      have e2 := (Prod.mk.inj e).2
      by_cases hh : hear n.m q.a q.b = true
      · rw [if_pos hh] at e2; exact absurd (Prod.mk.inj e2).2.symm hz
      · rw [if_neg hh] at e2; exact ((Prod.mk.inj e2).1).symm
  · rw [if_neg (by omega), if_pos k] at e
    exact ((Prod.mk.inj (Prod.mk.inj e).2).1).symm
  · rw [if_neg (by omega), if_neg (by omega), if_pos k] at e
    exact ((Prod.mk.inj (Prod.mk.inj e).2).1).symm
  · rw [if_neg (by omega), if_neg (by omega), if_neg (by omega), if_pos k] at e
    exact ((Prod.mk.inj (Prod.mk.inj e).2).1).symm
  · rw [if_neg (by omega), if_neg (by omega), if_neg (by omega), if_neg (by omega), if_pos k] at e
    exact ((Prod.mk.inj (Prod.mk.inj e).2).1).symm
theorem hon_lost {n n' : N} {x : Op7} {p : Pk} {z : Int} {made got : List Pk} (h : Honest n made got) (e : Nt.step n x = (n', p, z)) (hz : z ≠ 0) : Honest n' made got := by
  have := h.step x
  unfold madeBy gotBy at this
  rw [e] at this
  dsimp only at this
  rw [if_neg hz, if_neg (fun k => hz k.1), List.append_nil, List.append_nil] at this
  exact this
theorem hon_send {n n' : N} {x : Op7} {p : Pk} {made got : List Pk} (h : Honest n made got) (e : Nt.step n x = (n', p, 0)) (k : x.k % 8 < 3) : Honest n' (made ++ [⟨x.n, x.to, x.s⟩]) got ∧ hear n'.m x.n x.to = true ∧ x.n ≠ x.to := by
  have hs := h.step x
  unfold madeBy gotBy at hs
  rw [e] at hs
  dsimp only at hs
  rw [if_pos rfl, if_pos k, if_neg (fun q => by omega), List.append_nil] at hs
  unfold Nt.step at e
  rw [if_neg (by omega), if_neg (by omega), if_neg (by omega), if_neg (by omega), if_neg (by omega)] at e
  obtain ⟨e1, e2⟩ := Prod.mk.inj e
  obtain ⟨_, e3⟩ := Prod.mk.inj e2
  obtain ⟨_, h2, h3, h4⟩ := Honest.send h (n' := n') (Prod.ext e1 e3)
  exact ⟨hs, by rw [h2]; exact h3, h4⟩
theorem hon_deliver {n n' : N} {x : Op7} {p : Pk} {made got : List Pk} (h : Honest n made got) (e : Nt.step n x = (n', p, 0)) (k : x.k % 8 = 3) : Honest n' made (got ++ [p]) ∧ hear n'.m p.a p.b = true := by
  unfold Nt.step at e
  rw [if_pos k] at e
  exact Honest.deliver h e
theorem hon_double {n n' : N} {x : Op7} {p : Pk} {made got : List Pk} (h : Honest n made got) (e : Nt.step n x = (n', p, 0)) (k : x.k % 8 = 5) : ∃ (i : Nat) (y : Pk), x.n = (i : Int) ∧ i < n.l.length ∧ n.l[i]? = some y ∧ Honest n' (made ++ [y]) got := by
  unfold Nt.step at e
  rw [if_neg (by omega), if_neg (by omega), if_pos k] at e
  obtain ⟨e1, e2⟩ := Prod.mk.inj e
  obtain ⟨_, e3⟩ := Prod.mk.inj e2
  obtain ⟨y, h1, h2, _⟩ := Honest.double h (n' := n') (Prod.ext e1 e3)
  obtain ⟨i, hi, hy, hlt⟩ := at?_nat h1
  exact ⟨i, y, hi, hlt, hy, h2⟩
theorem hon_other {n n' : N} {x : Op7} {p : Pk} {made got : List Pk} (h : Honest n made got) (e : Nt.step n x = (n', p, 0)) (k : x.k % 8 = 4 ∨ x.k % 8 = 6 ∨ x.k % 8 = 7) : Honest n' made got := by
  have hs := h.step x
  unfold madeBy gotBy at hs
  rw [e] at hs
  dsimp only at hs
  rw [if_pos rfl, if_neg (by omega), if_neg (by omega), if_neg (fun q => by omega), List.append_nil, List.append_nil] at hs
  exact hs
end Go.Proofs.Ytedpkjlhcpjblaa
