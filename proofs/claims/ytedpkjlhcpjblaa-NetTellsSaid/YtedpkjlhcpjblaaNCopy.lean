/-
  The two Copy; the reference's network beside blocks that are held for others, and its methods.
-/
import Derived.Test.YtedpkjlhcpjblaaNDbl
namespace Go.Proofs.Ytedpkjlhcpjblaa
set_option maxRecDepth 100000
open Go Go.RowKit Nt

set_option maxHeartbeats 1000000 in
theorem copy_c {w : World} {b : Nat} {lv : Value} {n : N} (h : NetAt w b lv n) (hl : n.l.length ≤ 500) : Calls Try.prog 10 #[.pointer (some ⟨b, 0, none⟩)] w fun e w' => ∃ d dv, e = .returned (.pointer (some ⟨d, 0, none⟩)) ∧ NetAt w' d dv n ∧ w.heap.size ≤ d ∧ (∀ k, dv.ownBlock = some k → w.heap.size ≤ k) ∧ Below w.heap.size w w' := by
  have c0 := h.c0
  have c1 := h.c1
  have hd : Below w.heap.size w w.drew := (Below.refl _ _).drew
  have hq := (clone_c (h.row.on hd) (by omega)).mono (R' := fun e w1 => ∃ a' c', e = .returned (.slice a' n.l.length c') ∧ w1.cell? ⟨b, 1, none⟩ = some (.int .u16 n.m) ∧ Hid (PkRow w1 w.heap.size (.slice a' n.l.length c') n.l ∧ Below w.heap.size w w1)) (by
    rintro e w1 ⟨v', rfl, h1, h2⟩
    obtain ⟨a', c', rfl, _⟩ := h1.shape
    exact ⟨a', c', rfl, (Kept.below (S := fun _ => False) (hd.trans (h2.mono hd.size))).cell c1 (fun e => e), ⟨h1, hd.trans (h2.mono hd.size)⟩⟩)
  have Q := Lib.hid hq
  obtain ⟨a, c, rfl, _⟩ := h.row.shape
  clear h hl hd hq
  go_enter Try.func10, Try.ntmps10
  go_wp2_with fail
  go_region_law (go_simp; go_at_call 25; refine Q.out.mono ?_; rintro e w1 ⟨a', c', rfl, d1, HH⟩)
  all_goals
    go_wp2_with fail
    go_ret
    refine ⟨w1.heap.size, .slice a' n.l.length c', rfl, ⟨heap_alloc_new w1 _, (HH.out.1.on ((Below.refl _ _).alloc (Nat.le_refl _) _)).low (Nat.zero_le _), fun e => ?_⟩, HH.out.2.size, fun k e => HH.out.1.above e, HH.out.2.alloc HH.out.2.size _⟩
    have := HH.out.1.lt e
    omega
set_option maxHeartbeats 1000000 in
theorem rcopy_c {w : World} {b : Nat} {lv : Value} {n : N} (h : RefAt w b lv n) (hl : n.l.length ≤ 500) : Calls Try.prog 11 #[.pointer (some ⟨b, 0, none⟩)] w fun e w' => ∃ d dv, e = .returned (.pointer (some ⟨d, 0, none⟩)) ∧ RefAt w' d dv n ∧ w.heap.size ≤ d ∧ (∀ k, dv.ownBlock = some k → w.heap.size ≤ k) ∧ Below w.heap.size w w' := by
  have c0 := h.c0
  have c1 := h.c1
  obtain ⟨a, c, rfl, _⟩ := h.row.shape
  have hN : Below w.heap.size w (w.alloc (.cells #[] 33)) := (Below.refl _ _).alloc (Nat.le_refl _) _
  have hba : Below w.heap.size w (w.alloc (.cells #[] 33)).drew := hN.drew
  have hown0 : PkRow (w.alloc (.cells #[] 33)).drew w.heap.size (.slice (some ⟨w.heap.size, 0, none⟩) 0 0) [] := PkRow.on (w := w.alloc (.cells #[] 33)) (World.ownsRow_made w #[] 0 (Nat.le_refl _) (Nat.zero_le _) rfl) ⟨rfl, rfl, rfl, Nat.le_refl _, fun _ _ => rfl⟩
  obtain ⟨a1, c2, W1, hr1, ho1, _, hk1⟩ := app_row _ w.heap.size _ [] hown0 _ _ n.l (h.row.on hba) (by simp only [List.length_nil]; omega) hba.size
  simp only [List.length_nil, Nat.zero_add, List.nil_append] at hr1 ho1
  have hbb : Below w.heap.size w W1 := hba.trans (hk1.toBelow hba.size (fun j e => hown0.above e))
  have q0 : (w.alloc (.cells #[] 33)).cell? ⟨b, 0, none⟩ = some (.slice a n.l.length c) := (Kept.below (S := fun _ => False) hN).cell c0 (fun e => e)
  have q1 : (w.alloc (.cells #[] 33)).cell? ⟨b, 1, none⟩ = some (.int .i64 n.m) := (Kept.below (S := fun _ => False) hN).cell c1 (fun e => e)
  have r1 : W1.cell? ⟨b, 1, none⟩ = some (.int .i64 n.m) := (Kept.below (S := fun _ => False) hbb).cell c1 (fun e => e)
  have HR1 := Lib.hid hr1
  have HH := Lib.hid (And.intro ho1 hbb)
  clear h hl hba hown0 hr1 ho1 hk1 hbb hN
  go_enter Try.func11, Try.ntmps11
  go_wp2_with fail
  go_region_law (refine step_append_run rfl (.tmp 3) (.tmp 7) _ _ rfl _ _ rfl rfl _ _ HR1.out ?_)
  all_goals
    go_wp2_with fail
    go_ret
    refine ⟨W1.heap.size, .slice a1 n.l.length c2, rfl, ⟨heap_alloc_new W1 _, (HH.out.1.on ((Below.refl _ _).alloc (Nat.le_refl _) _)).low (Nat.zero_le _), fun e => ?_⟩, HH.out.2.size, fun k e => HH.out.1.above e, HH.out.2.alloc HH.out.2.size _⟩
    have := HH.out.1.lt e
    omega

/-! ### Held -/
/-- The network in block b; the blocks of F are none of its. -/
structure RF' (w0 w : World) (b : Nat) (lv : Value) (n : N) (F : Nat → Prop) : Prop where
  at' : RefAt w b lv n
  ok : Ok n
  base : Below w0.heap.size w0 w
  low : w0.heap.size ≤ b
  rlow : ∀ k, lv.ownBlock = some k → w0.heap.size ≤ k ∧ ¬ F k
  far : ¬ F b
  flt : ∀ k, F k → k < w.heap.size
def RF (w0 w : World) (b : Nat) (n : N) (F : Nat → Prop) : Prop := ∃ lv, RF' w0 w b lv n F
theorem RF.base {w0 w : World} {b : Nat} {n : N} {F : Nat → Prop} (h : RF w0 w b n F) : Below w0.heap.size w0 w := by obtain ⟨lv, h⟩ := h; exact h.base
theorem RF.ok {w0 w : World} {b : Nat} {n : N} {F : Nat → Prop} (h : RF w0 w b n F) : Ok n := by obtain ⟨lv, h⟩ := h; exact h.ok
theorem RF.flt {w0 w : World} {b : Nat} {n : N} {F : Nat → Prop} (h : RF w0 w b n F) : ∀ k, F k → k < w.heap.size := by obtain ⟨lv, h⟩ := h; exact h.flt
theorem RF'.turned {w0 w w' : World} {b : Nat} {lv : Value} {n n' : N} {F : Nat → Prop} (h : RF' w0 w b lv n F) (ht : RTurned w w' b lv n') (hn : Ok n') : RF w0 w' b n' F ∧ Held F w w' := by
  obtain ⟨lv', h1, h2, h3⟩ := ht
  have hs := h3.size
  refine ⟨⟨lv', h1, hn, h.base.trans (h3.toBelow h.base.size (fun k e => ?_)), h.low, fun k e => ?_, h.far, fun k e => Nat.lt_of_lt_of_le (h.flt k e) hs⟩, h3.mono (fun k _ e e' => ?_)⟩
  · rcases e with e | e
    · rw [e]; exact h.low
    · exact (h.rlow k e).1
  · rcases h2 k e with h2 | hy
    · exact h.rlow k h2
    · exact ⟨Nat.le_trans h.base.size hy, fun e => by have := h.flt _ e; omega⟩
  · rcases e with e | e
    · rw [e] at e'; exact h.far e'
    · exact (h.rlow k e).2 e'
theorem RF.move {w0 w w' : World} {b : Nat} {n : N} {F F' S : Nat → Prop} (h : RF w0 w b n F) (hk : Kept S w w') (hS : ∀ k, S k → F k ∧ w0.heap.size ≤ k) (hF : ∀ k, F' k → (F k ∨ w.heap.size ≤ k) ∧ k < w'.heap.size) : RF w0 w' b n F' := by
  obtain ⟨lv, h⟩ := h
  refine ⟨lv, h.at'.kept hk (fun e => h.far (hS _ e).1) (fun k e e' => (h.rlow k e).2 (hS k e').1), h.ok, h.base.trans (hk.toBelow h.base.size (fun k e => (hS k e).2)), h.low, fun k e => ⟨(h.rlow k e).1, fun e' => ?_⟩, fun e' => ?_, fun k e => (hF k e).2⟩
  · rcases (hF k e').1 with e2 | e2
    · exact (h.rlow k e).2 e2
    · have := h.at'.row.lt e; omega
  · rcases (hF b e').1 with e2 | e2
    · exact h.far e2
    · have := h.at'.lt; omega
theorem RF.below {w0 w w' : World} {b : Nat} {n : N} {F F' : Nat → Prop} (h : RF w0 w b n F) (hb : Below w.heap.size w w') (hF : ∀ k, F' k → (F k ∨ w.heap.size ≤ k) ∧ k < w'.heap.size) : RF w0 w' b n F' :=
  h.move (Kept.below (S := fun _ => False) hb) (fun _ e => e.elim) hF
theorem RF.on {w0 w w' : World} {b : Nat} {n : N} {F : Nat → Prop} (h : RF w0 w b n F) (hb : Below w.heap.size w w') : RF w0 w' b n F :=
  h.below hb (fun k e => ⟨Or.inl e, Nat.lt_of_lt_of_le (h.flt k e) hb.size⟩)
theorem RF.up {w0 w w1 : World} {b : Nat} {n : N} {F : Nat → Prop} (h : RF w0 w b n F) (hb : Below w.heap.size w w1) : RF w0 w1 b n (Up F w w1) :=
  h.below hb (fun k e => by
    rcases e with e | ⟨e1, e2⟩
    · exact ⟨Or.inl e, Nat.lt_of_lt_of_le (h.flt k e) hb.size⟩
    · exact ⟨Or.inr e1, e2⟩)
theorem RF.down {w0 w w1 w2 w3 : World} {b : Nat} {n' : N} {F S : Nat → Prop} (hF : ∀ k, F k → k < w.heap.size) (h : RF w0 w2 b n' (Up F w w1)) (hh : Held (Up F w w1) w1 w2) (hb : Below w.heap.size w w1) (h0 : w0.heap.size ≤ w.heap.size) (hk : Kept S w2 w3) (hS : ∀ k, S k → w.heap.size ≤ k ∧ k < w1.heap.size) : RF w0 w3 b n' F ∧ Held F w w3 := by
  have s1 := hb.size
  have s2 := hh.size
  have s3 := hk.size
  refine ⟨h.move hk (fun k e => ⟨Or.inr (hS k e), by have := (hS k e).1; omega⟩) (fun k e => ⟨Or.inl (Or.inl e), by have := hF k e; omega⟩), ?_⟩
  have h1 : Held F w w2 := (Held.below hb).trans (hh.fewer (fun k e => Or.inl e))
  exact Kept.trans h1 hk (fun k hk e => by have := (hS k e).1; omega)


theorem rf_send {w0 w : World} {b : Nat} {n n' : N} {F : Nat → Prop} (h : RF w0 w b n F) {x y z : Int} {s : List UInt8} (e : send n x y s = (n', z)) : Calls Try.prog 31 #[.pointer (some ⟨b, 0, none⟩), .int .i64 x, .int .i64 y, .string ⟨s.toArray⟩] w fun e w' => e = .returned (.int .i64 z) ∧ RF w0 w' b n' F ∧ Held F w w' := by
  obtain ⟨lv, h⟩ := h
  refine (rsend_c h.at' h.ok.len x y s).mono ?_
  rintro e' w' ⟨rfl, ht⟩
  rw [e] at ht ⊢
  exact ⟨rfl, h.turned ht (send_ok' h.ok e)⟩
theorem rf_deliver {w0 w : World} {b : Nat} {n n' : N} {F : Nat → Prop} (h : RF w0 w b n F) {i z : Int} {p : Pk} (e : deliver n i = (n', p, z)) : Calls Try.prog 27 #[.pointer (some ⟨b, 0, none⟩), .int .i64 i] w fun e w' => e = .returned (.tuple #[.agg #[.int .i64 p.a, .int .i64 p.b, .string ⟨p.s.toArray⟩], .int .i64 z]) ∧ RF w0 w' b n' F ∧ Held F w w' := by
  obtain ⟨lv, h⟩ := h
  unfold Nt.deliver at e
  cases ha : at? n i with
  | none =>
    rw [ha] at e
    obtain ⟨rfl, e2⟩ := Prod.mk.inj e
    obtain ⟨rfl, rfl⟩ := Prod.mk.inj e2
    refine (rdeliver_out h.at' i (at?_none.1 ha)).mono ?_
    rintro e' w' ⟨rfl, hb⟩
    exact ⟨rfl, h.turned (h.at'.same hb) h.ok⟩
  | some q =>
    rw [ha] at e
    obtain ⟨rfl, e2⟩ := Prod.mk.inj e
    obtain ⟨k, rfl, hq, hk⟩ := at?_nat ha
    refine (rdeliver_in h.at' h.ok.len k q hq p z e2).mono ?_
    rintro e' w' ⟨rfl, ht⟩
    exact ⟨rfl, h.turned ht (h.ok.cut hk)⟩
theorem rf_drop {w0 w : World} {b : Nat} {n n' : N} {F : Nat → Prop} (h : RF w0 w b n F) {i z : Int} (e : drop n i = (n', z)) : Calls Try.prog 28 #[.pointer (some ⟨b, 0, none⟩), .int .i64 i] w fun e w' => e = .returned (.int .i64 z) ∧ RF w0 w' b n' F ∧ Held F w w' := by
  obtain ⟨lv, h⟩ := h
  unfold Nt.drop at e
  cases ha : at? n i with
  | none =>
    rw [ha] at e
    obtain ⟨rfl, rfl⟩ := Prod.mk.inj e
    refine (rdrop_out h.at' i (at?_none.1 ha)).mono ?_
    rintro e' w' ⟨rfl, hw⟩
    rw [hw]
    exact ⟨rfl, h.turned (h.at'.same (Below.refl _ _)) h.ok⟩
  | some q =>
    rw [ha] at e
    obtain ⟨rfl, rfl⟩ := Prod.mk.inj e
    obtain ⟨k, rfl, hq, hk⟩ := at?_nat ha
    refine (rdrop_in h.at' h.ok.len k hk).mono ?_
    rintro e' w' ⟨rfl, ht⟩
    exact ⟨rfl, h.turned ht (h.ok.cut hk)⟩
theorem rf_double {w0 w : World} {b : Nat} {n n' : N} {F : Nat → Prop} (h : RF w0 w b n F) {i z : Int} (e : double n i = (n', z)) : Calls Try.prog 29 #[.pointer (some ⟨b, 0, none⟩), .int .i64 i] w fun e w' => e = .returned (.int .i64 z) ∧ RF w0 w' b n' F ∧ Held F w w' := by
  obtain ⟨lv, h⟩ := h
  unfold Nt.double at e
  cases ha : at? n i with
  | none =>
    rw [ha] at e
    obtain ⟨rfl, rfl⟩ := Prod.mk.inj e
    refine (rdouble_out h.at' i (at?_none.1 ha)).mono ?_
    rintro e' w' ⟨rfl, hw⟩
    rw [hw]
    exact ⟨rfl, h.turned (h.at'.same (Below.refl _ _)) h.ok⟩
  | some q =>
    rw [ha] at e
    dsimp only at e
    obtain ⟨k, rfl, hq, hk⟩ := at?_nat ha
    by_cases h5 : 500 ≤ n.l.length
    · rw [if_pos h5] at e
      obtain ⟨rfl, rfl⟩ := Prod.mk.inj e
      refine (rdouble_full h.at' k hk h5).mono ?_
      rintro e' w' ⟨rfl, hw⟩
      rw [hw]
      exact ⟨rfl, h.turned (h.at'.same (Below.refl _ _)) h.ok⟩
    · rw [if_neg h5] at e
      obtain ⟨rfl, rfl⟩ := Prod.mk.inj e
      refine (rdouble_in h.at' k q hq (by omega)).mono ?_
      rintro e' w' ⟨rfl, ht⟩
      exact ⟨rfl, h.turned ht (h.ok.snoc (h.ok.ends q (List.mem_of_getElem? hq)) (by omega))⟩
theorem rf_split {w0 w : World} {b : Nat} {n : N} {F : Nat → Prop} (h : RF w0 w b n F) (mask : Int) : Calls Try.prog 30 #[.pointer (some ⟨b, 0, none⟩), .int .i64 mask] w fun e w' => e = .returned (.tuple #[]) ∧ RF w0 w' b (split n mask) F ∧ Held F w w' := by
  obtain ⟨lv, h⟩ := h
  refine (rsplit_c h.at' mask).mono ?_
  rintro e' w' ⟨rfl, ht⟩
  exact ⟨rfl, h.turned ht (h.ok.split' mask)⟩
theorem rf_hear {w0 w : World} {b : Nat} {n : N} {F : Nat → Prop} (h : RF w0 w b n F) (x y : Int) : Calls Try.prog 16 #[.pointer (some ⟨b, 0, none⟩), .int .i64 x, .int .i64 y] w fun e w' => e = .returned (.bool (hear n.m x y)) ∧ w' = w := by
  obtain ⟨lv, h⟩ := h
  exact rhear_c h.at' x y

/-- From the end of a call that is made on the way to what the law's operation returns. -/
theorem rdo_end {w0 w W1 w2 : World} {b : Nat} {n' : N} {F : Nat → Prop} {p : Pk} (r : Nat) (hr : w.heap.size ≤ r ∧ r < W1.heap.size) (hF : ∀ k, F k → k < w.heap.size) (hb : Below w.heap.size w W1) (h0 : w0.heap.size ≤ w.heap.size) (h : RF w0 w2 b n' (Up F w W1) ∧ Held (Up F w W1) W1 w2) (x : PkBox W1 r zero) :
    PkBox (((w2.setCell ⟨r, 0, none⟩ (.int .i64 p.a)).setCell ⟨r, 1, none⟩ (.int .i64 p.b)).setCell ⟨r, 2, none⟩ (.string ⟨p.s.toArray⟩)) r p ∧ RF w0 (((w2.setCell ⟨r, 0, none⟩ (.int .i64 p.a)).setCell ⟨r, 1, none⟩ (.int .i64 p.b)).setCell ⟨r, 2, none⟩ (.string ⟨p.s.toArray⟩)) b n' F ∧
      Held F w (((w2.setCell ⟨r, 0, none⟩ (.int .i64 p.a)).setCell ⟨r, 1, none⟩ (.int .i64 p.b)).setCell ⟨r, 2, none⟩ (.string ⟨p.s.toArray⟩)) :=
  ⟨(h.2.box x (Or.inr hr)).set3 p, RF.down hF h.1 h.2 hb h0 (Kept.set3 r w2 _ _ _) (fun k e => by rw [e]; exact hr)⟩
end Go.Proofs.Ytedpkjlhcpjblaa
