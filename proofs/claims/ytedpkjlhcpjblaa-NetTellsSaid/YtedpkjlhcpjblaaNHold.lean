/-
  A network in a heap beside blocks that are held for others; the methods; the law's examples and its operations.
-/
import Derived.Test.YtedpkjlhcpjblaaNAll
namespace Go.Proofs.Ytedpkjlhcpjblaa
set_option maxRecDepth 100000
open Go Go.RowKit Nt

/-- The blocks of F are as they were. -/
def Held (F : Nat → Prop) (w w' : World) : Prop := Kept (fun k => ¬ F k) w w'
theorem Held.refl (F : Nat → Prop) (w : World) : Held F w w := Kept.refl _ _
theorem Held.trans {F : Nat → Prop} {a b c : World} (h : Held F a b) (k : Held F b c) : Held F a c := Kept.trans h k (fun _ _ e => e)
theorem Held.below {F : Nat → Prop} {w w' : World} (h : Below w.heap.size w w') : Held F w w' := Kept.below h
theorem Held.fewer {F G : Nat → Prop} {w w' : World} (h : Held F w w') (hG : ∀ k, G k → F k) : Held G w w' := Kept.mono h (fun k _ e e' => e (hG k e'))
theorem Held.box {F : Nat → Prop} {w w' : World} (h : Held F w w') {b : Nat} {p : Pk} (hp : PkBox w b p) (hb : F b) : PkBox w' b p := hp.kept h (fun e => e hb)
theorem Held.row {F : Nat → Prop} {w w' : World} (h : Held F w w') {B : Nat} {v : Value} {l : List Pk} (hp : PkRow w B v l) (hb : ∀ k, v.ownBlock = some k → F k) : PkRow w' B v l := hp.kept h (fun k e e' => e' (hb k e))
/-- The network in block b; the blocks of F are none of its. -/
structure NF' (w0 w : World) (b : Nat) (lv : Value) (n : N) (F : Nat → Prop) : Prop where
  at' : NetAt w b lv n
  ok : Ok n
  base : Below w0.heap.size w0 w
  low : w0.heap.size ≤ b
  rlow : ∀ k, lv.ownBlock = some k → w0.heap.size ≤ k ∧ ¬ F k
  far : ¬ F b
  flt : ∀ k, F k → k < w.heap.size
def NF (w0 w : World) (b : Nat) (n : N) (F : Nat → Prop) : Prop := ∃ lv, NF' w0 w b lv n F
theorem NF.base {w0 w : World} {b : Nat} {n : N} {F : Nat → Prop} (h : NF w0 w b n F) : Below w0.heap.size w0 w := by obtain ⟨lv, h⟩ := h; exact h.base
theorem NF.ok {w0 w : World} {b : Nat} {n : N} {F : Nat → Prop} (h : NF w0 w b n F) : Ok n := by obtain ⟨lv, h⟩ := h; exact h.ok
theorem NF.flt {w0 w : World} {b : Nat} {n : N} {F : Nat → Prop} (h : NF w0 w b n F) : ∀ k, F k → k < w.heap.size := by obtain ⟨lv, h⟩ := h; exact h.flt
theorem NF'.turned {w0 w w' : World} {b : Nat} {lv : Value} {n n' : N} {F : Nat → Prop} (h : NF' w0 w b lv n F) (ht : Turned w w' b lv n') (hn : Ok n') : NF w0 w' b n' F ∧ Held F w w' := by
  obtain ⟨lv', h1, h2, h3⟩ := ht
  have hs := h3.size
  refine ⟨⟨lv', h1, hn, h.base.trans (h3.toBelow h.base.size (fun k e => ?_)), h.low, fun k e => ?_, h.far, fun k e => Nat.lt_of_lt_of_le (h.flt k e) hs⟩, h3.mono (fun k _ e e' => ?_)⟩
  · rcases e with e | e
    · rw [e]; exact h.low
    · exact (h.rlow k e).1
  · rcases h2 with h2 | ⟨y, h2, hy⟩
    · exact h.rlow k (by rw [← h2]; exact e)
    · rw [h2] at e
      injection e with e
      subst e
      exact ⟨Nat.le_trans h.base.size hy, fun e => by have := h.flt _ e; omega⟩
  · rcases e with e | e
    · rw [e] at e'; exact h.far e'
    · exact (h.rlow k e).2 e'
theorem NF.move {w0 w w' : World} {b : Nat} {n : N} {F F' S : Nat → Prop} (h : NF w0 w b n F) (hk : Kept S w w') (hS : ∀ k, S k → F k ∧ w0.heap.size ≤ k) (hF : ∀ k, F' k → (F k ∨ w.heap.size ≤ k) ∧ k < w'.heap.size) : NF w0 w' b n F' := by
  obtain ⟨lv, h⟩ := h
  refine ⟨lv, h.at'.kept hk (fun e => h.far (hS _ e).1) (fun k e e' => (h.rlow k e).2 (hS k e').1), h.ok, h.base.trans (hk.toBelow h.base.size (fun k e => (hS k e).2)), h.low, fun k e => ⟨(h.rlow k e).1, fun e' => ?_⟩, fun e' => ?_, fun k e => (hF k e).2⟩
  · rcases (hF k e').1 with e2 | e2
    · exact (h.rlow k e).2 e2
    · have := h.at'.row.lt e; omega
  · rcases (hF b e').1 with e2 | e2
    · exact h.far e2
    · have := h.at'.lt; omega
theorem NF.below {w0 w w' : World} {b : Nat} {n : N} {F F' : Nat → Prop} (h : NF w0 w b n F) (hb : Below w.heap.size w w') (hF : ∀ k, F' k → (F k ∨ w.heap.size ≤ k) ∧ k < w'.heap.size) : NF w0 w' b n F' :=
  h.move (Kept.below (S := fun _ => False) hb) (fun _ e => e.elim) hF
theorem NF.on {w0 w w' : World} {b : Nat} {n : N} {F : Nat → Prop} (h : NF w0 w b n F) (hb : Below w.heap.size w w') : NF w0 w' b n F :=
  h.below hb (fun k e => ⟨Or.inl e, Nat.lt_of_lt_of_le (h.flt k e) hb.size⟩)
/-- The blocks of F, and those that were made since. -/
def Up (F : Nat → Prop) (w w1 : World) (k : Nat) : Prop := F k ∨ (w.heap.size ≤ k ∧ k < w1.heap.size)
theorem NF.up {w0 w w1 : World} {b : Nat} {n : N} {F : Nat → Prop} (h : NF w0 w b n F) (hb : Below w.heap.size w w1) : NF w0 w1 b n (Up F w w1) :=
  h.below hb (fun k e => by
    rcases e with e | ⟨e1, e2⟩
    · exact ⟨Or.inl e, Nat.lt_of_lt_of_le (h.flt k e) hb.size⟩
    · exact ⟨Or.inr e1, e2⟩)
theorem NF.down {w0 w w1 w2 w3 : World} {b : Nat} {n' : N} {F S : Nat → Prop} (hF : ∀ k, F k → k < w.heap.size) (h : NF w0 w2 b n' (Up F w w1)) (hh : Held (Up F w w1) w1 w2) (hb : Below w.heap.size w w1) (h0 : w0.heap.size ≤ w.heap.size) (hk : Kept S w2 w3) (hS : ∀ k, S k → w.heap.size ≤ k ∧ k < w1.heap.size) : NF w0 w3 b n' F ∧ Held F w w3 := by
  have s1 := hb.size
  have s2 := hh.size
  have s3 := hk.size
  refine ⟨h.move hk (fun k e => ⟨Or.inr (hS k e), by have := (hS k e).1; omega⟩) (fun k e => ⟨Or.inl (Or.inl e), by have := hF k e; omega⟩), ?_⟩
  have h1 : Held F w w2 := (Held.below hb).trans (hh.fewer (fun k e => Or.inl e))
  exact Kept.trans h1 hk (fun k hk e => by have := (hS k e).1; omega)

/-! ### The methods -/
theorem nf_new {w0 w : World} (hb : Below w0.heap.size w0 w) {F : Nat → Prop} (hF : ∀ k, F k → k < w.heap.size) : Calls Try.prog 8 #[] w fun e w' => e = .returned (.pointer (some ⟨w.heap.size, 0, none⟩)) ∧ NF w0 w' w.heap.size new F ∧ Below w.heap.size w w' ∧ w.heap.size < w'.heap.size := by
  refine (new_c w).mono ?_
  rintro e w' ⟨rfl, h1, h2⟩
  exact ⟨rfl, ⟨_, h1, ⟨⟨Int.le_refl _, by decide⟩, Nat.zero_le _, fun p hp => by cases hp⟩, hb.trans (h2.mono hb.size), hb.size, (fun k e => by cases e), (fun e => by have := hF _ e; omega), fun k e => Nat.lt_of_lt_of_le (hF k e) h2.size⟩, h2, h1.lt⟩
theorem send_ok' {n n' : N} {x y z : Int} {s : List UInt8} (hn : Ok n) (e : send n x y s = (n', z)) : Ok n' := by
  by_cases hz : z = 0
  · subst hz
    unfold Nt.send at e
    split at e
    · injection e with _ e; cases e
    · next hv =>
      split at e
      · injection e with _ e; cases e
      · split at e
        · injection e with _ e; cases e
        · next hl =>
          injection e with e _
          subst e
          refine hn.snoc ⟨?_, ?_, fun h => hv (Or.inr (Or.inr h))⟩ (by omega)
          · simpa using fun h => hv (Or.inl h)
          · simpa using fun h => hv (Or.inr (Or.inl h))
  · rw [send_same e hz]; exact hn
theorem nf_send {w0 w : World} {b : Nat} {n n' : N} {F : Nat → Prop} (h : NF w0 w b n F) {x y z : Int} {s : List UInt8} (e : send n x y s = (n', z)) : Calls Try.prog 20 #[.pointer (some ⟨b, 0, none⟩), .int .i64 x, .int .i64 y, .string ⟨s.toArray⟩] w fun e w' => e = .returned (.int .i64 z) ∧ NF w0 w' b n' F ∧ Held F w w' := by
  obtain ⟨lv, h⟩ := h
  refine (send_c h.at' h.ok x y s).mono ?_
  rintro e' w' ⟨rfl, ht⟩
  rw [e] at ht ⊢
  exact ⟨rfl, h.turned ht (send_ok' h.ok e)⟩
theorem at?_nat {n : N} {i : Int} {p : Pk} (h : at? n i = some p) : ∃ k : Nat, i = k ∧ n.l[k]? = some p ∧ k < n.l.length := by
  obtain ⟨h1, h2, h3⟩ := at?_lt h
  exact ⟨i.toNat, by omega, h3, by omega⟩
theorem nf_deliver {w0 w : World} {b : Nat} {n n' : N} {F : Nat → Prop} (h : NF w0 w b n F) {i z : Int} {p : Pk} (e : deliver n i = (n', p, z)) : Calls Try.prog 21 #[.pointer (some ⟨b, 0, none⟩), .int .i64 i] w fun e w' => e = .returned (.tuple #[.agg #[.int .i64 p.a, .int .i64 p.b, .string ⟨p.s.toArray⟩], .int .i64 z]) ∧ NF w0 w' b n' F ∧ Held F w w' := by
  obtain ⟨lv, h⟩ := h
  unfold Nt.deliver at e
  cases ha : at? n i with
  | none =>
    rw [ha] at e
    obtain ⟨rfl, e2⟩ := Prod.mk.inj e
    obtain ⟨rfl, rfl⟩ := Prod.mk.inj e2
    refine (deliver_out h.at' i (at?_none.1 ha)).mono ?_
    rintro e' w' ⟨rfl, hb⟩
    exact ⟨rfl, h.turned (h.at'.same hb) h.ok⟩
  | some q =>
    rw [ha] at e
    obtain ⟨rfl, e2⟩ := Prod.mk.inj e
    obtain ⟨k, rfl, hq, hk⟩ := at?_nat ha
    refine (deliver_in h.at' h.ok k q hq p z e2).mono ?_
    rintro e' w' ⟨rfl, ht⟩
    exact ⟨rfl, h.turned ht (h.ok.cut hk)⟩
theorem nf_drop {w0 w : World} {b : Nat} {n n' : N} {F : Nat → Prop} (h : NF w0 w b n F) {i z : Int} (e : drop n i = (n', z)) : Calls Try.prog 26 #[.pointer (some ⟨b, 0, none⟩), .int .i64 i] w fun e w' => e = .returned (.int .i64 z) ∧ NF w0 w' b n' F ∧ Held F w w' := by
  obtain ⟨lv, h⟩ := h
  unfold Nt.drop at e
  cases ha : at? n i with
  | none =>
    rw [ha] at e
    obtain ⟨rfl, rfl⟩ := Prod.mk.inj e
    refine (drop_out h.at' i (at?_none.1 ha)).mono ?_
    rintro e' w' ⟨rfl, hb⟩
    exact ⟨rfl, h.turned (h.at'.same hb) h.ok⟩
  | some q =>
    rw [ha] at e
    obtain ⟨rfl, rfl⟩ := Prod.mk.inj e
    obtain ⟨k, rfl, hq, hk⟩ := at?_nat ha
    refine (drop_in h.at' h.ok k q hq).mono ?_
    rintro e' w' ⟨rfl, ht⟩
    exact ⟨rfl, h.turned ht (h.ok.cut hk)⟩
theorem nf_double {w0 w : World} {b : Nat} {n n' : N} {F : Nat → Prop} (h : NF w0 w b n F) {i z : Int} (e : double n i = (n', z)) : Calls Try.prog 24 #[.pointer (some ⟨b, 0, none⟩), .int .i64 i] w fun e w' => e = .returned (.int .i64 z) ∧ NF w0 w' b n' F ∧ Held F w w' := by
  obtain ⟨lv, h⟩ := h
  unfold Nt.double at e
  cases ha : at? n i with
  | none =>
    rw [ha] at e
    obtain ⟨rfl, rfl⟩ := Prod.mk.inj e
    refine (double_out h.at' i (at?_none.1 ha)).mono ?_
    rintro e' w' ⟨rfl, hb⟩
    exact ⟨rfl, h.turned (h.at'.same hb) h.ok⟩
  | some q =>
    rw [ha] at e
    dsimp only at e
    obtain ⟨k, rfl, hq, hk⟩ := at?_nat ha
    refine (double_in h.at' h.ok k q hq).mono ?_
    rintro e' w' ⟨rfl, ht⟩
    by_cases h5 : 500 ≤ n.l.length
    · rw [if_pos h5] at e ht
      rw [if_pos h5]
      obtain ⟨rfl, rfl⟩ := Prod.mk.inj e
      exact ⟨rfl, h.turned ht h.ok⟩
    · rw [if_neg h5] at e ht
      rw [if_neg h5]
      obtain ⟨rfl, rfl⟩ := Prod.mk.inj e
      exact ⟨rfl, h.turned ht (h.ok.snoc (h.ok.ends q (List.mem_of_getElem? hq)) (by omega))⟩
theorem Ok.split' {n : N} (h : Ok n) (m : Int) : Ok (Nt.split n m) := ⟨by unfold Nt.split; dsimp only; omega, h.len, h.ends⟩
theorem nf_split {w0 w : World} {b : Nat} {n : N} {F : Nat → Prop} (h : NF w0 w b n F) (mask : Int) : Calls Try.prog 22 #[.pointer (some ⟨b, 0, none⟩), .int .i64 mask] w fun e w' => e = .returned (.tuple #[]) ∧ NF w0 w' b (split n mask) F ∧ Held F w w' := by
  obtain ⟨lv, h⟩ := h
  refine (split_c h.at' mask).mono ?_
  rintro e' w' ⟨rfl, ht⟩
  exact ⟨rfl, h.turned ht (h.ok.split' mask)⟩
theorem nf_heal {w0 w : World} {b : Nat} {n : N} {F : Nat → Prop} (h : NF w0 w b n F) : Calls Try.prog 23 #[.pointer (some ⟨b, 0, none⟩)] w fun e w' => e = .returned (.tuple #[]) ∧ NF w0 w' b (split n 0) F ∧ Held F w w' := by
  obtain ⟨lv, h⟩ := h
  refine (heal_c h.at').mono ?_
  rintro e' w' ⟨rfl, ht⟩
  exact ⟨rfl, h.turned ht (h.ok.split' 0)⟩
theorem nf_hear {w0 w : World} {b : Nat} {n : N} {F : Nat → Prop} (h : NF w0 w b n F) (x y : Int) : Calls Try.prog 15 #[.pointer (some ⟨b, 0, none⟩), .int .i64 x, .int .i64 y] w fun e w' => e = .returned (.bool (hear n.m x y)) ∧ w' = w := by
  obtain ⟨lv, h⟩ := h
  exact hear_c h.at' h.ok x y
theorem nf_count {w0 w : World} {b : Nat} {n : N} {F : Nat → Prop} (h : NF w0 w b n F) : Calls Try.prog 14 #[.pointer (some ⟨b, 0, none⟩)] w fun e w' => e = .returned (.int .i64 (n.l.length : Int)) ∧ w' = w := by
  obtain ⟨lv, h⟩ := h
  exact count_c h.at'
theorem nf_list {w0 w : World} {b : Nat} {n : N} {F : Nat → Prop} (h : NF w0 w b n F) : Calls Try.prog 18 #[.pointer (some ⟨b, 0, none⟩)] w fun e w' => ∃ v', e = .returned v' ∧ PkRow w' w.heap.size v' n.l ∧ Below w.heap.size w w' := by
  obtain ⟨lv, h⟩ := h
  exact list_c h.at' h.ok.len

/-! ### The operations of the law -/
def opV (x : Op7) : Value := .agg #[.int .i64 x.k, .int .i64 x.n, .int .i64 x.to, .string ⟨x.s.toArray⟩]
/-- From the end of a call that is made on the way to what the law's operation returns. -/
theorem do_end {w0 w W1 w2 : World} {b : Nat} {n' : N} {F : Nat → Prop} {p : Pk} (r : Nat) (hr : w.heap.size ≤ r ∧ r < W1.heap.size) (hF : ∀ k, F k → k < w.heap.size) (hb : Below w.heap.size w W1) (h0 : w0.heap.size ≤ w.heap.size) (h : NF w0 w2 b n' (Up F w W1) ∧ Held (Up F w W1) W1 w2) (x : PkBox W1 r zero) :
    PkBox (((w2.setCell ⟨r, 0, none⟩ (.int .i64 p.a)).setCell ⟨r, 1, none⟩ (.int .i64 p.b)).setCell ⟨r, 2, none⟩ (.string ⟨p.s.toArray⟩)) r p ∧ NF w0 (((w2.setCell ⟨r, 0, none⟩ (.int .i64 p.a)).setCell ⟨r, 1, none⟩ (.int .i64 p.b)).setCell ⟨r, 2, none⟩ (.string ⟨p.s.toArray⟩)) b n' F ∧
      Held F w (((w2.setCell ⟨r, 0, none⟩ (.int .i64 p.a)).setCell ⟨r, 1, none⟩ (.int .i64 p.b)).setCell ⟨r, 2, none⟩ (.string ⟨p.s.toArray⟩)) :=
  ⟨(h.2.box x (Or.inr hr)).set3 p, NF.down hF h.1 h.2 hb h0 (Kept.set3 r w2 _ _ _) (fun k e => by rw [e]; exact hr)⟩
end Go.Proofs.Ytedpkjlhcpjblaa
