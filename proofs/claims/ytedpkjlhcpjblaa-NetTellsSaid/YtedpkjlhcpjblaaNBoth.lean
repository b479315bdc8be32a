/-
  The program's network and the reference's in one memory.
-/
import Derived.Test.YtedpkjlhcpjblaaNMod
namespace Go.Proofs.Ytedpkjlhcpjblaa
set_option maxRecDepth 100000
open Go Go.RowKit Nt

def InA (b : Nat) (lv : Value) (k : Nat) : Prop := k = b ∨ lv.ownBlock = some k
theorem NF'.below' {w0 w w' : World} {b : Nat} {lv : Value} {n : N} {F F' : Nat → Prop} (h : NF' w0 w b lv n F) (hb : Below w.heap.size w w') (hF : ∀ k, F' k → (F k ∨ w.heap.size ≤ k) ∧ k < w'.heap.size) : NF' w0 w' b lv n F' := by
  refine ⟨h.at'.on hb, h.ok, h.base.trans (hb.mono h.base.size), h.low, fun k e => ⟨(h.rlow k e).1, fun e' => ?_⟩, fun e' => ?_, fun k e => (hF k e).2⟩
  · rcases (hF k e').1 with e2 | e2
    · exact (h.rlow k e).2 e2
    · have := h.at'.row.lt e; omega
  · rcases (hF b e').1 with e2 | e2
    · exact h.far e2
    · have := h.at'.lt; omega
theorem RF'.below' {w0 w w' : World} {b : Nat} {lv : Value} {n : N} {F F' : Nat → Prop} (h : RF' w0 w b lv n F) (hb : Below w.heap.size w w') (hF : ∀ k, F' k → (F k ∨ w.heap.size ≤ k) ∧ k < w'.heap.size) : RF' w0 w' b lv n F' := by
  refine ⟨h.at'.on hb, h.ok, h.base.trans (hb.mono h.base.size), h.low, fun k e => ⟨(h.rlow k e).1, fun e' => ?_⟩, fun e' => ?_, fun k e => (hF k e).2⟩
  · rcases (hF k e').1 with e2 | e2
    · exact (h.rlow k e).2 e2
    · have := h.at'.row.lt e; omega
  · rcases (hF b e').1 with e2 | e2
    · exact h.far e2
    · have := h.at'.lt; omega
/-- The program's network in block b, the reference's in block r; the blocks of G are none of theirs. -/
structure Both' (w W : World) (b r : Nat) (n1 n2 : N) (lv rv : Value) (G : Nat → Prop) : Prop where
  n : NF' w W b lv n1 (fun k => G k ∨ InA r rv k)
  r : RF' w W r rv n2 (fun k => G k ∨ InA b lv k)
def Both (w W : World) (b r : Nat) (n1 n2 : N) (G : Nat → Prop) : Prop := ∃ lv rv, Both' w W b r n1 n2 lv rv G
theorem Both.base {w W : World} {b r : Nat} {n1 n2 : N} {G : Nat → Prop} (h : Both w W b r n1 n2 G) : Below w.heap.size w W := by obtain ⟨_, _, h⟩ := h; exact h.n.base
theorem Both.glt {w W : World} {b r : Nat} {n1 n2 : N} {G : Nat → Prop} (h : Both w W b r n1 n2 G) : ∀ k, G k → k < W.heap.size := by obtain ⟨_, _, h⟩ := h; exact fun k e => h.n.flt k (Or.inl e)
/-- An operation on the program's network. -/
theorem Both.net {w W : World} {b r : Nat} {n1 n2 : N} {G : Nat → Prop} (h : Both w W b r n1 n2 G) : ∃ F, NF w W b n1 F ∧ ∀ W' n1', NF w W' b n1' F → Held F W W' → Both w W' b r n1' n2 G ∧ Held G W W' := by
  obtain ⟨lv, rv, h⟩ := h
  refine ⟨_, ⟨lv, h.n⟩, fun W' n1' hn hk => ⟨?_, hk.fewer (fun k e => Or.inl e)⟩⟩
  obtain ⟨lv', hn⟩ := hn
  refine ⟨lv', rv, hn, h.r.at'.kept hk (fun e => e (Or.inr (Or.inl rfl))) (fun k e e' => e' (Or.inr (Or.inr e))), h.r.ok, hn.base, h.r.low, fun k e => ⟨(h.r.rlow k e).1, fun e' => ?_⟩, fun e' => ?_, fun k e => ?_⟩
  · rcases e' with e' | e' | e'
    · exact (h.r.rlow k e).2 (Or.inl e')
    · subst e'; exact hn.far (Or.inr (Or.inr e))
    · exact (hn.rlow k e').2 (Or.inr (Or.inr e))
  · rcases e' with e' | e' | e'
    · exact h.r.far (Or.inl e')
    · subst e'; exact hn.far (Or.inr (Or.inl rfl))
    · exact (hn.rlow r e').2 (Or.inr (Or.inl rfl))
  · rcases e with e | e | e
    · exact hn.flt k (Or.inl e)
    · rw [e]; exact hn.at'.lt
    · exact hn.at'.row.lt e
/-- An operation on the reference's network. -/
theorem Both.ref {w W : World} {b r : Nat} {n1 n2 : N} {G : Nat → Prop} (h : Both w W b r n1 n2 G) : ∃ F, RF w W r n2 F ∧ ∀ W' n2', RF w W' r n2' F → Held F W W' → Both w W' b r n1 n2' G ∧ Held G W W' := by
  obtain ⟨lv, rv, h⟩ := h
  refine ⟨_, ⟨rv, h.r⟩, fun W' n2' hn hk => ⟨?_, hk.fewer (fun k e => Or.inl e)⟩⟩
  obtain ⟨rv', hn⟩ := hn
  refine ⟨lv, rv', ⟨h.n.at'.kept hk (fun e => e (Or.inr (Or.inl rfl))) (fun k e e' => e' (Or.inr (Or.inr e))), h.n.ok, hn.base, h.n.low, fun k e => ⟨(h.n.rlow k e).1, fun e' => ?_⟩, fun e' => ?_, fun k e => ?_⟩, hn⟩
  · rcases e' with e' | e' | e'
    · exact (h.n.rlow k e).2 (Or.inl e')
    · subst e'; exact hn.far (Or.inr (Or.inr e))
    · exact (hn.rlow k e').2 (Or.inr (Or.inr e))
  · rcases e' with e' | e' | e'
    · exact h.n.far (Or.inl e')
    · subst e'; exact hn.far (Or.inr (Or.inl rfl))
    · exact (hn.rlow b e').2 (Or.inr (Or.inl rfl))
  · rcases e with e | e | e
    · exact hn.flt k (Or.inl e)
    · rw [e]; exact hn.at'.lt
    · exact hn.at'.row.lt e
theorem Both.grow {w W W' : World} {b r : Nat} {n1 n2 : N} {G G' : Nat → Prop} (h : Both w W b r n1 n2 G) (hb : Below W.heap.size W W') (hG : ∀ k, G' k → (G k ∨ W.heap.size ≤ k) ∧ k < W'.heap.size) : Both w W' b r n1 n2 G' := by
  obtain ⟨lv, rv, h⟩ := h
  refine ⟨lv, rv, h.n.below' hb (fun k e => ?_), h.r.below' hb (fun k e => ?_)⟩
  · rcases e with e | e
    · exact ⟨(hG k e).1.imp Or.inl id, (hG k e).2⟩
    · exact ⟨Or.inl (Or.inr e), Nat.lt_of_lt_of_le (h.n.flt k (Or.inr e)) hb.size⟩
  · rcases e with e | e
    · exact ⟨(hG k e).1.imp Or.inl id, (hG k e).2⟩
    · exact ⟨Or.inl (Or.inr e), Nat.lt_of_lt_of_le (h.r.flt k (Or.inr e)) hb.size⟩
theorem Both.on {w W W' : World} {b r : Nat} {n1 n2 : N} {G : Nat → Prop} (h : Both w W b r n1 n2 G) (hb : Below W.heap.size W W') : Both w W' b r n1 n2 G := h.grow hb (fun k e => ⟨Or.inl e, Nat.lt_of_lt_of_le (h.glt k e) hb.size⟩)

/-- The copies. -/
def GC (c : Nat) (cv : Value) (d : Nat) (dv : Value) (k : Nat) : Prop := InA c cv k ∨ InA d dv k
structure Cp (W : World) (c : Nat) (cv : Value) (d : Nat) (dv : Value) (nc : N) : Prop where
  n : NetAt W c cv nc
  r : RefAt W d dv nc
  ok : Ok nc
theorem Cp.held {W W' : World} {c d : Nat} {cv dv : Value} {nc : N} {G : Nat → Prop} (h : Cp W c cv d dv nc) (hk : Held G W W') (hG : ∀ k, GC c cv d dv k → G k) : Cp W' c cv d dv nc :=
  ⟨h.n.kept hk (fun e => e (hG _ (Or.inl (Or.inl rfl)))) (fun _ e e' => e' (hG _ (Or.inl (Or.inr e)))), h.r.kept hk (fun e => e (hG _ (Or.inr (Or.inl rfl)))) (fun _ e e' => e' (hG _ (Or.inr (Or.inr e)))), h.ok⟩
theorem Cp.on {W W' : World} {c d : Nat} {cv dv : Value} {nc : N} (h : Cp W c cv d dv nc) (hb : Below W.heap.size W W') : Cp W' c cv d dv nc := ⟨h.n.on hb, h.r.on hb, h.ok⟩
theorem Cp.lt {W : World} {c d : Nat} {cv dv : Value} {nc : N} (h : Cp W c cv d dv nc) {k : Nat} (hk : GC c cv d dv k) : k < W.heap.size := by
  rcases hk with (hk | hk) | (hk | hk)
  · rw [hk]; exact h.n.lt
  · exact h.n.row.lt hk
  · rw [hk]; exact h.r.lt
  · exact h.r.row.lt hk
/-- What the law's loop keeps. -/
def TL (w W : World) (b r c d : Nat) : Prop := ∃ cv dv n nc, Both w W b r n n (GC c cv d dv) ∧ Cp W c cv d dv nc
/-- New copies. -/
theorem TL.copied {w W W1 W2 : World} {b r c d : Nat} {cv dv : Value} {n : N} {G : Nat → Prop} (h : Both w W b r n n G) (hb1 : Below W.heap.size W W1) (hb2 : Below W1.heap.size W1 W2) (hc : NetAt W1 c cv n) (hcl : W.heap.size ≤ c ∧ ∀ k, cv.ownBlock = some k → W.heap.size ≤ k) (hd : RefAt W2 d dv n) (hdl : W1.heap.size ≤ d ∧ ∀ k, dv.ownBlock = some k → W1.heap.size ≤ k) : TL w W2 b r c d := by
  have hs := hb1.size
  have hcp : Cp W2 c cv d dv n := ⟨hc.on hb2, hd, by obtain ⟨_, _, h⟩ := h; exact h.n.ok⟩
  refine ⟨cv, dv, n, n, h.grow (hb1.trans (hb2.mono hs)) (fun k e => ⟨Or.inr ?_, hcp.lt e⟩), hcp⟩
  rcases e with (e | e) | (e | e)
  · rw [e]; exact hcl.1
  · exact hcl.2 k e
  · rw [e]; exact Nat.le_trans hs hdl.1
  · exact Nat.le_trans hs (hdl.2 k e)
end Go.Proofs.Ytedpkjlhcpjblaa
