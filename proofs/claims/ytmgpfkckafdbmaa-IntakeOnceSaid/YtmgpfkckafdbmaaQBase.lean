/-
  Slices that are owned, in a heap; appending to them; nothing of the program stands in this part.
  Producers in a heap, four cells each; tables of producers.
-/
import Derived.Test.YtmgpfkckafdbmaaQFind
import Derived.Test.YtmgpfkckafdbmaaChecked
import Derived.WalkKit
import Derived.ProofKit
import Derived.WalkSmall
import Derived.OwnWalk
import Derived.Outline
import Derived.Lib.Hide
import Derived.Lib.AppendStr
import Derived.Lib.AppendZerosOnto
import Derived.Lib.ItoaMem
import Derived.Laws.CopyOwn
import Derived.Maps.AppendAt
import Derived.Deep.DeepCutAuto
import Derived.Deep.RegionLaw
import Derived.Deep.AppendLies
import Derived.Deep.LoopGhost
import Derived.Carry
import Derived.Lib.SliceRun
import Derived.Laws.BitsLemmas
import Derived.Laws.BitsAllLaws
import Derived.Laws.ResultCell
import Derived.Laws.Rows
import Derived.BigQuiet
namespace Go.Proofs.Ytmgpfkckafdbmaa
set_option maxRecDepth 100000
open Go Go.RowKit Pq

/-- What is not in S is as it was. -/
structure Kept (S : Nat → Prop) (w w' : World) : Prop where
  os : w'.os = w.os
  tape : w'.tape = w.tape
  output : w'.output = w.output
  size : w.heap.size ≤ w'.heap.size
  block : ∀ k, k < w.heap.size → ¬ S k → w'.heap[k]? = w.heap[k]?
theorem Kept.refl (S : Nat → Prop) (w : World) : Kept S w w := ⟨rfl, rfl, rfl, Nat.le_refl _, fun _ _ _ => rfl⟩
theorem Kept.trans {S S' : Nat → Prop} {a b c : World} (h : Kept S a b) (k : Kept S' b c) (hs : ∀ i, i < a.heap.size → S' i → S i) : Kept S a c :=
  ⟨k.os.trans h.os, k.tape.trans h.tape, k.output.trans h.output, Nat.le_trans h.size k.size, fun i hi hn => (k.block i (Nat.lt_of_lt_of_le hi h.size) (fun h' => hn (hs i hi h'))).trans (h.block i hi hn)⟩
theorem Kept.mono {S S' : Nat → Prop} {a b : World} (h : Kept S a b) (hs : ∀ i, i < a.heap.size → S i → S' i) : Kept S' a b :=
  ⟨h.os, h.tape, h.output, h.size, fun i hi hn => h.block i hi (fun h' => hn (hs i hi h'))⟩
theorem Kept.grown {S : Nat → Prop} {w w' : World} {row : Option Nat} (h : w.grownBy w' row) (hr : ∀ k, row = some k → S k) : Kept S w w' :=
  ⟨h.os, h.tape, h.output, h.size, fun i hi hn => h.block i hi (fun e => hn (hr i e.symm))⟩
theorem Kept.below {S : Nat → Prop} {w w' : World} (h : Below w.heap.size w w') : Kept S w w' := ⟨h.os, h.tape, h.output, h.size, fun i hi _ => h.block i hi⟩
theorem Kept.set (b o : Nat) (w : World) (v : Value) : Kept (fun k => k = b) w (w.setCell ⟨b, o, none⟩ v) :=
  ⟨rfl, rfl, rfl, by simp [World.setCell], fun k _ hk => Below.heap_setCell _ _ _ _ (fun e => hk (by simpa using e))⟩
theorem Kept.alloc (S : Nat → Prop) (w : World) (o : Obj) : Kept S w (w.alloc o) := ⟨rfl, rfl, rfl, by simp, fun k hk _ => Below.heap_alloc _ _ _ hk⟩
theorem Kept.drew (S : Nat → Prop) (w : World) : Kept S w w.drew := ⟨rfl, rfl, rfl, Nat.le_refl _, fun _ _ _ => rfl⟩
theorem Kept.toBelow {S : Nat → Prop} {w w' : World} (h : Kept S w w') {B : Nat} (hB : B ≤ w.heap.size) (hS : ∀ k, S k → B ≤ k) : Below B w w' :=
  ⟨h.os, h.tape, h.output, h.size, fun k hk => h.block k (by omega) (fun hs => by have := hS k hs; omega)⟩
theorem Kept.cell {S : Nat → Prop} {w w' : World} (h : Kept S w w') {a : Addr} {v : Value} (hc : w.cell? a = some v) (hn : ¬ S a.block) : w'.cell? a = some v :=
  (World.cell?_of_block (h.block a.block (World.block_lt_of_cell? w a hc) hn)).trans hc
theorem Kept.heap {S : Nat → Prop} {w w' : World} (h : Kept S w w') {b : Nat} {o : Obj} (hc : w.heap[b]? = some o) (hn : ¬ S b) : w'.heap[b]? = some o :=
  (h.block b (Array.getElem?_eq_some_iff.1 hc).1 hn).trans hc

/-- The block of a slice that is owned, or none. -/
theorem own_shape {w : World} {e : TypeId} {size : Nat} {v : Value} {n : Nat} {xs : List Value} (h : w.ownsRow 0 e size v n xs) : ∃ a c, v = .slice a n c ∧ n ≤ c ∧ c ≤ maxLen ∧ (a = none → n = 0 ∧ c = 0) := by
  rcases h.2 with ⟨rfl, rfl⟩ | ⟨g, cap, cur, rfl, _, _, h1, h2, _, _⟩
  · exact ⟨none, 0, rfl, Nat.le_refl _, Nat.zero_le _, fun _ => ⟨rfl, rfl⟩⟩
  · exact ⟨_, cap, rfl, h1, h2, fun h => (by cases h)⟩
theorem own_kept {w w' : World} {S : Nat → Prop} {base : Nat} {e : TypeId} {size : Nat} {v : Value} {n : Nat} {xs : List Value} (h : w.ownsRow base e size v n xs) (hk : Kept S w w') (hn : ∀ k, v.ownBlock = some k → ¬ S k) : w'.ownsRow base e size v n xs := by
  refine ⟨h.1, ?_⟩
  rcases h.2 with ⟨rfl, rfl⟩ | ⟨g, cap, cur, rfl, h1, h2, h3⟩
  · exact Or.inl ⟨rfl, rfl⟩
  · exact Or.inr ⟨g, cap, cur, rfl, h1, hk.heap h2 (hn g rfl), h3⟩
theorem own_base {w : World} {base : Nat} {e : TypeId} {size : Nat} {v : Value} {n : Nat} {xs : List Value} (h : w.ownsRow base e size v n xs) : w.ownsRow 0 e size v n xs := by
  refine ⟨h.1, ?_⟩
  rcases h.2 with h1 | ⟨g, cap, cur, h1, _, h2⟩
  · exact Or.inl h1
  · exact Or.inr ⟨g, cap, cur, h1, Nat.zero_le _, h2⟩
theorem own_cell {w : World} {e : TypeId} {size : Nat} {v : Value} {n : Nat} {xs : List Value} (h : w.ownsRow 0 e size v n xs) {a : Addr} {c : Nat} (hv : v = .slice (some a) n c) (j : Nat) (u : Value) (hu : xs[j]? = some u) : w.cell? (a.add j) = some u := by
  obtain ⟨g, rfl⟩ : ∃ g, a = ⟨g, 0, none⟩ := by
    rcases h.2 with ⟨rfl, _⟩ | ⟨g, cap, cur, rfl, _⟩
    · cases hv
    · injection hv with hv; injection hv with hv; exact ⟨g, hv.symm⟩
  exact h.cells (g := g) (by rw [hv]; rfl) j u hu
theorem own_at {w : World} {e : TypeId} {v : Value} {n : Nat} {xs : List Value} (h : w.ownsRow 0 e 1 v n xs) {a : Option Addr} {c : Nat} (hv : v = .slice a n c) (h0 : 0 < n) : ∃ g, a = some ⟨g, 0, none⟩ ∧ v.ownBlock = some g := by
  rcases h.2 with ⟨rfl, rfl⟩ | ⟨g, cap, cur, rfl, _⟩
  · omega
  · injection hv with hv
    exact ⟨g, hv.symm, rfl⟩

theorem own_cell_size {w : World} {e : TypeId} {size : Nat} {v : Value} {n : Nat} {xs : List Value} (h : w.ownsRow 0 e size v n xs) {a : Addr} {c : Nat} (hv : v = .slice (some a) n c) (j : Nat) (u : Value) (hu : xs[j]? = some u) : w.cell? (a.add j) = some u := own_cell h hv j u hu
/-- The first elements of a slice that is owned. -/
theorem own_take {w : World} {base : Nat} {e : TypeId} {size : Nat} {a : Option Addr} {n c : Nat} {xs : List Value} (h : w.ownsRow base e size (.slice a n c) n xs) {m : Nat} (hm : m ≤ n) : w.ownsRow base e size (.slice a m c) m (xs.take (m * size)) := by
  obtain ⟨h0, h1⟩ := h
  have hle : m * size ≤ n * size := Nat.mul_le_mul_right _ hm
  refine ⟨by rw [List.length_take, h0]; omega, ?_⟩
  rcases h1 with ⟨h1, h2⟩ | ⟨g, cap, cur, h1, h2, h3, h4, h5, h6, h7⟩
  · injection h1 with e1 e2 e3
    subst e1 e3
    obtain rfl : m = 0 := by omega
    exact Or.inl ⟨rfl, rfl⟩
  · injection h1 with e1 e2 e3
    subst e1 e3
    refine Or.inr ⟨g, c, cur, rfl, h2, h3, by omega, h5, h6, ?_⟩
    rw [← h7, List.take_take]
    congr 1
    omega

/-- A slice whose elements can be read. -/
def SrcV (w : World) (size : Nat) (v : Value) (n : Nat) (xs : List Value) : Prop := ∃ a c, v = .slice a n c ∧ xs.length = n * size ∧ (a = none → n = 0) ∧ ∀ ad, a = some ad → ∀ j u, xs[j]? = some u → w.cell? (ad.add j) = some u
theorem SrcV.own {w : World} {e : TypeId} {size : Nat} {v : Value} {n : Nat} {xs : List Value} (h : w.ownsRow 0 e size v n xs) : SrcV w size v n xs := by
  obtain ⟨a, c, rfl, _, _, h0⟩ := own_shape h
  exact ⟨a, c, rfl, h.1, fun e => (h0 e).1, fun ad e j u hu => own_cell_size h (by rw [e]) j u hu⟩
theorem SrcV.on {w w' : World} {size : Nat} {v : Value} {n : Nat} {xs : List Value} (h : SrcV w size v n xs) (hb : Below w.heap.size w w') : SrcV w' size v n xs := by
  obtain ⟨a, c, h1, h2, h3, h4⟩ := h
  exact ⟨a, c, h1, h2, h3, fun ad e j u hu => (Kept.below (S := fun _ => False) hb).cell (h4 ad e j u hu) (fun e => e)⟩
theorem cell_plainD {w : World} {a : Addr} {v : Value} (h : w.cell? a = some v) : ∃ b off, a = ⟨b, off, none⟩ := by
  obtain ⟨b, off, spot⟩ := a
  cases spot with
  | none => exact ⟨b, off, rfl⟩
  | some s =>
    exfalso
    unfold World.cell? at h
    split at h
    · simp at h
    · cases h
theorem own_lt {w : World} {e : TypeId} {size : Nat} {v : Value} {n : Nat} {xs : List Value} (h : w.ownsRow 0 e size v n xs) {k : Nat} (hk : v.ownBlock = some k) : k < w.heap.size := (h.lt k hk).2
theorem own_above {w : World} {base : Nat} {e : TypeId} {size : Nat} {v : Value} {n : Nat} {xs : List Value} (h : w.ownsRow base e size v n xs) {k : Nat} (hk : v.ownBlock = some k) : base ≤ k := by
  rcases h.2 with ⟨rfl, _⟩ | ⟨g, cap, cur, rfl, hg, _⟩
  · cases hk
  · injection hk with hk; subst hk; exact hg
theorem own_at2 {w : World} {e : TypeId} {size : Nat} {v : Value} {n : Nat} {xs : List Value} (h : w.ownsRow 0 e size v n xs) {a : Option Addr} {c : Nat} (hv : v = .slice a n c) (h0 : 0 < n) : ∃ g, a = some ⟨g, 0, none⟩ ∧ v.ownBlock = some g := by
  rcases h.2 with ⟨rfl, rfl⟩ | ⟨g, cap, cur, rfl, _⟩
  · omega
  · injection hv with hv
    exact ⟨g, hv.symm, rfl⟩

section
variable {P : Program}
/-- 'append(s, t...)' onto a slice that is owned, t whatever (nil too). -/
theorem run_append_any_own (w : World) (base : Nat) (t ty e : TypeId) (i : TypeInfo) (z : Value) (size bytes : Nat) (ht : P.underlying t = some (.slice e)) (hi : P.info? e = some i) (hz : i.zero = some z)
    (hsize : i.size = size) (hby : i.bytes = bytes) (hzs : z.cells.size = size) (hsz : 0 < size)
    (v : Value) (n : Nat) (xs : List Value) (hown : w.ownsRow base e size v n xs)
    (A : Option Addr) (m c : Nat) (news : List Value) (hl : news.length = m * size) (hsrc : 0 < m → ∃ ad, A = some ad ∧ ∀ j u, news[j]? = some u → w.cell? (ad.add j) = some u) (h1 : ∀ u ∈ news, u.oneCell' = true)
    (h63 : n + m ≤ maxLen) (hbytes : (n + m) * bytes ≤ 140737488355328) (hbase : base ≤ w.heap.size) :
    ∃ v' w', (Builtin.append_ #[t, t] ty #[v, .slice A m c]).run P w = .ok v' w' ∧ w'.ownsRow base e size v' (n + m) (xs ++ news) ∧ w.grownBy w' v.ownBlock ∧ (v'.ownBlock = v.ownBlock ∨ v'.ownBlock = some w.heap.size) := by
  by_cases hm : m = 0
  · subst hm
    obtain rfl : news = [] := List.eq_nil_of_length_eq_zero (by simpa using hl)
    have hf : (Builtin.firstCells i.size 0 (.slice A 0 c)).run P w = .ok #[] w := by
      cases A <;> simp [Builtin.firstCells, loadCells, loadCellsFrom]
    refine ⟨v, w, ?_, by simpa using hown, ⟨rfl, rfl, rfl, Nat.le_refl _, fun _ _ _ => rfl⟩, Or.inl rfl⟩
    rcases hown.2 with ⟨rfl, rfl⟩ | ⟨g, cap, cur, rfl, hbg, hg, hnc, hcm, hcs, htake⟩
    · simp [Builtin.append_, run_underlying ht, sizeOf, typeInfo, hi, Builtin.lenOf, hf]
    · simp [Builtin.append_, run_underlying ht, sizeOf, typeInfo, hi, Builtin.lenOf, hf, hnc, storeCells]
  · obtain ⟨ad, rfl, hc⟩ := hsrc (by omega)
    obtain ⟨v', w', h2, h3, h4, _, h5⟩ := run_append_own_at (P := P) w base t ty e i z size bytes ht hi hz hsize hby hzs hsz v n xs hown ad m c news hl hc h1 h63 hbytes hbase
    exact ⟨v', w', h2, h3, h4, h5⟩

theorem step_append_run {ops : Array Oper} {o : Oper} {a : Act} {w : World} {K : Act → World → Prop} {Q : Exit → Act → World → Prop} {E : Prop} (hgd : o.guard = none) (s x : Operand) (t tn : TypeId)
    (ho : o.op = .call { callee := .builtin .append, args := #[s, x], argTypes := #[t, tn] }) (vs vx : Value) (hs : a.eval s = vs) (hx : a.eval x = vx)
    (v' : Value) (w' : World) (hr : (Builtin.append_ #[t, tn] o.type #[vs, vx]).run P w = .ok v' w') (h : K (a.put o.dst v') w') : if Region.wanted o (yielded ops a.tmps) = true then Oper.wp P o a w K Q else E := by
  have hw : Region.wanted o (yielded ops a.tmps) = true := by simp [Region.wanted, hgd]
  rw [if_pos hw]
  exact Lib.wp_append_run w s x t tn ho vs vx hs hx v' w' hr h
end


/-! ### Cells that can be read, in blocks of G -/
def Src (G : Nat → Prop) (w : World) (a : Option Addr) (c n : Nat) (xs : List Value) : Prop :=
  n ≤ c ∧ (0 < n → ∃ b off, a = some ⟨b, off, none⟩ ∧ G b ∧ ∀ j u, xs[j]? = some u → w.cell? ⟨b, off + j, none⟩ = some u)
theorem Src.nil {G : Nat → Prop} {w : World} {xs : List Value} (a : Option Addr) (c : Nat) : Src G w a c 0 xs := ⟨Nat.zero_le _, fun h => absurd h (Nat.lt_irrefl _)⟩
theorem Src.kept {G S : Nat → Prop} {w w' : World} {a : Option Addr} {c n : Nat} {xs : List Value} (h : Src G w a c n xs) (hk : Kept S w w') (hd : ∀ k, k < w.heap.size → G k → ¬ S k) : Src G w' a c n xs := by
  refine ⟨h.1, fun h0 => ?_⟩
  obtain ⟨b, off, h1, h2, h3⟩ := h.2 h0
  exact ⟨b, off, h1, h2, fun j u hu => by
    have hc := h3 j u hu
    exact hk.cell hc (hd b (World.block_lt_of_cell? w _ hc) h2)⟩
theorem Src.on {G : Nat → Prop} {w w' : World} {a : Option Addr} {c n : Nat} {xs : List Value} (h : Src G w a c n xs) (hb : Below w.heap.size w w') : Src G w' a c n xs := h.kept (Kept.below (S := fun _ => False) hb) (fun _ _ _ e => e)
theorem Src.mono {G G' : Nat → Prop} {w : World} {a : Option Addr} {c n : Nat} {xs : List Value} (h : Src G w a c n xs) (hg : ∀ k, k < w.heap.size → G k → G' k) (hx : 0 < n → xs ≠ []) : Src G' w a c n xs := by
  refine ⟨h.1, fun h0 => ?_⟩
  obtain ⟨b, off, h1, h2, h3⟩ := h.2 h0
  refine ⟨b, off, h1, hg b ?_ h2, h3⟩
  cases xs with
  | nil => exact absurd rfl (hx h0)
  | cons x xs => exact World.block_lt_of_cell? w _ (h3 0 x rfl)
theorem Src.mono' {G G' : Nat → Prop} {w : World} {a : Option Addr} {c n : Nat} {xs : List Value} (h : Src G w a c n xs) (hg : ∀ k, G k → G' k) : Src G' w a c n xs := by
  refine ⟨h.1, fun h0 => ?_⟩
  obtain ⟨b, off, h1, h2, h3⟩ := h.2 h0
  exact ⟨b, off, h1, hg b h2, h3⟩
theorem Src.own {G : Nat → Prop} {w : World} {base : Nat} {e : TypeId} {size : Nat} {a : Option Addr} {n c : Nat} {xs : List Value} (h : w.ownsRow base e size (.slice a n c) n xs) (hg : ∀ k, (Value.slice a n c).ownBlock = some k → G k) : Src G w a c n xs := by
  have h' := own_base h
  rcases h'.2 with ⟨e1, h2⟩ | ⟨g, cap, cur, e1, _, _, h1, _⟩
  · injection e1 with e1 e2 e3
    exact ⟨by omega, fun h0 => by omega⟩
  · injection e1 with e1 e2 e3
    refine ⟨by omega, fun _ => ⟨g, 0, e1, hg g (by rw [e1]; rfl), fun j u hu => ?_⟩⟩
    have := own_cell_size h' (by rw [e1]) j u hu
    rw [Lib.add_plain, Nat.zero_add] at this
    rw [Nat.zero_add]
    exact this
theorem Src.srcV {G : Nat → Prop} {w : World} {a : Option Addr} {c n size : Nat} {xs : List Value} (h : Src G w a c n xs) (hl : xs.length = n * size) (ha : a = none → n = 0) : SrcV w size (.slice a n c) n xs := by
  refine ⟨a, c, rfl, hl, ha, fun ad e j u hu => ?_⟩
  have hn : 0 < n := by
    rcases Nat.eq_zero_or_pos n with h0 | h0
    · subst h0
      have : xs = [] := List.eq_nil_of_length_eq_zero (by omega)
      subst this; cases hu
    · exact h0
  obtain ⟨b, off, h1, _, h3⟩ := h.2 hn
  rw [e] at h1
  injection h1 with h1
  subst h1
  rw [Lib.add_plain]
  exact h3 j u hu
theorem Src.some {G : Nat → Prop} {w : World} {a : Option Addr} {c n : Nat} {xs : List Value} (h : Src G w a c n xs) : a = none → n = 0 := by
  intro e
  rcases Nat.eq_zero_or_pos n with h0 | h0
  · exact h0
  · obtain ⟨b, off, h1, _⟩ := h.2 h0
    rw [e] at h1; cases h1

theorem box_set {w : World} {b : Nat} {cs : Array Value} {T : TypeId} {f : Nat × Nat} (h : w.heap[b]? = some (.cells cs T f)) (o : Nat) (v : Value) : (w.setCell ⟨b, o, none⟩ v).heap[b]? = some (.cells (cs.setIfInBounds o v) T f) := by
  simp [World.setCell, Array.getElem?_modify, h]
theorem box_other {w : World} {b b' : Nat} {O : Obj} (h : w.heap[b]? = some O) (hne : b ≠ b') (o : Nat) (v : Value) : (w.setCell ⟨b', o, none⟩ v).heap[b]? = some O := (Kept.set b' o w v).heap h hne
theorem box_new (w : World) (O : Obj) : (w.alloc O).heap[w.heap.size]? = some O := heap_alloc_new w O
theorem box_on {w w' : World} {b : Nat} {O : Obj} (h : w.heap[b]? = some O) (hb : Below w.heap.size w w') : w'.heap[b]? = some O := (Kept.below (S := fun _ => False) hb).heap h (fun e => e)
theorem box_lt {w : World} {b : Nat} {O : Obj} (h : w.heap[b]? = some O) : b < w.heap.size := (Array.getElem?_eq_some_iff.1 h).1
theorem below_new (w : World) (O : Obj) : Below w.heap.size w (w.alloc O) := (Below.refl _ _).alloc (Nat.le_refl _) _
theorem below_drew {B : Nat} {w0 w : World} (h : Below B w0 w) : Below B w0 w.drew := ⟨h.os, h.tape, h.output, h.size, h.block⟩
theorem below_set {B : Nat} {w0 w : World} (h : Below B w0 w) {b : Nat} (hb : B ≤ b) (o : Nat) (v : Value) : Below B w0 (w.setCell ⟨b, o, none⟩ v) := h.setCell (p := ⟨b, o, none⟩) hb v
theorem cells2_set {w : World} {b : Nat} {T : TypeId} {x0 x1 : Value} (h : w.heap[b]? = some (.cells #[x0, x1] T (0, 0))) (y0 y1 : Value) :
    ((w.setCell ⟨b, 0, none⟩ y0).setCell ⟨b, 1, none⟩ y1).heap[b]? = some (.cells #[y0, y1] T (0, 0)) := by
  have h0 : (w.setCell ⟨b, 0, none⟩ y0).heap[b]? = some (.cells #[y0, x1] T (0, 0)) := box_set h 0 y0
  have h1 : ((w.setCell ⟨b, 0, none⟩ y0).setCell ⟨b, 1, none⟩ y1).heap[b]? = some (.cells #[y0, y1] T (0, 0)) := box_set h0 1 y1
  exact h1
theorem below_set2 {B : Nat} {w0 w : World} (h : Below B w0 w) {b : Nat} (hb : B ≤ b) (y0 y1 : Value) : Below B w0 ((w.setCell ⟨b, 0, none⟩ y0).setCell ⟨b, 1, none⟩ y1) := (below_set (below_set h hb 0 _) hb 1 _)

/-! ### 'copy' of elements of any size -/
section
variable {P : Program}
theorem run_copy_blk (w : World) (dT sT ty elem : TypeId) (size g o dLen dCap : Nat) (sp : Option Addr) (sLen sCap : Nat) (cur : List Value) (t : TypeId) (cs : List Value)
    (hu : P.underlying dT = some (.slice elem)) (hs : (P.info? elem).map (·.size) = some size)
    (hg : w.heap[g]? = some (.cells cur.toArray t (0, 0))) (m : Nat) (hm : m = Nat.min sLen dLen) (hn : cs.length = m * size)
    (dp : Option Addr) (hpos : 0 < m → dp = some ⟨g, o, none⟩ ∧ ∃ ad, sp = some ad ∧ ∀ j v, cs[j]? = some v → w.cell? (ad.add j) = some v) (hfit : o + cs.length ≤ cur.length) (h1 : ∀ v ∈ cs, v.oneCell' = true) :
    ∃ w', (Builtin.copy_ #[dT, sT] ty #[.slice dp dLen dCap, .slice sp sLen sCap]).run P w = .ok (goInt m) w' ∧ w'.heap[g]? = some (.cells (splice cur o cs).toArray t (0, 0)) ∧ Kept (fun k => k = g) w w' := by
  cases hq : P.info? elem with
  | none => simp [hq] at hs
  | some i =>
    have hi : i.size = size := by simpa [hq] using hs
    by_cases h0 : m = 0
    · subst h0
      obtain rfl : cs = [] := List.eq_nil_of_length_eq_zero (by omega)
      refine ⟨w, ?_, by simpa [splice] using hg, Kept.refl _ _⟩
      cases sp <;> cases dp <;> simp [Builtin.copy_, run_underlying hu, Builtin.lenOf, Builtin.firstCells, sizeOf, typeInfo, hq, ← hm, storeCells, loadCells, loadCellsFrom]
    · obtain ⟨rfl, ad, rfl, hsrc⟩ := hpos (by omega)
      have hl := run_loadCells_list (P := P) w ad cs hsrc
      have hst := run_storeCells_at P g o t cs 0 cur.toArray w hg (by simpa using hfit) h1
      refine ⟨_, ?_, setRow_heap w g cur.toArray _ t _ hg, ⟨rfl, rfl, rfl, by simp, fun k _ hk => setRow_other w g k _ hk⟩⟩
      simp [Builtin.copy_, run_underlying hu, Builtin.lenOf, Builtin.firstCells, sizeOf, typeInfo, hq, hi, ← hm, ← hn, hl, hst, splice]
theorem step_copy_run {ops : Array Oper} {o : Oper} {a : Act} {w : World} {K : Act → World → Prop} {Q : Exit → Act → World → Prop} {E : Prop} (hgd : o.guard = none) (s x : Operand) (t tn : TypeId)
    (ho : o.op = .call { callee := .builtin .copy, args := #[s, x], argTypes := #[t, tn] }) (vs vx : Value) (hs : a.eval s = vs) (hx : a.eval x = vx)
    (v' : Value) (w' : World) (hr : (Builtin.copy_ #[t, tn] o.type #[vs, vx]).run P w = .ok v' w') (h : K (a.put o.dst v') w') : if Region.wanted o (yielded ops a.tmps) = true then Oper.wp P o a w K Q else E := by
  have hw : Region.wanted o (yielded ops a.tmps) = true := by simp [Region.wanted, hgd]
  rw [if_pos hw]
  unfold Oper.wp execOp
  simp only [ho, resolve, invoke, builtin, Sem.run_bind, Sem.run_pure, Result.andThen_ok, List.map_toArray, List.map_cons, List.map_nil, hs, hx, hr]
  exact h
theorem wpList_copy_run {w : World} {ops : Array Oper} {rest : List Oper} {o : Oper} {a : Act} {Q : Exit → Act → World → Prop} (hgd : o.guard = none) (d s : Operand) (t t' : TypeId)
    (ho : o.op = .call { callee := .builtin .copy, args := #[d, s], argTypes := #[t, t'] }) (v u : Value) (hd : a.eval d = v) (hs : a.eval s = u) (v' : Value) (w' : World)
    (hr : (Builtin.copy_ #[t, t'] o.type #[v, u]).run P w = .ok v' w') (h : wpList P ops Q rest (a.put o.dst v') w') : wpList P ops Q (o :: rest) a w := by
  refine wpList_plain hgd fun K hK => ?_
  unfold Oper.wp execOp
  simp only [ho, resolve, invoke, builtin, Sem.run_bind, Sem.run_pure, Result.andThen_ok, List.map_toArray, List.map_cons, List.map_nil, hd, hs, hr]
  exact hK _ _ h
end

/-! ### Numbers -/
def numsV (l : List Int) : List Value := l.map (Value.int .i64)
theorem numsV_length (l : List Int) : (numsV l).length = l.length := by simp [numsV]
theorem numsV_one (l : List Int) : ∀ u ∈ numsV l, u.oneCell' = true := by
  intro u hu
  obtain ⟨x, _, rfl⟩ := List.mem_map.1 hu
  rfl
theorem numsV_get {l : List Int} {k : Nat} {x : Int} (h : l[k]? = some x) : (numsV l)[k]? = some (.int .i64 x) := by unfold numsV; rw [List.getElem?_map, h]; rfl
/-- A number of those that can be read. -/
theorem num_cell {G : Nat → Prop} {w : World} {a : Option Addr} {c n : Nat} {l : List Int} (h : Src G w a c n (numsV l)) (hn : n = l.length) {k : Nat} {x : Int} (hx : l[k]? = some x) :
    ∃ b off, a = some ⟨b, off, none⟩ ∧ w.cell? ⟨b, off + k, none⟩ = some (.int .i64 x) := by
  have hk : k < l.length := (List.getElem?_eq_some_iff.1 hx).1
  obtain ⟨b, off, h1, _, h3⟩ := h.2 (by omega)
  exact ⟨b, off, h1, h3 _ _ (numsV_get hx)⟩

/-! ### Producers -/
/-- A producer, and where its positions lie. -/
structure PP where
  p : P
  a : Option Addr
  c : Nat
def PP.cells (x : PP) : List Value := [.int .i64 x.p.id, .int .i64 x.p.ep, .int .i64 x.p.nx, .slice x.a x.p.last.length x.c]
def PP.val (x : PP) : Value := .agg #[.int .i64 x.p.id, .int .i64 x.p.ep, .int .i64 x.p.nx, .slice x.a x.p.last.length x.c]
def PP.obj (x : PP) : Obj := .cells #[.int .i64 x.p.id, .int .i64 x.p.ep, .int .i64 x.p.nx, .slice x.a x.p.last.length x.c] 70 (0, 0)
def PP.ok (G : Nat → Prop) (w : World) (x : PP) : Prop := Src G w x.a x.c x.p.last.length (numsV x.p.last)
theorem PP.ok.kept {G S : Nat → Prop} {w w' : World} {x : PP} (h : x.ok G w) (hk : Kept S w w') (hd : ∀ k, k < w.heap.size → G k → ¬ S k) : x.ok G w' := Src.kept h hk hd
theorem PP.ok.on {G : Nat → Prop} {w w' : World} {x : PP} (h : x.ok G w) (hb : Below w.heap.size w w') : x.ok G w' := Src.on h hb
theorem PP.ok.mono {G G' : Nat → Prop} {w : World} {x : PP} (h : x.ok G w) (hg : ∀ k, G k → G' k) : x.ok G' w := Src.mono' h hg
def ppsV (l : List PP) : List Value := l.flatMap PP.cells
theorem ppsV_cons (x : PP) (l : List PP) : ppsV (x :: l) = x.cells ++ ppsV l := by simp [ppsV]
theorem ppsV_app (a b : List PP) : ppsV (a ++ b) = ppsV a ++ ppsV b := by simp [ppsV]
theorem ppsV_length (l : List PP) : (ppsV l).length = l.length * 4 := by
  induction l with
  | nil => rfl
  | cons x l ih => rw [ppsV_cons, List.length_append, ih]; simp [PP.cells]; omega
theorem ppsV_one (l : List PP) : ∀ u ∈ ppsV l, u.oneCell' = true := by
  intro u hu
  obtain ⟨x, _, hx⟩ := List.mem_flatMap.1 hu
  simp [PP.cells] at hx
  rcases hx with rfl | rfl | rfl | rfl <;> rfl
theorem ppsV_get (l : List PP) : ∀ (k : Nat) (x : PP), l[k]? = some x → ∀ j u, x.cells[j]? = some u → (ppsV l)[k * 4 + j]? = some u := by
  induction l with
  | nil => intro k x h; simp at h
  | cons a l ih =>
    intro k x h j u hu
    have ha : a.cells.length = 4 := rfl
    rw [ppsV_cons]
    cases k with
    | zero =>
      simp at h
      subst h
      rw [Nat.zero_mul, Nat.zero_add, List.getElem?_append_left (List.getElem?_eq_some_iff.1 hu).1]
      exact hu
    | succ k =>
      have := ih k x (by simpa using h) j u hu
      rw [List.getElem?_append_right (by omega), ← this]
      congr 1
      omega
theorem ppsV_take (l : List PP) (k : Nat) : (ppsV l).take (k * 4) = ppsV (l.take k) := by
  induction l generalizing k with
  | nil => simp [ppsV]
  | cons x l ih =>
    cases k with
    | zero => simp [ppsV]
    | succ k =>
      have e : (k + 1) * 4 = x.cells.length + k * 4 := by simp [PP.cells]; omega
      rw [List.take_succ_cons, ppsV_cons, ppsV_cons, e, List.take_length_add_append, ih]
theorem ppsV_drop (l : List PP) (k : Nat) : (ppsV l).drop (k * 4) = ppsV (l.drop k) := by
  induction l generalizing k with
  | nil => simp [ppsV]
  | cons x l ih =>
    cases k with
    | zero => simp [ppsV]
    | succ k =>
      have e : (k + 1) * 4 = x.cells.length + k * 4 := by simp [PP.cells]; omega
      rw [List.drop_succ_cons, ppsV_cons, e, List.drop_length_add_append, ih]
theorem ppsV_set (l : List PP) : ∀ (k : Nat) (x y : PP), l[k]? = some x → y.p = x.p → (ppsV l).set (k * 4 + 3) (.slice y.a y.p.last.length y.c) = ppsV (l.set k y) := by
  induction l with
  | nil => intro k x y h; simp at h
  | cons a l ih =>
    intro k x y h hp
    cases k with
    | zero =>
      simp at h
      subst h
      rw [ppsV_cons, List.set_cons_zero, ppsV_cons]
      unfold PP.cells
      rw [hp]
      rfl
    | succ k =>
      rw [List.set_cons_succ, ppsV_cons, ppsV_cons, ← ih k x y (by simpa using h) hp, List.set_append_right _ _ (by simp [PP.cells]; omega)]
      congr 2
      simp [PP.cells]
      omega
theorem infoPP : (Try.prog.info? 70).map (fun i => (i.zero, i.size, i.bytes)) = some (some (.agg #[.int .i64 0, .int .i64 0, .int .i64 0, .slice none 0 0]), 4, 48) := by kernel_rfl
def PPRow (w : World) (base : Nat) (v : Value) (l : List PP) : Prop := w.ownsRow base 70 4 v l.length (ppsV l)
def tab (l : List PP) : List P := l.map PP.p
theorem tab_length (l : List PP) : (tab l).length = l.length := by simp [tab]
theorem tab_get {l : List PP} {k : Nat} {x : PP} (h : l[k]? = some x) : (tab l)[k]? = some x.p := by unfold tab; rw [List.getElem?_map, h]; rfl
theorem tab_some {l : List PP} {k : Nat} {p : P} (h : (tab l)[k]? = some p) : ∃ x, l[k]? = some x ∧ x.p = p := by
  unfold tab at h
  rw [List.getElem?_map] at h
  cases e : l[k]? with
  | none => rw [e] at h; cases h
  | some x =>
    rw [e] at h
    injection h with h
    exact ⟨x, rfl, h⟩
/-- A table that can be read. -/
structure Tb (G : Nat → Prop) (w : World) (a : Option Addr) (c : Nat) (l : List PP) : Prop where
  row : Src G w a c l.length (ppsV l)
  last : ∀ x ∈ l, x.ok G w
theorem Tb.kept {G S : Nat → Prop} {w w' : World} {a : Option Addr} {c : Nat} {l : List PP} (h : Tb G w a c l) (hk : Kept S w w') (hd : ∀ k, k < w.heap.size → G k → ¬ S k) : Tb G w' a c l := ⟨h.row.kept hk hd, fun x hx => (h.last x hx).kept hk hd⟩
theorem Tb.on {G : Nat → Prop} {w w' : World} {a : Option Addr} {c : Nat} {l : List PP} (h : Tb G w a c l) (hb : Below w.heap.size w w') : Tb G w' a c l := ⟨h.row.on hb, fun x hx => (h.last x hx).on hb⟩
theorem Tb.mono {G G' : Nat → Prop} {w : World} {a : Option Addr} {c : Nat} {l : List PP} (h : Tb G w a c l) (hg : ∀ k, G k → G' k) : Tb G' w a c l := ⟨h.row.mono' hg, fun x hx => (h.last x hx).mono hg⟩
theorem Tb.any {G : Nat → Prop} {w : World} {a : Option Addr} {c : Nat} {l : List PP} (h : Tb G w a c l) : Tb (fun _ => True) w a c l := h.mono (fun _ _ => trivial)
theorem tb_nil (G : Nat → Prop) (w : World) : Tb G w none 0 [] := ⟨Src.nil _ _, fun x hx => by cases hx⟩
structure PCells (w : World) (b o : Nat) (x : PP) : Prop where
  c0 : w.cell? ⟨b, o, none⟩ = some (.int .i64 x.p.id)
  c1 : w.cell? ⟨b, o + 1, none⟩ = some (.int .i64 x.p.ep)
  c2 : w.cell? ⟨b, o + 2, none⟩ = some (.int .i64 x.p.nx)
  c3 : w.cell? ⟨b, o + 3, none⟩ = some (.slice x.a x.p.last.length x.c)
/-- The cells of a producer, where a table lies. -/
theorem pp_cells {G : Nat → Prop} {w : World} {a : Option Addr} {c n : Nat} {l : List PP} (h : Src G w a c n (ppsV l)) (hn : n = l.length) {k : Nat} {x : PP} (hx : l[k]? = some x) :
    ∃ b off, a = some ⟨b, off, none⟩ ∧ PCells w b (off + k * 4) x := by
  have hk : k < l.length := (List.getElem?_eq_some_iff.1 hx).1
  obtain ⟨b, off, h1, _, h3⟩ := h.2 (by omega)
  have g0 := h3 _ _ (ppsV_get l k x hx 0 _ rfl)
  have g1 := h3 _ _ (ppsV_get l k x hx 1 _ rfl)
  have g2 := h3 _ _ (ppsV_get l k x hx 2 _ rfl)
  have g3 := h3 _ _ (ppsV_get l k x hx 3 _ rfl)
  rw [← Nat.add_assoc] at g1 g2 g3
  exact ⟨b, off, h1, g0, g1, g2, g3⟩
def PP.at (x : PP) (w : World) (b : Nat) : Prop := w.heap[b]? = some x.obj
theorem PP.at.cells {x : PP} {w : World} {b : Nat} (h : x.at w b) : PCells w b 0 x := ⟨by rw [Lib.cell_of_heap h]; rfl, by rw [Lib.cell_of_heap h]; rfl, by rw [Lib.cell_of_heap h]; rfl, by rw [Lib.cell_of_heap h]; rfl⟩
theorem PP.at.z {x : PP} {w : World} {b : Nat} (h : x.at w b) (o : Nat) : w.frozen? ⟨b, o, none⟩ = false := Lib.frozen_of_heap h o
theorem PP.at.set4 {x : PP} {w : World} {b : Nat} (h : x.at w b) (y : PP) : y.at ((((w.setCell ⟨b, 0, none⟩ (.int .i64 y.p.id)).setCell ⟨b, 1, none⟩ (.int .i64 y.p.ep)).setCell ⟨b, 2, none⟩ (.int .i64 y.p.nx)).setCell ⟨b, 3, none⟩ (.slice y.a y.p.last.length y.c)) b := by
  have h0 := box_set h 0 (.int .i64 y.p.id)
  have h1 := box_set h0 1 (.int .i64 y.p.ep)
  have h2 := box_set h1 2 (.int .i64 y.p.nx)
  exact box_set h2 3 (.slice y.a y.p.last.length y.c)
theorem below_set4 {B : Nat} {w0 w : World} (h : Below B w0 w) {b : Nat} (hb : B ≤ b) (y0 y1 y2 y3 : Value) : Below B w0 ((((w.setCell ⟨b, 0, none⟩ y0).setCell ⟨b, 1, none⟩ y1).setCell ⟨b, 2, none⟩ y2).setCell ⟨b, 3, none⟩ y3) := below_set (below_set (below_set (below_set h hb 0 _) hb 1 _) hb 2 _) hb 3 _
def PP.zero : PP := ⟨⟨0, 0, 0, []⟩, none, 0⟩
end Go.Proofs.Ytmgpfkckafdbmaa
