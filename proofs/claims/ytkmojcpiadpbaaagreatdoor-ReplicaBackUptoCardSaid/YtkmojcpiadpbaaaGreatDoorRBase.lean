/-
  Slices that are owned, in a heap; appending to them; nothing of the program stands in this part.
  Entries in a heap, two cells each; rows of entries: appended to, copied.
-/
import Derived.Test.YtkmojcpiadpbaaaGreatDoorRFine
import Derived.Test.YtkmojcpiadpbaaaGreatDoorChecked
import Derived.WalkKit
import Derived.ProofKit
import Derived.WalkSmall
import Derived.OwnWalk
import Derived.Outline
import Derived.Lib.Hide
import Derived.Lib.AppendStr
import Derived.Lib.AppendZerosOnto
import Derived.Lib.ItoaMem
import Derived.Laws.CopyOwn
import Derived.Maps.AppendAt
import Derived.Deep.DeepCutAuto
import Derived.Deep.RegionLaw
import Derived.Deep.AppendLies
import Derived.Deep.LoopGhost
import Derived.Carry
import Derived.Lib.SliceRun
import Derived.Laws.BitsLemmas
import Derived.Laws.BitsAllLaws
import Derived.Laws.ResultCell
import Derived.Laws.Rows
import Derived.BigQuiet
namespace Go.Proofs.YtkmojcpiadpbaaaGreatDoor
set_option maxRecDepth 100000
open Go Go.RowKit Rp

/-- What is not in S is as it was. -/
structure Kept (S : Nat → Prop) (w w' : World) : Prop where
  os : w'.os = w.os
  tape : w'.tape = w.tape
  output : w'.output = w.output
  size : w.heap.size ≤ w'.heap.size
  block : ∀ k, k < w.heap.size → ¬ S k → w'.heap[k]? = w.heap[k]?
theorem Kept.refl (S : Nat → Prop) (w : World) : Kept S w w := ⟨rfl, rfl, rfl, Nat.le_refl _, fun _ _ _ => rfl⟩
theorem Kept.trans {S S' : Nat → Prop} {a b c : World} (h : Kept S a b) (k : Kept S' b c) (hs : ∀ i, i < a.heap.size → S' i → S i) : Kept S a c :=
  ⟨k.os.trans h.os, k.tape.trans h.tape, k.output.trans h.output, Nat.le_trans h.size k.size, fun i hi hn => (k.block i (Nat.lt_of_lt_of_le hi h.size) (fun h' => hn (hs i hi h'))).trans (h.block i hi hn)⟩
theorem Kept.mono {S S' : Nat → Prop} {a b : World} (h : Kept S a b) (hs : ∀ i, i < a.heap.size → S i → S' i) : Kept S' a b :=
  ⟨h.os, h.tape, h.output, h.size, fun i hi hn => h.block i hi (fun h' => hn (hs i hi h'))⟩
theorem Kept.grown {S : Nat → Prop} {w w' : World} {row : Option Nat} (h : w.grownBy w' row) (hr : ∀ k, row = some k → S k) : Kept S w w' :=
  ⟨h.os, h.tape, h.output, h.size, fun i hi hn => h.block i hi (fun e => hn (hr i e.symm))⟩
theorem Kept.below {S : Nat → Prop} {w w' : World} (h : Below w.heap.size w w') : Kept S w w' := ⟨h.os, h.tape, h.output, h.size, fun i hi _ => h.block i hi⟩
theorem Kept.set (b o : Nat) (w : World) (v : Value) : Kept (fun k => k = b) w (w.setCell ⟨b, o, none⟩ v) :=
  ⟨rfl, rfl, rfl, by simp [World.setCell], fun k _ hk => Below.heap_setCell _ _ _ _ (fun e => hk (by simpa using e))⟩
theorem Kept.alloc (S : Nat → Prop) (w : World) (o : Obj) : Kept S w (w.alloc o) := ⟨rfl, rfl, rfl, by simp, fun k hk _ => Below.heap_alloc _ _ _ hk⟩
theorem Kept.drew (S : Nat → Prop) (w : World) : Kept S w w.drew := ⟨rfl, rfl, rfl, Nat.le_refl _, fun _ _ _ => rfl⟩
theorem Kept.toBelow {S : Nat → Prop} {w w' : World} (h : Kept S w w') {B : Nat} (hB : B ≤ w.heap.size) (hS : ∀ k, S k → B ≤ k) : Below B w w' :=
  ⟨h.os, h.tape, h.output, h.size, fun k hk => h.block k (by omega) (fun hs => by have := hS k hs; omega)⟩
theorem Kept.cell {S : Nat → Prop} {w w' : World} (h : Kept S w w') {a : Addr} {v : Value} (hc : w.cell? a = some v) (hn : ¬ S a.block) : w'.cell? a = some v :=
  (World.cell?_of_block (h.block a.block (World.block_lt_of_cell? w a hc) hn)).trans hc
theorem Kept.heap {S : Nat → Prop} {w w' : World} (h : Kept S w w') {b : Nat} {o : Obj} (hc : w.heap[b]? = some o) (hn : ¬ S b) : w'.heap[b]? = some o :=
  (h.block b (Array.getElem?_eq_some_iff.1 hc).1 hn).trans hc

/-- The block of a slice that is owned, or none. -/
theorem own_shape {w : World} {e : TypeId} {size : Nat} {v : Value} {n : Nat} {xs : List Value} (h : w.ownsRow 0 e size v n xs) : ∃ a c, v = .slice a n c ∧ n ≤ c ∧ c ≤ maxLen ∧ (a = none → n = 0 ∧ c = 0) := by
  rcases h.2 with ⟨rfl, rfl⟩ | ⟨g, cap, cur, rfl, _, _, h1, h2, _, _⟩
  · exact ⟨none, 0, rfl, Nat.le_refl _, Nat.zero_le _, fun _ => ⟨rfl, rfl⟩⟩
  · exact ⟨_, cap, rfl, h1, h2, fun h => (by cases h)⟩
theorem own_kept {w w' : World} {S : Nat → Prop} {base : Nat} {e : TypeId} {size : Nat} {v : Value} {n : Nat} {xs : List Value} (h : w.ownsRow base e size v n xs) (hk : Kept S w w') (hn : ∀ k, v.ownBlock = some k → ¬ S k) : w'.ownsRow base e size v n xs := by
  refine ⟨h.1, ?_⟩
  rcases h.2 with ⟨rfl, rfl⟩ | ⟨g, cap, cur, rfl, h1, h2, h3⟩
  · exact Or.inl ⟨rfl, rfl⟩
  · exact Or.inr ⟨g, cap, cur, rfl, h1, hk.heap h2 (hn g rfl), h3⟩
theorem own_base {w : World} {base : Nat} {e : TypeId} {size : Nat} {v : Value} {n : Nat} {xs : List Value} (h : w.ownsRow base e size v n xs) : w.ownsRow 0 e size v n xs := by
  refine ⟨h.1, ?_⟩
  rcases h.2 with h1 | ⟨g, cap, cur, h1, _, h2⟩
  · exact Or.inl h1
  · exact Or.inr ⟨g, cap, cur, h1, Nat.zero_le _, h2⟩
theorem own_cell {w : World} {e : TypeId} {size : Nat} {v : Value} {n : Nat} {xs : List Value} (h : w.ownsRow 0 e size v n xs) {a : Addr} {c : Nat} (hv : v = .slice (some a) n c) (j : Nat) (u : Value) (hu : xs[j]? = some u) : w.cell? (a.add j) = some u := by
  obtain ⟨g, rfl⟩ : ∃ g, a = ⟨g, 0, none⟩ := by
    rcases h.2 with ⟨rfl, _⟩ | ⟨g, cap, cur, rfl, _⟩
    · cases hv
    · injection hv with hv; injection hv with hv; exact ⟨g, hv.symm⟩
  exact h.cells (g := g) (by rw [hv]; rfl) j u hu
theorem own_at {w : World} {e : TypeId} {v : Value} {n : Nat} {xs : List Value} (h : w.ownsRow 0 e 1 v n xs) {a : Option Addr} {c : Nat} (hv : v = .slice a n c) (h0 : 0 < n) : ∃ g, a = some ⟨g, 0, none⟩ ∧ v.ownBlock = some g := by
  rcases h.2 with ⟨rfl, rfl⟩ | ⟨g, cap, cur, rfl, _⟩
  · omega
  · injection hv with hv
    exact ⟨g, hv.symm, rfl⟩

theorem own_cell_size {w : World} {e : TypeId} {size : Nat} {v : Value} {n : Nat} {xs : List Value} (h : w.ownsRow 0 e size v n xs) {a : Addr} {c : Nat} (hv : v = .slice (some a) n c) (j : Nat) (u : Value) (hu : xs[j]? = some u) : w.cell? (a.add j) = some u := own_cell h hv j u hu
/-- The first elements of a slice that is owned. -/
theorem own_take {w : World} {base : Nat} {e : TypeId} {size : Nat} {a : Option Addr} {n c : Nat} {xs : List Value} (h : w.ownsRow base e size (.slice a n c) n xs) {m : Nat} (hm : m ≤ n) : w.ownsRow base e size (.slice a m c) m (xs.take (m * size)) := by
  obtain ⟨h0, h1⟩ := h
  have hle : m * size ≤ n * size := Nat.mul_le_mul_right _ hm
  refine ⟨by rw [List.length_take, h0]; omega, ?_⟩
  rcases h1 with ⟨h1, h2⟩ | ⟨g, cap, cur, h1, h2, h3, h4, h5, h6, h7⟩
  · injection h1 with e1 e2 e3
    subst e1 e3
    obtain rfl : m = 0 := by omega
    exact Or.inl ⟨rfl, rfl⟩
  · injection h1 with e1 e2 e3
    subst e1 e3
    refine Or.inr ⟨g, c, cur, rfl, h2, h3, by omega, h5, h6, ?_⟩
    rw [← h7, List.take_take]
    congr 1
    omega

/-- A slice whose elements can be read. -/
def SrcV (w : World) (size : Nat) (v : Value) (n : Nat) (xs : List Value) : Prop := ∃ a c, v = .slice a n c ∧ xs.length = n * size ∧ (a = none → n = 0) ∧ ∀ ad, a = some ad → ∀ j u, xs[j]? = some u → w.cell? (ad.add j) = some u
theorem SrcV.own {w : World} {e : TypeId} {size : Nat} {v : Value} {n : Nat} {xs : List Value} (h : w.ownsRow 0 e size v n xs) : SrcV w size v n xs := by
  obtain ⟨a, c, rfl, _, _, h0⟩ := own_shape h
  exact ⟨a, c, rfl, h.1, fun e => (h0 e).1, fun ad e j u hu => own_cell_size h (by rw [e]) j u hu⟩
theorem SrcV.on {w w' : World} {size : Nat} {v : Value} {n : Nat} {xs : List Value} (h : SrcV w size v n xs) (hb : Below w.heap.size w w') : SrcV w' size v n xs := by
  obtain ⟨a, c, h1, h2, h3, h4⟩ := h
  exact ⟨a, c, h1, h2, h3, fun ad e j u hu => (Kept.below (S := fun _ => False) hb).cell (h4 ad e j u hu) (fun e => e)⟩
theorem cell_plainD {w : World} {a : Addr} {v : Value} (h : w.cell? a = some v) : ∃ b off, a = ⟨b, off, none⟩ := by
  obtain ⟨b, off, spot⟩ := a
  cases spot with
  | none => exact ⟨b, off, rfl⟩
  | some s =>
    exfalso
    unfold World.cell? at h
    split at h
    · simp at h
    · cases h
theorem own_lt {w : World} {e : TypeId} {size : Nat} {v : Value} {n : Nat} {xs : List Value} (h : w.ownsRow 0 e size v n xs) {k : Nat} (hk : v.ownBlock = some k) : k < w.heap.size := (h.lt k hk).2
theorem own_above {w : World} {base : Nat} {e : TypeId} {size : Nat} {v : Value} {n : Nat} {xs : List Value} (h : w.ownsRow base e size v n xs) {k : Nat} (hk : v.ownBlock = some k) : base ≤ k := by
  rcases h.2 with ⟨rfl, _⟩ | ⟨g, cap, cur, rfl, hg, _⟩
  · cases hk
  · injection hk with hk; subst hk; exact hg
theorem own_at2 {w : World} {e : TypeId} {size : Nat} {v : Value} {n : Nat} {xs : List Value} (h : w.ownsRow 0 e size v n xs) {a : Option Addr} {c : Nat} (hv : v = .slice a n c) (h0 : 0 < n) : ∃ g, a = some ⟨g, 0, none⟩ ∧ v.ownBlock = some g := by
  rcases h.2 with ⟨rfl, rfl⟩ | ⟨g, cap, cur, rfl, _⟩
  · omega
  · injection hv with hv
    exact ⟨g, hv.symm, rfl⟩

section
variable {P : Program}
/-- 'append(s, t...)' onto a slice that is owned, t whatever (nil too). -/
theorem run_append_any_own (w : World) (base : Nat) (t ty e : TypeId) (i : TypeInfo) (z : Value) (size bytes : Nat) (ht : P.underlying t = some (.slice e)) (hi : P.info? e = some i) (hz : i.zero = some z)
    (hsize : i.size = size) (hby : i.bytes = bytes) (hzs : z.cells.size = size) (hsz : 0 < size)
    (v : Value) (n : Nat) (xs : List Value) (hown : w.ownsRow base e size v n xs)
    (A : Option Addr) (m c : Nat) (news : List Value) (hl : news.length = m * size) (hsrc : 0 < m → ∃ ad, A = some ad ∧ ∀ j u, news[j]? = some u → w.cell? (ad.add j) = some u) (h1 : ∀ u ∈ news, u.oneCell' = true)
    (h63 : n + m ≤ maxLen) (hbytes : (n + m) * bytes ≤ 140737488355328) (hbase : base ≤ w.heap.size) :
    ∃ v' w', (Builtin.append_ #[t, t] ty #[v, .slice A m c]).run P w = .ok v' w' ∧ w'.ownsRow base e size v' (n + m) (xs ++ news) ∧ w.grownBy w' v.ownBlock ∧ (v'.ownBlock = v.ownBlock ∨ v'.ownBlock = some w.heap.size) := by
  by_cases hm : m = 0
  · subst hm
    obtain rfl : news = [] := List.eq_nil_of_length_eq_zero (by simpa using hl)
    have hf : (Builtin.firstCells i.size 0 (.slice A 0 c)).run P w = .ok #[] w := by
      cases A <;> simp [Builtin.firstCells, loadCells, loadCellsFrom]
    refine ⟨v, w, ?_, by simpa using hown, ⟨rfl, rfl, rfl, Nat.le_refl _, fun _ _ _ => rfl⟩, Or.inl rfl⟩
    rcases hown.2 with ⟨rfl, rfl⟩ | ⟨g, cap, cur, rfl, hbg, hg, hnc, hcm, hcs, htake⟩
    · simp [Builtin.append_, run_underlying ht, sizeOf, typeInfo, hi, Builtin.lenOf, hf]
    · simp [Builtin.append_, run_underlying ht, sizeOf, typeInfo, hi, Builtin.lenOf, hf, hnc, storeCells]
  · obtain ⟨ad, rfl, hc⟩ := hsrc (by omega)
    obtain ⟨v', w', h2, h3, h4, _, h5⟩ := run_append_own_at (P := P) w base t ty e i z size bytes ht hi hz hsize hby hzs hsz v n xs hown ad m c news hl hc h1 h63 hbytes hbase
    exact ⟨v', w', h2, h3, h4, h5⟩

theorem step_append_run {ops : Array Oper} {o : Oper} {a : Act} {w : World} {K : Act → World → Prop} {Q : Exit → Act → World → Prop} {E : Prop} (hgd : o.guard = none) (s x : Operand) (t tn : TypeId)
    (ho : o.op = .call { callee := .builtin .append, args := #[s, x], argTypes := #[t, tn] }) (vs vx : Value) (hs : a.eval s = vs) (hx : a.eval x = vx)
    (v' : Value) (w' : World) (hr : (Builtin.append_ #[t, tn] o.type #[vs, vx]).run P w = .ok v' w') (h : K (a.put o.dst v') w') : if Region.wanted o (yielded ops a.tmps) = true then Oper.wp P o a w K Q else E := by
  have hw : Region.wanted o (yielded ops a.tmps) = true := by simp [Region.wanted, hgd]
  rw [if_pos hw]
  exact Lib.wp_append_run w s x t tn ho vs vx hs hx v' w' hr h
end


/-! ### Cells that can be read, in blocks of G -/
def Src (G : Nat → Prop) (w : World) (a : Option Addr) (c n : Nat) (xs : List Value) : Prop :=
  n ≤ c ∧ (0 < n → ∃ b off, a = some ⟨b, off, none⟩ ∧ G b ∧ ∀ j u, xs[j]? = some u → w.cell? ⟨b, off + j, none⟩ = some u)
theorem Src.nil {G : Nat → Prop} {w : World} {xs : List Value} (a : Option Addr) (c : Nat) : Src G w a c 0 xs := ⟨Nat.zero_le _, fun h => absurd h (Nat.lt_irrefl _)⟩
theorem Src.kept {G S : Nat → Prop} {w w' : World} {a : Option Addr} {c n : Nat} {xs : List Value} (h : Src G w a c n xs) (hk : Kept S w w') (hd : ∀ k, k < w.heap.size → G k → ¬ S k) : Src G w' a c n xs := by
  refine ⟨h.1, fun h0 => ?_⟩
  obtain ⟨b, off, h1, h2, h3⟩ := h.2 h0
  exact ⟨b, off, h1, h2, fun j u hu => by
    have hc := h3 j u hu
    exact hk.cell hc (hd b (World.block_lt_of_cell? w _ hc) h2)⟩
theorem Src.on {G : Nat → Prop} {w w' : World} {a : Option Addr} {c n : Nat} {xs : List Value} (h : Src G w a c n xs) (hb : Below w.heap.size w w') : Src G w' a c n xs := h.kept (Kept.below (S := fun _ => False) hb) (fun _ _ _ e => e)
theorem Src.mono {G G' : Nat → Prop} {w : World} {a : Option Addr} {c n : Nat} {xs : List Value} (h : Src G w a c n xs) (hg : ∀ k, k < w.heap.size → G k → G' k) (hx : 0 < n → xs ≠ []) : Src G' w a c n xs := by
  refine ⟨h.1, fun h0 => ?_⟩
  obtain ⟨b, off, h1, h2, h3⟩ := h.2 h0
  refine ⟨b, off, h1, hg b ?_ h2, h3⟩
  cases xs with
  | nil => exact absurd rfl (hx h0)
  | cons x xs => exact World.block_lt_of_cell? w _ (h3 0 x rfl)
theorem Src.mono' {G G' : Nat → Prop} {w : World} {a : Option Addr} {c n : Nat} {xs : List Value} (h : Src G w a c n xs) (hg : ∀ k, G k → G' k) : Src G' w a c n xs := by
  refine ⟨h.1, fun h0 => ?_⟩
  obtain ⟨b, off, h1, h2, h3⟩ := h.2 h0
  exact ⟨b, off, h1, hg b h2, h3⟩
theorem Src.own {G : Nat → Prop} {w : World} {base : Nat} {e : TypeId} {size : Nat} {a : Option Addr} {n c : Nat} {xs : List Value} (h : w.ownsRow base e size (.slice a n c) n xs) (hg : ∀ k, (Value.slice a n c).ownBlock = some k → G k) : Src G w a c n xs := by
  have h' := own_base h
  rcases h'.2 with ⟨e1, h2⟩ | ⟨g, cap, cur, e1, _, _, h1, _⟩
  · injection e1 with e1 e2 e3
    exact ⟨by omega, fun h0 => by omega⟩
  · injection e1 with e1 e2 e3
    refine ⟨by omega, fun _ => ⟨g, 0, e1, hg g (by rw [e1]; rfl), fun j u hu => ?_⟩⟩
    have := own_cell_size h' (by rw [e1]) j u hu
    rw [Lib.add_plain, Nat.zero_add] at this
    rw [Nat.zero_add]
    exact this
theorem Src.srcV {G : Nat → Prop} {w : World} {a : Option Addr} {c n size : Nat} {xs : List Value} (h : Src G w a c n xs) (hl : xs.length = n * size) (ha : a = none → n = 0) : SrcV w size (.slice a n c) n xs := by
  refine ⟨a, c, rfl, hl, ha, fun ad e j u hu => ?_⟩
  have hn : 0 < n := by
    rcases Nat.eq_zero_or_pos n with h0 | h0
    · subst h0
      have : xs = [] := List.eq_nil_of_length_eq_zero (by omega)
      subst this; cases hu
    · exact h0
  obtain ⟨b, off, h1, _, h3⟩ := h.2 hn
  rw [e] at h1
  injection h1 with h1
  subst h1
  rw [Lib.add_plain]
  exact h3 j u hu
theorem Src.some {G : Nat → Prop} {w : World} {a : Option Addr} {c n : Nat} {xs : List Value} (h : Src G w a c n xs) : a = none → n = 0 := by
  intro e
  rcases Nat.eq_zero_or_pos n with h0 | h0
  · exact h0
  · obtain ⟨b, off, h1, _⟩ := h.2 h0
    rw [e] at h1; cases h1

/-! ### Entries -/
def recC (x : Rec) : List Value := [.int .i64 x.t, .string ⟨x.d.toArray⟩]
def recsV (l : List Rec) : List Value := l.flatMap recC
theorem recsV_cons (x : Rec) (l : List Rec) : recsV (x :: l) = recC x ++ recsV l := by simp [recsV]
theorem recsV_app (a b : List Rec) : recsV (a ++ b) = recsV a ++ recsV b := by simp [recsV]
theorem recsV_length (l : List Rec) : (recsV l).length = l.length * 2 := by
  induction l with
  | nil => rfl
  | cons x l ih => rw [recsV_cons, List.length_append, ih]; simp [recC]; omega
theorem recsV_one (l : List Rec) : ∀ u ∈ recsV l, u.oneCell' = true := by
  intro u hu
  obtain ⟨x, _, hx⟩ := List.mem_flatMap.1 hu
  simp [recC] at hx
  rcases hx with rfl | rfl <;> rfl
theorem recsV_get (l : List Rec) : ∀ (k : Nat) (x : Rec), l[k]? = some x → (recsV l)[k * 2]? = some (.int .i64 x.t) ∧ (recsV l)[k * 2 + 1]? = some (.string ⟨x.d.toArray⟩) := by
  induction l with
  | nil => intro k x h; simp at h
  | cons a l ih =>
    intro k x h
    rw [recsV_cons]
    cases k with
    | zero =>
      simp at h
      subst h
      exact ⟨rfl, rfl⟩
    | succ k =>
      obtain ⟨h1, h2⟩ := ih k x (by simpa using h)
      refine ⟨?_, ?_⟩
      · rw [List.getElem?_append_right (by simp [recC]; omega), ← h1]
        congr 1
        simp [recC]
        omega
      · rw [List.getElem?_append_right (by simp [recC]; omega), ← h2]
        congr 1
        simp [recC]
        omega
theorem recsV_take (l : List Rec) (k : Nat) : (recsV l).take (k * 2) = recsV (l.take k) := by
  induction l generalizing k with
  | nil => simp [recsV]
  | cons x l ih =>
    cases k with
    | zero => simp [recsV]
    | succ k =>
      have e : (k + 1) * 2 = (recC x).length + k * 2 := by simp [recC]; omega
      rw [List.take_succ_cons, recsV_cons, recsV_cons, e, List.take_length_add_append, ih]
theorem recsV_drop (l : List Rec) (k : Nat) : (recsV l).drop (k * 2) = recsV (l.drop k) := by
  induction l generalizing k with
  | nil => simp [recsV]
  | cons x l ih =>
    cases k with
    | zero => simp [recsV]
    | succ k =>
      have e : (k + 1) * 2 = (recC x).length + k * 2 := by simp [recC]; omega
      rw [List.drop_succ_cons, recsV_cons, e, List.drop_length_add_append, ih]
theorem infoRec : (Tryz.prog.info? 27).map (fun i => (i.zero, i.size, i.bytes)) = some (some (.agg #[.int .i64 0, .string ⟨#[]⟩]), 2, 24) := by kernel_rfl
/-- A row of entries, in a memory of its own. -/
def RecRow (w : World) (base : Nat) (v : Value) (l : List Rec) : Prop := w.ownsRow base 27 2 v l.length (recsV l)
theorem RecRow.shape {w : World} {base : Nat} {v : Value} {l : List Rec} (h : RecRow w base v l) : ∃ a c, v = .slice a l.length c ∧ l.length ≤ c ∧ c ≤ maxLen ∧ (a = none → l.length = 0 ∧ c = 0) := own_shape (own_base h)
theorem RecRow.kept {w w' : World} {S : Nat → Prop} {base : Nat} {v : Value} {l : List Rec} (h : RecRow w base v l) (hk : Kept S w w') (hn : ∀ k, v.ownBlock = some k → ¬ S k) : RecRow w' base v l := own_kept h hk hn
theorem RecRow.on {w w' : World} {base : Nat} {v : Value} {l : List Rec} (h : RecRow w base v l) (hb : Below w.heap.size w w') : RecRow w' base v l := own_kept h (Kept.below (S := fun _ => False) hb) (fun _ _ e => e)
theorem RecRow.lt {w : World} {base : Nat} {v : Value} {l : List Rec} (h : RecRow w base v l) {k : Nat} (hk : v.ownBlock = some k) : k < w.heap.size := own_lt (own_base h) hk
theorem RecRow.above {w : World} {base : Nat} {v : Value} {l : List Rec} (h : RecRow w base v l) {k : Nat} (hk : v.ownBlock = some k) : base ≤ k := own_above h hk
theorem RecRow.low {w : World} {B B' : Nat} {v : Value} {l : List Rec} (h : RecRow w B v l) (hB : B' ≤ B) : RecRow w B' v l := by
  refine ⟨h.1, ?_⟩
  rcases h.2 with h1 | ⟨g, cap, cur, h1, h2, h3⟩
  · exact Or.inl h1
  · exact Or.inr ⟨g, cap, cur, h1, by omega, h3⟩
theorem recRow_nil (w : World) (base : Nat) : RecRow w base (.slice none 0 0) [] := World.ownsRow_nil _ _ _ _
theorem RecRow.src {w : World} {base : Nat} {a : Option Addr} {n c : Nat} {l : List Rec} (h : RecRow w base (.slice a n c) l) {G : Nat → Prop} (hg : ∀ k, (Value.slice a n c).ownBlock = some k → G k) : Src G w a c l.length (recsV l) := by
  obtain ⟨a', c', e, _⟩ := h.shape
  injection e with e1 e2 e3
  subst e1 e2 e3
  exact Src.own h hg
/-- The cells of an entry, where entries lie. -/
theorem rec_cells {G : Nat → Prop} {w : World} {a : Option Addr} {c n : Nat} {l : List Rec} (h : Src G w a c n (recsV l)) (hn : n = l.length) {k : Nat} {x : Rec} (hx : l[k]? = some x) :
    ∃ b off, a = some ⟨b, off, none⟩ ∧ w.cell? ⟨b, off + k * 2, none⟩ = some (.int .i64 x.t) ∧ w.cell? ⟨b, off + k * 2 + 1, none⟩ = some (.string ⟨x.d.toArray⟩) := by
  have hk : k < l.length := (List.getElem?_eq_some_iff.1 hx).1
  obtain ⟨b, off, h1, _, h3⟩ := h.2 (by omega)
  obtain ⟨g1, g2⟩ := recsV_get l k x hx
  exact ⟨b, off, h1, h3 _ _ g1, by have := h3 _ _ g2; rwa [← Nat.add_assoc] at this⟩
/-- Entries appended to a row of entries. -/
theorem app_recs (w : World) (base : Nat) (v : Value) (l : List Rec) (h : RecRow w base v l) {G : Nat → Prop} (sa : Option Addr) (sc : Nat) (m : List Rec) (hs : Src G w sa sc m.length (recsV m)) (hl : l.length + m.length ≤ 100000) (hb : base ≤ w.heap.size) :
    ∃ a c w', (Builtin.append_ #[22, 22] 22 #[v, .slice sa m.length sc]).run Tryz.prog w = .ok (.slice a (l.length + m.length) c) w' ∧
      RecRow w' base (.slice a (l.length + m.length) c) (l ++ m) ∧ ((Value.slice a (l.length + m.length) c).ownBlock = v.ownBlock ∨ ∃ y, (Value.slice a (l.length + m.length) c).ownBlock = some y ∧ w.heap.size ≤ y) ∧ Kept (fun k => v.ownBlock = some k) w w' := by
  obtain ⟨i0, hi0, hz0, hz1, hz2⟩ := info_parts infoRec
  obtain ⟨v5, w5, hr, hown5, hgr5, hbl5⟩ := run_append_any_own (P := Tryz.prog) w base 22 22 27 i0 _ 2 24 Tryz.underlying22 hi0 hz0 hz1 hz2 rfl (by decide) v l.length (recsV l) h
    sa m.length sc (recsV m) (recsV_length m) (fun h0 => by
      obtain ⟨b, off, e, _, hc⟩ := hs.2 h0
      exact ⟨⟨b, off, none⟩, e, fun j u hu => by rw [Lib.add_plain]; exact hc j u hu⟩) (recsV_one m) (by unfold maxLen; omega) (by omega) hb
  obtain ⟨a, c, rfl, _⟩ := own_shape (own_base hown5)
  refine ⟨a, c, w5, hr, ?_, ?_, Kept.grown hgr5 (fun k e => e)⟩
  · unfold RecRow; rw [recsV_app, List.length_append]; exact hown5
  · rcases hbl5 with e | e
    · exact Or.inl e
    · exact Or.inr ⟨_, e, Nat.le_refl _⟩
theorem sizeRec (wx : World) : ((sizeOf (Tryz.prog.elem 22)).run Tryz.prog wx) = .ok 2 wx := by
  obtain ⟨i0, hi, hz0, hz1, hz2⟩ := info_parts infoRec
  have e : Tryz.prog.elem 22 = 27 := by kernel_rfl
  rw [e]; simp [sizeOf, typeInfo, hi, hz1]
theorem rec_from (a : Option Addr) (n c k : Nat) (h : k ≤ n) : ∃ A, (∀ wx : World, (Instr.slice 22 (.slice a n c) (some (.int .i64 (k : Int))) none none).run Tryz.prog wx = .ok (.slice A (n - k) (c - k)) wx) ∧ (k < c → A = a.map (·.add (k * 2))) ∧ (a ≠ none → A ≠ none) := by
  refine ⟨if c = k then a else a.map (·.add (k * 2)), fun wx => ?_, fun h => by simp [show c ≠ k by omega], fun h => by split <;> simp [h]⟩
  have hs := run_slice_l (P := Tryz.prog) wx 22 a n c Tryz.underlying22 .i64 k (by omega) (by omega)
  rw [hs, sizeRec wx]
  simp [Result.andThen, sliced]
theorem rec_both (a : Option Addr) (n c l h : Nat) (h1 : l ≤ h) (h2 : h ≤ c) : ∃ A, (∀ wx : World, (Instr.slice 22 (.slice a n c) (some (.int .i64 (l : Int))) (some (.int .i64 (h : Int))) none).run Tryz.prog wx = .ok (.slice A (h - l) (c - l)) wx) ∧ (l < c → A = a.map (·.add (l * 2))) ∧ (a ≠ none → A ≠ none) := by
  refine ⟨if c = l then a else a.map (·.add (l * 2)), fun wx => ?_, fun h => by simp [show c ≠ l by omega], fun h => by split <;> simp [h]⟩
  have hs := run_slice_lh (P := Tryz.prog) wx 22 a n c Tryz.underlying22 .i64 .i64 l h (by omega) (by omega) (by omega)
  rw [hs, sizeRec wx]
  simp [Result.andThen, sliced]
theorem rec_to (a : Option Addr) (n c h : Nat) (h2 : h ≤ c) (wx : World) : (Instr.slice 22 (.slice a n c) none (some (.int .i64 (h : Int))) none).run Tryz.prog wx = .ok (.slice a h c) wx := by
  have hs := run_slice_h (P := Tryz.prog) wx 22 a n c Tryz.underlying22 .i64 h (by omega) (by omega)
  rw [hs, sizeRec wx]
  cases a <;> simp [Result.andThen, sliced, Addr.add]
/-- A part of entries. -/
theorem Src.part {G : Nat → Prop} {w : World} {a : Option Addr} {c : Nat} {l : List Rec} (h : Src G w a c l.length (recsV l)) {A : Option Addr} {k n : Nat} (hA : k < c → A = a.map (·.add (k * 2))) (hk : k + n ≤ l.length) : Src G w A (c - k) n (recsV ((l.drop k).take n)) := by
  refine ⟨by have := h.1; omega, fun h0 => ?_⟩
  obtain ⟨b, off, h1, h2, h3⟩ := h.2 (by omega)
  have := h.1
  refine ⟨b, off + k * 2, by rw [hA (by omega), h1, Option.map_some, Lib.add_plain], h2, fun j u hu => ?_⟩
  rw [← recsV_take, ← recsV_drop, List.getElem?_take] at hu
  split at hu
  · rw [List.getElem?_drop] at hu
    have := h3 _ _ hu
    rwa [← Nat.add_assoc] at this
  · cases hu
theorem Src.first {G : Nat → Prop} {w : World} {a : Option Addr} {c : Nat} {l : List Rec} (h : Src G w a c l.length (recsV l)) {n : Nat} (hn : n ≤ l.length) : Src G w a c n (recsV (l.take n)) := by
  refine ⟨by have := h.1; omega, fun h0 => ?_⟩
  obtain ⟨b, off, h1, h2, h3⟩ := h.2 (by omega)
  refine ⟨b, off, h1, h2, fun j u hu => ?_⟩
  rw [← recsV_take, List.getElem?_take] at hu
  split at hu
  · exact h3 _ _ hu
  · cases hu

/-- A copy of entries. -/
theorem clone_c {G : Nat → Prop} (a : Option Addr) (c : Nat) (l : List Rec) (w : World) (h : Src G w a c l.length (recsV l)) (hn : l.length ≤ 100000) :
    Calls Tryz.prog 43 #[.slice a l.length c] w fun e w' => ∃ a' c', e = .returned (.slice a' l.length c') ∧ RecRow w' w.heap.size (.slice a' l.length c') l ∧ Below w.heap.size w w' := by
  obtain ⟨i0, hi0, hz0, hz1, hz2⟩ := info_parts infoRec
  have q22 : ∀ (w : World) (a : Option Addr) (n c n' c' : Nat), (binOp .eql 22 (.slice a n c) (.slice none n' c')).run Tryz.prog w = .ok (.bool a.isNone) w := fun w a n c n' c' => Lib.run_eql_slice_nil w _ _ a n c n' c' Tryz.underlying22
  cases a with
  | none =>
    have h0 := h.some rfl
    obtain rfl : l = [] := List.eq_nil_of_length_eq_zero h0
    clear h h0
    go_enter Tryz.func43, Tryz.ntmps43
    go_wp2_with fail
    go_ret
    exact ⟨none, 0, rfl, recRow_nil _ _, Below.refl _ _⟩
  | some ad =>
    have hnew : RecRow (w.alloc (.cells #[] 27)) w.heap.size (.slice (some ⟨w.heap.size, 0, none⟩) 0 0) [] := World.ownsRow_made w #[] 0 (Nat.le_refl _) (Nat.zero_le _) rfl
    obtain ⟨a1, c1, w1, hr, ho, hb, hk⟩ := app_recs (w.alloc (.cells #[] 27)) w.heap.size _ [] hnew (some ad) c l (h.on ((Below.refl _ _).alloc (Nat.le_refl _) _)) (by simp; omega) (by simp)
    simp only [List.length_nil, Nat.zero_add, List.nil_append] at hr ho hb
    have HO := Lib.hid ho
    have HG := Lib.hid hk
    obtain ⟨L, hL⟩ : ∃ L, L = l.length := ⟨_, rfl⟩
    rw [← hL] at hr HO hn ⊢
    have HR := Lib.hid hr
    clear h ho hk hr hb hnew hL
    go_enter Tryz.func43, Tryz.ntmps43
    go_wp2_with (at_builtin; refine Lib.wpList_append_run _ rfl _ _ _ _ rfl _ _ rfl rfl _ w1 HR.out ?_)
    go_ret
    refine ⟨a1, c1, rfl, HO.out, ?_⟩
    exact ((Below.refl _ w).alloc (Nat.le_refl _) _).trans (HG.out.toBelow (by simp) (fun k hk => by simp [Value.ownBlock] at hk; omega))
end Go.Proofs.YtkmojcpiadpbaaaGreatDoor
