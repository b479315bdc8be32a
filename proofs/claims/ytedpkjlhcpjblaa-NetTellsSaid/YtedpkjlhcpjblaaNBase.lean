/-
  Slices that are owned, in a heap; appending to them, clearing their end; nothing of the program stands in this part.
  Packets in a heap, three cells each; a row of packets: appended to, one deleted out of its middle, copied.
-/
import Derived.Test.YtedpkjlhcpjblaaNRun
import Derived.Test.YtedpkjlhcpjblaaChecked
import Derived.WalkKit
import Derived.ProofKit
import Derived.WalkSmall
import Derived.OwnWalk
import Derived.Outline
import Derived.Lib.Hide
import Derived.Lib.AppendStr
import Derived.Lib.AppendZerosOnto
import Derived.Lib.ItoaMem
import Derived.Laws.CopyOwn
import Derived.Maps.AppendAt
import Derived.Deep.DeepCutAuto
import Derived.Deep.RegionLaw
import Derived.Deep.AppendLies
import Derived.Deep.LoopGhost
import Derived.Carry
import Derived.Lib.SliceRun
import Derived.Laws.BitsLemmas
import Derived.Laws.BitsAllLaws
import Derived.Laws.ResultCell
import Derived.Laws.Rows
import Derived.BigQuiet
namespace Go.Proofs.Ytedpkjlhcpjblaa
open Go Go.RowKit Nt

/-- What is not in S is as it was. -/
structure Kept (S : Nat → Prop) (w w' : World) : Prop where
  os : w'.os = w.os
  tape : w'.tape = w.tape
  output : w'.output = w.output
  size : w.heap.size ≤ w'.heap.size
  block : ∀ k, k < w.heap.size → ¬ S k → w'.heap[k]? = w.heap[k]?
theorem Kept.refl (S : Nat → Prop) (w : World) : Kept S w w := ⟨rfl, rfl, rfl, Nat.le_refl _, fun _ _ _ => rfl⟩
theorem Kept.trans {S S' : Nat → Prop} {a b c : World} (h : Kept S a b) (k : Kept S' b c) (hs : ∀ i, i < a.heap.size → S' i → S i) : Kept S a c :=
  ⟨k.os.trans h.os, k.tape.trans h.tape, k.output.trans h.output, Nat.le_trans h.size k.size, fun i hi hn => (k.block i (Nat.lt_of_lt_of_le hi h.size) (fun h' => hn (hs i hi h'))).trans (h.block i hi hn)⟩
theorem Kept.mono {S S' : Nat → Prop} {a b : World} (h : Kept S a b) (hs : ∀ i, i < a.heap.size → S i → S' i) : Kept S' a b :=
  ⟨h.os, h.tape, h.output, h.size, fun i hi hn => h.block i hi (fun h' => hn (hs i hi h'))⟩
theorem Kept.grown {S : Nat → Prop} {w w' : World} {row : Option Nat} (h : w.grownBy w' row) (hr : ∀ k, row = some k → S k) : Kept S w w' :=
  ⟨h.os, h.tape, h.output, h.size, fun i hi hn => h.block i hi (fun e => hn (hr i e.symm))⟩
theorem Kept.below {S : Nat → Prop} {w w' : World} (h : Below w.heap.size w w') : Kept S w w' := ⟨h.os, h.tape, h.output, h.size, fun i hi _ => h.block i hi⟩
theorem Kept.set (b o : Nat) (w : World) (v : Value) : Kept (fun k => k = b) w (w.setCell ⟨b, o, none⟩ v) :=
  ⟨rfl, rfl, rfl, by simp [World.setCell], fun k _ hk => Below.heap_setCell _ _ _ _ (fun e => hk (by simpa using e))⟩
theorem Kept.alloc (S : Nat → Prop) (w : World) (o : Obj) : Kept S w (w.alloc o) := ⟨rfl, rfl, rfl, by simp, fun k hk _ => Below.heap_alloc _ _ _ hk⟩
theorem Kept.drew (S : Nat → Prop) (w : World) : Kept S w w.drew := ⟨rfl, rfl, rfl, Nat.le_refl _, fun _ _ _ => rfl⟩
theorem Kept.toBelow {S : Nat → Prop} {w w' : World} (h : Kept S w w') {B : Nat} (hB : B ≤ w.heap.size) (hS : ∀ k, S k → B ≤ k) : Below B w w' :=
  ⟨h.os, h.tape, h.output, h.size, fun k hk => h.block k (by omega) (fun hs => by have := hS k hs; omega)⟩
theorem Kept.cell {S : Nat → Prop} {w w' : World} (h : Kept S w w') {a : Addr} {v : Value} (hc : w.cell? a = some v) (hn : ¬ S a.block) : w'.cell? a = some v :=
  (World.cell?_of_block (h.block a.block (World.block_lt_of_cell? w a hc) hn)).trans hc
theorem Kept.heap {S : Nat → Prop} {w w' : World} (h : Kept S w w') {b : Nat} {o : Obj} (hc : w.heap[b]? = some o) (hn : ¬ S b) : w'.heap[b]? = some o :=
  (h.block b (Array.getElem?_eq_some_iff.1 hc).1 hn).trans hc

/-- The block of a slice that is owned, or none. -/
theorem own_shape {w : World} {e : TypeId} {size : Nat} {v : Value} {n : Nat} {xs : List Value} (h : w.ownsRow 0 e size v n xs) : ∃ a c, v = .slice a n c ∧ n ≤ c ∧ c ≤ maxLen ∧ (a = none → n = 0 ∧ c = 0) := by
  rcases h.2 with ⟨rfl, rfl⟩ | ⟨g, cap, cur, rfl, _, _, h1, h2, _, _⟩
  · exact ⟨none, 0, rfl, Nat.le_refl _, Nat.zero_le _, fun _ => ⟨rfl, rfl⟩⟩
  · exact ⟨_, cap, rfl, h1, h2, fun h => (by cases h)⟩
theorem own_kept {w w' : World} {S : Nat → Prop} {base : Nat} {e : TypeId} {size : Nat} {v : Value} {n : Nat} {xs : List Value} (h : w.ownsRow base e size v n xs) (hk : Kept S w w') (hn : ∀ k, v.ownBlock = some k → ¬ S k) : w'.ownsRow base e size v n xs := by
  refine ⟨h.1, ?_⟩
  rcases h.2 with ⟨rfl, rfl⟩ | ⟨g, cap, cur, rfl, h1, h2, h3⟩
  · exact Or.inl ⟨rfl, rfl⟩
  · exact Or.inr ⟨g, cap, cur, rfl, h1, hk.heap h2 (hn g rfl), h3⟩
theorem own_base {w : World} {base : Nat} {e : TypeId} {size : Nat} {v : Value} {n : Nat} {xs : List Value} (h : w.ownsRow base e size v n xs) : w.ownsRow 0 e size v n xs := by
  refine ⟨h.1, ?_⟩
  rcases h.2 with h1 | ⟨g, cap, cur, h1, _, h2⟩
  · exact Or.inl h1
  · exact Or.inr ⟨g, cap, cur, h1, Nat.zero_le _, h2⟩
theorem own_cell {w : World} {e : TypeId} {size : Nat} {v : Value} {n : Nat} {xs : List Value} (h : w.ownsRow 0 e size v n xs) {a : Addr} {c : Nat} (hv : v = .slice (some a) n c) (j : Nat) (u : Value) (hu : xs[j]? = some u) : w.cell? (a.add j) = some u := by
  obtain ⟨g, rfl⟩ : ∃ g, a = ⟨g, 0, none⟩ := by
    rcases h.2 with ⟨rfl, _⟩ | ⟨g, cap, cur, rfl, _⟩
    · cases hv
    · injection hv with hv; injection hv with hv; exact ⟨g, hv.symm⟩
  exact h.cells (g := g) (by rw [hv]; rfl) j u hu
theorem own_at {w : World} {e : TypeId} {v : Value} {n : Nat} {xs : List Value} (h : w.ownsRow 0 e 1 v n xs) {a : Option Addr} {c : Nat} (hv : v = .slice a n c) (h0 : 0 < n) : ∃ g, a = some ⟨g, 0, none⟩ ∧ v.ownBlock = some g := by
  rcases h.2 with ⟨rfl, rfl⟩ | ⟨g, cap, cur, rfl, _⟩
  · omega
  · injection hv with hv
    exact ⟨g, hv.symm, rfl⟩

theorem own_cell_size {w : World} {e : TypeId} {size : Nat} {v : Value} {n : Nat} {xs : List Value} (h : w.ownsRow 0 e size v n xs) {a : Addr} {c : Nat} (hv : v = .slice (some a) n c) (j : Nat) (u : Value) (hu : xs[j]? = some u) : w.cell? (a.add j) = some u := own_cell h hv j u hu
/-- The first elements of a slice that is owned. -/
theorem own_take {w : World} {base : Nat} {e : TypeId} {size : Nat} {a : Option Addr} {n c : Nat} {xs : List Value} (h : w.ownsRow base e size (.slice a n c) n xs) {m : Nat} (hm : m ≤ n) : w.ownsRow base e size (.slice a m c) m (xs.take (m * size)) := by
  obtain ⟨h0, h1⟩ := h
  have hle : m * size ≤ n * size := Nat.mul_le_mul_right _ hm
  refine ⟨by rw [List.length_take, h0]; omega, ?_⟩
  rcases h1 with ⟨h1, h2⟩ | ⟨g, cap, cur, h1, h2, h3, h4, h5, h6, h7⟩
  · injection h1 with e1 e2 e3
    subst e1 e3
    obtain rfl : m = 0 := by omega
    exact Or.inl ⟨rfl, rfl⟩
  · injection h1 with e1 e2 e3
    subst e1 e3
    refine Or.inr ⟨g, c, cur, rfl, h2, h3, by omega, h5, h6, ?_⟩
    rw [← h7, List.take_take]
    congr 1
    omega

/-- A slice whose elements can be read. -/
def SrcV (w : World) (size : Nat) (v : Value) (n : Nat) (xs : List Value) : Prop := ∃ a c, v = .slice a n c ∧ xs.length = n * size ∧ (a = none → n = 0) ∧ ∀ ad, a = some ad → ∀ j u, xs[j]? = some u → w.cell? (ad.add j) = some u
theorem SrcV.own {w : World} {e : TypeId} {size : Nat} {v : Value} {n : Nat} {xs : List Value} (h : w.ownsRow 0 e size v n xs) : SrcV w size v n xs := by
  obtain ⟨a, c, rfl, _, _, h0⟩ := own_shape h
  exact ⟨a, c, rfl, h.1, fun e => (h0 e).1, fun ad e j u hu => own_cell_size h (by rw [e]) j u hu⟩
theorem SrcV.on {w w' : World} {size : Nat} {v : Value} {n : Nat} {xs : List Value} (h : SrcV w size v n xs) (hb : Below w.heap.size w w') : SrcV w' size v n xs := by
  obtain ⟨a, c, h1, h2, h3, h4⟩ := h
  exact ⟨a, c, h1, h2, h3, fun ad e j u hu => (Kept.below (S := fun _ => False) hb).cell (h4 ad e j u hu) (fun e => e)⟩
theorem cell_plainD {w : World} {a : Addr} {v : Value} (h : w.cell? a = some v) : ∃ b off, a = ⟨b, off, none⟩ := by
  obtain ⟨b, off, spot⟩ := a
  cases spot with
  | none => exact ⟨b, off, rfl⟩
  | some s =>
    exfalso
    unfold World.cell? at h
    split at h
    · simp at h
    · cases h
theorem own_lt {w : World} {e : TypeId} {size : Nat} {v : Value} {n : Nat} {xs : List Value} (h : w.ownsRow 0 e size v n xs) {k : Nat} (hk : v.ownBlock = some k) : k < w.heap.size := (h.lt k hk).2
theorem own_above {w : World} {base : Nat} {e : TypeId} {size : Nat} {v : Value} {n : Nat} {xs : List Value} (h : w.ownsRow base e size v n xs) {k : Nat} (hk : v.ownBlock = some k) : base ≤ k := by
  rcases h.2 with ⟨rfl, _⟩ | ⟨g, cap, cur, rfl, hg, _⟩
  · cases hk
  · injection hk with hk; subst hk; exact hg
theorem own_at2 {w : World} {e : TypeId} {size : Nat} {v : Value} {n : Nat} {xs : List Value} (h : w.ownsRow 0 e size v n xs) {a : Option Addr} {c : Nat} (hv : v = .slice a n c) (h0 : 0 < n) : ∃ g, a = some ⟨g, 0, none⟩ ∧ v.ownBlock = some g := by
  rcases h.2 with ⟨rfl, rfl⟩ | ⟨g, cap, cur, rfl, _⟩
  · omega
  · injection hv with hv
    exact ⟨g, hv.symm, rfl⟩

section
variable {P : Program}
/-- 'append(s, t...)' onto a slice that is owned, t whatever (nil too). -/
theorem run_append_any_own (w : World) (base : Nat) (t ty e : TypeId) (i : TypeInfo) (z : Value) (size bytes : Nat) (ht : P.underlying t = some (.slice e)) (hi : P.info? e = some i) (hz : i.zero = some z)
    (hsize : i.size = size) (hby : i.bytes = bytes) (hzs : z.cells.size = size) (hsz : 0 < size)
    (v : Value) (n : Nat) (xs : List Value) (hown : w.ownsRow base e size v n xs)
    (A : Option Addr) (m c : Nat) (news : List Value) (hl : news.length = m * size) (hsrc : 0 < m → ∃ ad, A = some ad ∧ ∀ j u, news[j]? = some u → w.cell? (ad.add j) = some u) (h1 : ∀ u ∈ news, u.oneCell' = true)
    (h63 : n + m ≤ maxLen) (hbytes : (n + m) * bytes ≤ 140737488355328) (hbase : base ≤ w.heap.size) :
    ∃ v' w', (Builtin.append_ #[t, t] ty #[v, .slice A m c]).run P w = .ok v' w' ∧ w'.ownsRow base e size v' (n + m) (xs ++ news) ∧ w.grownBy w' v.ownBlock ∧ (v'.ownBlock = v.ownBlock ∨ v'.ownBlock = some w.heap.size) := by
  by_cases hm : m = 0
  · subst hm
    obtain rfl : news = [] := List.eq_nil_of_length_eq_zero (by simpa using hl)
    have hf : (Builtin.firstCells i.size 0 (.slice A 0 c)).run P w = .ok #[] w := by
      cases A <;> simp [Builtin.firstCells, loadCells, loadCellsFrom]
    refine ⟨v, w, ?_, by simpa using hown, ⟨rfl, rfl, rfl, Nat.le_refl _, fun _ _ _ => rfl⟩, Or.inl rfl⟩
    rcases hown.2 with ⟨rfl, rfl⟩ | ⟨g, cap, cur, rfl, hbg, hg, hnc, hcm, hcs, htake⟩
    · simp [Builtin.append_, run_underlying ht, sizeOf, typeInfo, hi, Builtin.lenOf, hf]
    · simp [Builtin.append_, run_underlying ht, sizeOf, typeInfo, hi, Builtin.lenOf, hf, hnc, storeCells]
  · obtain ⟨ad, rfl, hc⟩ := hsrc (by omega)
    obtain ⟨v', w', h2, h3, h4, _, h5⟩ := run_append_own_at (P := P) w base t ty e i z size bytes ht hi hz hsize hby hzs hsz v n xs hown ad m c news hl hc h1 h63 hbytes hbase
    exact ⟨v', w', h2, h3, h4, h5⟩

/-- 'clear(s[i:])' at the end of a slice that is owned: the first i elements stay. -/
theorem run_clear_tail (w : World) (t ty e : TypeId) (z : Value) (size : Nat) (ht : P.underlying t = some (.slice e)) (hv : ∀ w, (zeroValue e).run P w = .ok z w) (hzs : z.cells.size = size) (h1 : ∀ u ∈ z.cells.toList, u.oneCell' = true)
    (g n c : Nat) (xs : List Value) (hown : w.ownsRow 0 e size (.slice (some ⟨g, 0, none⟩) n c) n xs) (i : Nat) (hi : i ≤ n) (A : Option Addr) (c' : Nat) (hA : 0 < n - i → A = some ⟨g, i * size, none⟩) :
    ∃ w', (Builtin.clear_ #[t] ty #[.slice A (n - i) c']).run P w = .ok (.tuple #[]) w' ∧ w'.ownsRow 0 e size (.slice (some ⟨g, 0, none⟩) i c) i (xs.take (i * size)) ∧ w.grownBy w' (some g) := by
  by_cases h0 : n - i = 0
  · refine ⟨w, ?_, own_take hown hi, ⟨rfl, rfl, rfl, Nat.le_refl _, fun _ _ _ => rfl⟩⟩
    rw [h0]
    cases A <;> simp [Builtin.clear_, run_underlying ht]
  · obtain rfl := hA (by omega)
    obtain ⟨m, hm⟩ : ∃ m, n - i = m + 1 := ⟨n - i - 1, by omega⟩
    rcases hown.2 with ⟨e1, _⟩ | ⟨g', cap, cur, e1, hbg, hg, hnc, hcm, hcs, htake⟩
    · cases e1
    · injection e1 with e1 _ e3
      injection e1 with e1
      injection e1 with e1
      subst e1 e3
      have hle : (i + (m + 1)) * size ≤ c * size := Nat.mul_le_mul_right _ (by omega)
      rw [Nat.add_mul] at hle
      have hlen : ((Builtin.zeroCells z.cells (m + 1)).toList).length = (m + 1) * size := by rw [Array.length_toList, size_zeroCells, hzs]
      have hz1 : ∀ u ∈ (Builtin.zeroCells z.cells (m + 1)).toList, u.oneCell' = true := by
        intro u hu
        simp only [Builtin.zeroCells, Array.toList_map, List.mem_map] at hu
        obtain ⟨j, hj, rfl⟩ := hu
        have hj' : j < (m + 1) * z.cells.size := by simpa using hj
        have hpos : 0 < z.cells.size := by
          rcases Nat.eq_zero_or_pos z.cells.size with h | h
          · rw [h] at hj'; omega
          · exact h
        have hlt := Nat.mod_lt j hpos
        refine h1 _ ?_
        rw [getElem!_pos z.cells _ hlt]
        exact Array.getElem_mem_toList hlt
      have hst := run_storeCells_at P g (i * size) e (Builtin.zeroCells z.cells (m + 1)).toList 0 cur w hg (by rw [hlen, hcs]; omega) hz1
      simp only [Nat.add_zero] at hst
      refine ⟨w.setRow g (cur.toList.take (i * size) ++ (Builtin.zeroCells z.cells (m + 1)).toList ++ cur.toList.drop (i * size + (Builtin.zeroCells z.cells (m + 1)).toList.length)).toArray, ?_, ⟨?_, Or.inr ⟨g, c, _, rfl, Nat.zero_le _, setRow_heap w g cur _ e _ hg, by omega, hcm, ?_, ?_⟩⟩, ⟨rfl, rfl, rfl, by simp, fun k _ hk => setRow_other w g k _ (fun e => hk (by rw [e]))⟩⟩
      · rw [hm]
        simp [Builtin.clear_, run_underlying ht, hv, hst]
      · have := hown.1
        have h3 : i * size ≤ n * size := Nat.mul_le_mul_right _ hi
        rw [List.length_take]; omega
      · simp only [List.size_toArray, List.length_append, List.length_take, List.length_drop, Array.length_toList, hlen, hcs]
        simp only [Array.length_toList] at hlen
        omega
      · have h3 : i * size ≤ n * size := Nat.mul_le_mul_right _ hi
        rw [← htake, List.take_take, Nat.min_eq_left h3]
        simp only [List.append_assoc]
        rw [List.take_append_of_le_length (by simp; omega), List.take_take]
        congr 1
        omega
theorem wpList_clear_run {w : World} {ops : Array Oper} {rest : List Oper} {o : Oper} {a : Act} {Q : Exit → Act → World → Prop} (hgd : o.guard = none) (s : Operand) (t : TypeId)
    (ho : o.op = .call { callee := .builtin .clear, args := #[s], argTypes := #[t] }) (vs : Value) (hs : a.eval s = vs) (w' : World) (hr : (Builtin.clear_ #[t] o.type #[vs]).run P w = .ok (.tuple #[]) w')
    (h : wpList P ops Q rest (a.put o.dst (.tuple #[])) w') : wpList P ops Q (o :: rest) a w := by
  refine wpList_plain hgd fun K hK => ?_
  unfold Oper.wp execOp
  simp only [ho, resolve, invoke, builtin, Sem.run_bind, Sem.run_pure, Result.andThen_ok, List.map_toArray, List.map_cons, List.map_nil, hs, hr]
  exact hK _ _ h
end

/-! ### Packets -/
def pkV (p : Pk) : Value := .agg #[.int .i64 p.a, .int .i64 p.b, .string ⟨p.s.toArray⟩]
def pkC (p : Pk) : List Value := [.int .i64 p.a, .int .i64 p.b, .string ⟨p.s.toArray⟩]
def pksV (l : List Pk) : List Value := l.flatMap pkC
theorem pksV_cons (x : Pk) (l : List Pk) : pksV (x :: l) = pkC x ++ pksV l := by simp [pksV]
theorem pksV_app (a b : List Pk) : pksV (a ++ b) = pksV a ++ pksV b := by simp [pksV]
theorem pksV_length (l : List Pk) : (pksV l).length = l.length * 3 := by
  induction l with
  | nil => rfl
  | cons x l ih => rw [pksV_cons, List.length_append, ih]; simp [pkC]; omega
theorem pksV_one (l : List Pk) : ∀ u ∈ pksV l, u.oneCell' = true := by
  intro u hu
  obtain ⟨x, _, hx⟩ := List.mem_flatMap.1 hu
  simp [pkC] at hx
  rcases hx with rfl | rfl | rfl <;> rfl
theorem pksV_get (l : List Pk) : ∀ (k : Nat) (x : Pk), l[k]? = some x → (pksV l)[k * 3]? = some (.int .i64 x.a) ∧ (pksV l)[k * 3 + 1]? = some (.int .i64 x.b) ∧ (pksV l)[k * 3 + 2]? = some (.string ⟨x.s.toArray⟩) := by
  induction l with
  | nil => intro k x h; simp at h
  | cons a l ih =>
    intro k x h
    rw [pksV_cons]
    cases k with
    | zero =>
      simp at h
      subst h
      exact ⟨rfl, rfl, rfl⟩
    | succ k =>
      obtain ⟨h1, h2, h3⟩ := ih k x (by simpa using h)
      refine ⟨?_, ?_, ?_⟩
      · rw [List.getElem?_append_right (by simp [pkC]; omega), ← h1]
        congr 1
        simp [pkC]
        omega
      · rw [List.getElem?_append_right (by simp [pkC]; omega), ← h2]
        congr 1
        simp [pkC]
        omega
      · rw [List.getElem?_append_right (by simp [pkC]; omega), ← h3]
        congr 1
        simp [pkC]
        omega
theorem pksV_take (l : List Pk) (k : Nat) : (pksV l).take (k * 3) = pksV (l.take k) := by
  induction l generalizing k with
  | nil => simp [pksV]
  | cons x l ih =>
    cases k with
    | zero => simp [pksV]
    | succ k =>
      have e : (k + 1) * 3 = (pkC x).length + k * 3 := by simp [pkC]; omega
      rw [List.take_succ_cons, pksV_cons, pksV_cons, e, List.take_length_add_append, ih]
theorem pksV_drop (l : List Pk) (k : Nat) : (pksV l).drop (k * 3) = pksV (l.drop k) := by
  induction l generalizing k with
  | nil => simp [pksV]
  | cons x l ih =>
    cases k with
    | zero => simp [pksV]
    | succ k =>
      have e : (k + 1) * 3 = (pkC x).length + k * 3 := by simp [pkC]; omega
      rw [List.drop_succ_cons, pksV_cons, e, List.drop_length_add_append, ih]
theorem infoPk : (Try.prog.info? 33).map (fun i => (i.zero, i.size, i.bytes)) = some (some (.agg #[.int .i64 0, .int .i64 0, .string ⟨#[]⟩]), 3, 32) := by kernel_rfl
/-- A row of packets, in a memory of its own. -/
def PkRow (w : World) (base : Nat) (v : Value) (l : List Pk) : Prop := w.ownsRow base 33 3 v l.length (pksV l)
/-- The cells of a packet, where a row of packets lies. -/
theorem pks_cells {w : World} {base : Nat} {a : Option Addr} {n c : Nat} {l : List Pk} (h : PkRow w base (.slice a n c) l) {k : Nat} {x : Pk} (hx : l[k]? = some x) :
    ∃ g, a = some ⟨g, 0, none⟩ ∧ (Value.slice a n c).ownBlock = some g ∧ w.cell? ⟨g, k * 3, none⟩ = some (.int .i64 x.a) ∧ w.cell? ⟨g, k * 3 + 1, none⟩ = some (.int .i64 x.b) ∧ w.cell? ⟨g, k * 3 + 2, none⟩ = some (.string ⟨x.s.toArray⟩) := by
  have h := own_base h
  have hk : k < l.length := (List.getElem?_eq_some_iff.1 hx).1
  have hn : l.length = n := by
    rcases h.2 with ⟨e, h0⟩ | ⟨g, cap, cur, e, _⟩
    · omega
    · injection e with _ e _; exact e.symm
  rw [hn] at h
  obtain ⟨g, rfl, hb⟩ := own_at2 h rfl (by omega)
  obtain ⟨h1, h2, h3⟩ := pksV_get l k x hx
  refine ⟨g, rfl, hb, ?_, ?_, ?_⟩
  · have := own_cell_size h rfl _ _ h1; rw [Lib.add_plain, Nat.zero_add] at this; exact this
  · have := own_cell_size h rfl _ _ h2; rw [Lib.add_plain, Nat.zero_add] at this; exact this
  · have := own_cell_size h rfl _ _ h3; rw [Lib.add_plain, Nat.zero_add] at this; exact this
theorem PkRow.shape {w : World} {base : Nat} {v : Value} {l : List Pk} (h : PkRow w base v l) : ∃ a c, v = .slice a l.length c ∧ l.length ≤ c ∧ c ≤ maxLen ∧ (a = none → l.length = 0 ∧ c = 0) := own_shape (own_base h)
theorem PkRow.kept {w w' : World} {S : Nat → Prop} {base : Nat} {v : Value} {l : List Pk} (h : PkRow w base v l) (hk : Kept S w w') (hn : ∀ k, v.ownBlock = some k → ¬ S k) : PkRow w' base v l := own_kept h hk hn
theorem PkRow.on {w w' : World} {base : Nat} {v : Value} {l : List Pk} (h : PkRow w base v l) (hb : Below w.heap.size w w') : PkRow w' base v l := own_kept h (Kept.below (S := fun _ => False) hb) (fun _ _ e => e)
theorem PkRow.lt {w : World} {base : Nat} {v : Value} {l : List Pk} (h : PkRow w base v l) {k : Nat} (hk : v.ownBlock = some k) : k < w.heap.size := own_lt (own_base h) hk
theorem PkRow.above {w : World} {base : Nat} {v : Value} {l : List Pk} (h : PkRow w base v l) {k : Nat} (hk : v.ownBlock = some k) : base ≤ k := own_above h hk
theorem PkRow.low {w : World} {B B' : Nat} {v : Value} {l : List Pk} (h : PkRow w B v l) (hB : B' ≤ B) : PkRow w B' v l := by
  refine ⟨h.1, ?_⟩
  rcases h.2 with h1 | ⟨g, cap, cur, h1, h2, h3⟩
  · exact Or.inl h1
  · exact Or.inr ⟨g, cap, cur, h1, by omega, h3⟩
theorem pkRow_nil (w : World) (base : Nat) : PkRow w base (.slice none 0 0) [] := World.ownsRow_nil _ _ _ _
/-- One packet appended to a row of packets: it lies in a block of its own first. -/
theorem app_pk (w : World) (base : Nat) (v : Value) (l : List Pk) (x : Pk) (h : PkRow w base v l) (hl : l.length ≤ 100000) (hb : base ≤ w.heap.size) :
    ∃ a c w', (Builtin.append_ #[27, 27] 27 #[v, .slice (some ⟨w.heap.size, 0, none⟩) 1 1]).run Try.prog (w.alloc (.cells #[.int .i64 x.a, .int .i64 x.b, .string ⟨x.s.toArray⟩] 33)) = .ok (.slice a (l.length + 1) c) w' ∧
      PkRow w' base (.slice a (l.length + 1) c) (l ++ [x]) ∧ ((Value.slice a (l.length + 1) c).ownBlock = v.ownBlock ∨ ∃ y, (Value.slice a (l.length + 1) c).ownBlock = some y ∧ w.heap.size ≤ y) ∧ Kept (fun k => v.ownBlock = some k) w w' := by
  obtain ⟨i0, hi0, hz0, hz1, hz2⟩ := info_parts infoPk
  obtain ⟨v5, w5, hr, hown5, hgr5, hbl5⟩ := run_append_any_own (P := Try.prog) (w.alloc (.cells #[.int .i64 x.a, .int .i64 x.b, .string ⟨x.s.toArray⟩] 33)) base 27 27 33 i0 _ 3 32 Try.underlying27 hi0 hz0 hz1 hz2 rfl (by decide) v l.length (pksV l) (own_kept h (Kept.alloc (fun _ => False) _ _) (fun _ _ e => e))
    (some ⟨w.heap.size, 0, none⟩) 1 1 (pkC x) rfl (fun _ => ⟨_, rfl, fun j u hu => by
      rw [Lib.add_plain, Lib.cell_of_heap (heap_alloc_new w _)]
      match j, hu with
      | 0, hu => simpa [pkC] using hu
      | 1, hu => simpa [pkC] using hu
      | 2, hu => simpa [pkC] using hu⟩) (by simp [pkC, Value.oneCell']) (by unfold maxLen; omega) (by omega) (by simp; omega)
  obtain ⟨a, c, rfl, _⟩ := own_shape (own_base hown5)
  refine ⟨a, c, w5, hr, ?_, ?_, (Kept.alloc _ w _).trans (Kept.grown hgr5 (fun k e => e)) (fun _ _ e => e)⟩
  · unfold PkRow; rw [pksV_app, List.length_append]; unfold pksV at hown5 ⊢; simpa using hown5
  · rcases hbl5 with e | e
    · exact Or.inl e
    · exact Or.inr ⟨_, e, by simp⟩
end Go.Proofs.Ytedpkjlhcpjblaa
