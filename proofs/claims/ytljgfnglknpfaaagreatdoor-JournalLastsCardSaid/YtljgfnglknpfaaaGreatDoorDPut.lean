/-
  Slices that are owned, in a heap: zeros appended; a slice of bytes that is read; bytes put at an offset. Nothing of the program stands here.
  disk.put: bytes put at an offset into a slice that is owned.
-/
import Derived.Test.YtljgfnglknpfaaaGreatDoorDModel
import Derived.Test.YtljgfnglknpfaaaGreatDoorChecked
import Derived.WalkKit
import Derived.ProofKit
import Derived.WalkSmall
import Derived.OwnWalk
import Derived.Outline
import Derived.Lib.Hide
import Derived.Lib.AppendStr
import Derived.Lib.AppendZerosOnto
import Derived.Laws.CopyOwn
import Derived.Maps.AppendAt
import Derived.Deep.DeepCutAuto
import Derived.Carry
import Derived.Lib.ItoaMem
namespace Go.Proofs.YtljgfnglknpfaaaGreatDoor
set_option maxRecDepth 100000
open Go Go.RowKit Dk

/-- What is not in S is as it was. -/
structure Kept (S : Nat → Prop) (w w' : World) : Prop where
  os : w'.os = w.os
  tape : w'.tape = w.tape
  output : w'.output = w.output
  size : w.heap.size ≤ w'.heap.size
  block : ∀ k, k < w.heap.size → ¬ S k → w'.heap[k]? = w.heap[k]?
theorem Kept.refl (S : Nat → Prop) (w : World) : Kept S w w := ⟨rfl, rfl, rfl, Nat.le_refl _, fun _ _ _ => rfl⟩
theorem Kept.trans {S S' : Nat → Prop} {a b c : World} (h : Kept S a b) (k : Kept S' b c) (hs : ∀ i, i < a.heap.size → S' i → S i) : Kept S a c :=
  ⟨k.os.trans h.os, k.tape.trans h.tape, k.output.trans h.output, Nat.le_trans h.size k.size, fun i hi hn => (k.block i (Nat.lt_of_lt_of_le hi h.size) (fun h' => hn (hs i hi h'))).trans (h.block i hi hn)⟩
theorem Kept.mono {S S' : Nat → Prop} {a b : World} (h : Kept S a b) (hs : ∀ i, i < a.heap.size → S i → S' i) : Kept S' a b :=
  ⟨h.os, h.tape, h.output, h.size, fun i hi hn => h.block i hi (fun h' => hn (hs i hi h'))⟩
theorem Kept.grown {S : Nat → Prop} {w w' : World} {row : Option Nat} (h : w.grownBy w' row) (hr : ∀ k, row = some k → S k) : Kept S w w' :=
  ⟨h.os, h.tape, h.output, h.size, fun i hi hn => h.block i hi (fun e => hn (hr i e.symm))⟩
theorem Kept.below {S : Nat → Prop} {w w' : World} (h : Below w.heap.size w w') : Kept S w w' := ⟨h.os, h.tape, h.output, h.size, fun i hi _ => h.block i hi⟩
theorem Kept.set (b o : Nat) (w : World) (v : Value) : Kept (fun k => k = b) w (w.setCell ⟨b, o, none⟩ v) :=
  ⟨rfl, rfl, rfl, by simp [World.setCell], fun k _ hk => Below.heap_setCell _ _ _ _ (fun e => hk (by simpa using e))⟩
theorem Kept.alloc (S : Nat → Prop) (w : World) (o : Obj) : Kept S w (w.alloc o) := ⟨rfl, rfl, rfl, by simp, fun k hk _ => Below.heap_alloc _ _ _ hk⟩
theorem Kept.drew (S : Nat → Prop) (w : World) : Kept S w w.drew := ⟨rfl, rfl, rfl, Nat.le_refl _, fun _ _ _ => rfl⟩
theorem Kept.toBelow {S : Nat → Prop} {w w' : World} (h : Kept S w w') {B : Nat} (hB : B ≤ w.heap.size) (hS : ∀ k, S k → B ≤ k) : Below B w w' :=
  ⟨h.os, h.tape, h.output, h.size, fun k hk => h.block k (by omega) (fun hs => by have := hS k hs; omega)⟩
theorem Kept.cell {S : Nat → Prop} {w w' : World} (h : Kept S w w') {a : Addr} {v : Value} (hc : w.cell? a = some v) (hn : ¬ S a.block) : w'.cell? a = some v :=
  (World.cell?_of_block (h.block a.block (World.block_lt_of_cell? w a hc) hn)).trans hc
theorem Kept.heap {S : Nat → Prop} {w w' : World} (h : Kept S w w') {b : Nat} {o : Obj} (hc : w.heap[b]? = some o) (hn : ¬ S b) : w'.heap[b]? = some o :=
  (h.block b (Array.getElem?_eq_some_iff.1 hc).1 hn).trans hc

/-- The block of a slice that is owned, or none. -/
theorem own_shape {w : World} {e : TypeId} {size : Nat} {v : Value} {n : Nat} {xs : List Value} (h : w.ownsRow 0 e size v n xs) : ∃ a c, v = .slice a n c ∧ n ≤ c ∧ c ≤ maxLen ∧ (a = none → n = 0 ∧ c = 0) := by
  rcases h.2 with ⟨rfl, rfl⟩ | ⟨g, cap, cur, rfl, _, _, h1, h2, _, _⟩
  · exact ⟨none, 0, rfl, Nat.le_refl _, Nat.zero_le _, fun _ => ⟨rfl, rfl⟩⟩
  · exact ⟨_, cap, rfl, h1, h2, fun h => (by cases h)⟩
theorem own_kept {w w' : World} {S : Nat → Prop} {base : Nat} {e : TypeId} {size : Nat} {v : Value} {n : Nat} {xs : List Value} (h : w.ownsRow base e size v n xs) (hk : Kept S w w') (hn : ∀ k, v.ownBlock = some k → ¬ S k) : w'.ownsRow base e size v n xs := by
  refine ⟨h.1, ?_⟩
  rcases h.2 with ⟨rfl, rfl⟩ | ⟨g, cap, cur, rfl, h1, h2, h3⟩
  · exact Or.inl ⟨rfl, rfl⟩
  · exact Or.inr ⟨g, cap, cur, rfl, h1, hk.heap h2 (hn g rfl), h3⟩
theorem own_base {w : World} {base : Nat} {e : TypeId} {size : Nat} {v : Value} {n : Nat} {xs : List Value} (h : w.ownsRow base e size v n xs) : w.ownsRow 0 e size v n xs := by
  refine ⟨h.1, ?_⟩
  rcases h.2 with h1 | ⟨g, cap, cur, h1, _, h2⟩
  · exact Or.inl h1
  · exact Or.inr ⟨g, cap, cur, h1, Nat.zero_le _, h2⟩
theorem own_cell {w : World} {e : TypeId} {size : Nat} {v : Value} {n : Nat} {xs : List Value} (h : w.ownsRow 0 e size v n xs) {a : Addr} {c : Nat} (hv : v = .slice (some a) n c) (j : Nat) (u : Value) (hu : xs[j]? = some u) : w.cell? (a.add j) = some u := by
  obtain ⟨g, rfl⟩ : ∃ g, a = ⟨g, 0, none⟩ := by
    rcases h.2 with ⟨rfl, _⟩ | ⟨g, cap, cur, rfl, _⟩
    · cases hv
    · injection hv with hv; injection hv with hv; exact ⟨g, hv.symm⟩
  exact h.cells (g := g) (by rw [hv]; rfl) j u hu
theorem own_at {w : World} {e : TypeId} {v : Value} {n : Nat} {xs : List Value} (h : w.ownsRow 0 e 1 v n xs) {a : Option Addr} {c : Nat} (hv : v = .slice a n c) (h0 : 0 < n) : ∃ g, a = some ⟨g, 0, none⟩ ∧ v.ownBlock = some g := by
  rcases h.2 with ⟨rfl, rfl⟩ | ⟨g, cap, cur, rfl, _⟩
  · omega
  · injection hv with hv
    exact ⟨g, hv.symm, rfl⟩

theorem own_cell_size {w : World} {e : TypeId} {size : Nat} {v : Value} {n : Nat} {xs : List Value} (h : w.ownsRow 0 e size v n xs) {a : Addr} {c : Nat} (hv : v = .slice (some a) n c) (j : Nat) (u : Value) (hu : xs[j]? = some u) : w.cell? (a.add j) = some u := own_cell h hv j u hu
/-- The first elements of a slice that is owned. -/
theorem own_take {w : World} {base : Nat} {e : TypeId} {size : Nat} {a : Option Addr} {n c : Nat} {xs : List Value} (h : w.ownsRow base e size (.slice a n c) n xs) {m : Nat} (hm : m ≤ n) : w.ownsRow base e size (.slice a m c) m (xs.take (m * size)) := by
  obtain ⟨h0, h1⟩ := h
  have hle : m * size ≤ n * size := Nat.mul_le_mul_right _ hm
  refine ⟨by rw [List.length_take, h0]; omega, ?_⟩
  rcases h1 with ⟨h1, h2⟩ | ⟨g, cap, cur, h1, h2, h3, h4, h5, h6, h7⟩
  · injection h1 with e1 e2 e3
    subst e1 e3
    obtain rfl : m = 0 := by omega
    exact Or.inl ⟨rfl, rfl⟩
  · injection h1 with e1 e2 e3
    subst e1 e3
    refine Or.inr ⟨g, c, cur, rfl, h2, h3, by omega, h5, h6, ?_⟩
    rw [← h7, List.take_take]
    congr 1
    omega

section
variable {P : Program} (w : World)
theorem zeros_one (z : Value) (k : Nat) : (Builtin.zeroCells #[z] k).toList = List.replicate k z := by
  refine List.ext_getElem (by simp [Builtin.zeroCells]) fun i h1 h2 => ?_
  simp [Builtin.zeroCells, Nat.mod_one]
/-- 'append(s, make([]T, k)...)' onto a slice that is owned. -/
theorem run_append_zeros_own (base : Nat) (t tn ty e : TypeId) (i : TypeInfo) (z : Value) (bytes : Nat) (kq kn : IntKind) (ht : P.underlying t = some (.slice e)) (htn : P.underlying tn = some (.int kn)) (hi : P.info? e = some i) (hz : i.zero = some z)
    (hsize : i.size = 1) (hby : i.bytes = bytes) (hzc : z.cells = #[z]) (hz1 : z.oneCell' = true)
    (v : Value) (n : Nat) (xs : List Value) (hown : w.ownsRow base e 1 v n xs) (k : Nat) (h63 : n + k ≤ 4611686018427387904) (hbytes : (n + k) * bytes ≤ 140737488355328) (hbase : base ≤ w.heap.size) :
    ∃ v' w', (Builtin.append_ #[t, tn] ty #[v, .int kq k]).run P w = .ok v' w' ∧ w'.ownsRow base e 1 v' (n + k) (xs ++ List.replicate k z) ∧ w.grownBy w' v.ownBlock ∧ (v'.ownBlock = v.ownBlock ∨ v'.ownBlock = some w.heap.size) := by
  subst hby
  have hml : n + k ≤ maxLen := by unfold maxLen; omega
  have hlen : (xs ++ List.replicate k z).length = (n + k) * 1 := by rw [List.length_append, hown.1, List.length_replicate]; omega
  have hkb : k * i.bytes ≤ 140737488355328 := Nat.le_trans (Nat.mul_le_mul_right _ (Nat.le_add_left k n)) hbytes
  have hw : IntKind.i64.wrap (k : Int) = k := by rw [IntKind.wrap_i64]; omega
  have hneg : ¬ ((k : Int) < 0) := by omega
  have hw0 : IntKind.i64.wrap 0 = 0 := by decide
  have h48i : ¬ (281474976710656 < (k : Int) * (i.bytes : Int)) := by
    rw [← Int.natCast_mul]
    omega
  have grown : ∀ (old : Nat) (row : Option Nat),
      (w.drew.alloc (.cells (xs.toArray ++ Builtin.zeroCells #[z] k ++ Builtin.zeroCells #[z] (grownCap w (n + k) old e - (n + k))) e)).ownsRow base e 1
        (.slice (some ⟨w.heap.size, 0, none⟩) (n + k) (grownCap w (n + k) old e)) (n + k) (xs ++ List.replicate k z) ∧
      w.grownBy (w.drew.alloc (.cells (xs.toArray ++ Builtin.zeroCells #[z] k ++ Builtin.zeroCells #[z] (grownCap w (n + k) old e - (n + k))) e)) row := by
    intro old row
    have hge := grownCap_ge w (n + k) old e
    have hcm : grownCap w (n + k) old e ≤ maxLen := grownCap_le_maxLen w (n + k) old e hml
    refine ⟨⟨hlen, .inr ⟨w.heap.size, _, _, rfl, hbase, heap_alloc_new w.drew _, hge, hcm, ?_, ?_⟩⟩, ⟨rfl, rfl, rfl, by simp, fun k hk _ => Below.heap_alloc w.drew _ k hk⟩⟩
    · have := hown.1
      simp [size_zeroCells]
      omega
    · simp only [Array.toList_append, zeros_one, List.append_assoc]
      rw [← List.append_assoc, ← hlen]
      exact List.take_left
  rcases hown.2 with ⟨rfl, rfl⟩ | ⟨g, cap, cur, rfl, hbg, hg, hnc, hcm, hcs, htake⟩
  · have hx : xs = [] := List.eq_nil_of_length_eq_zero (by simpa using hown.1)
    subst hx
    by_cases hk : k = 0
    · subst hk
      refine ⟨.slice none 0 0, w, ?_, World.ownsRow_nil w base e 1, ⟨rfl, rfl, rfl, Nat.le_refl _, fun _ _ _ => rfl⟩, Or.inl rfl⟩
      simp [Builtin.append_, run_underlying ht, run_underlying htn, sizeOf, typeInfo, hi, asInt, asIntOf, hw0]
    · have hr := Lib.run_append_nil_zeros (P := P) w t tn ty e i z kq kn ht htn hi hz k (by omega) (by omega) (by omega) (by omega)
      have hgr := grown 0 (Value.ownBlock (.slice none 0 0))
      rw [hzc] at hr
      simp only [Nat.zero_add, List.nil_append, Array.empty_append] at hgr ⊢
      exact ⟨_, _, hr, hgr.1, hgr.2, Or.inr rfl⟩
  · by_cases hroom : n + k ≤ cap
    · have hst := run_storeCells_at P g (n * 1) e (List.replicate k z) 0 cur w hg (by simp; omega) (fun v hv => by rw [(List.mem_replicate.1 hv).2]; exact hz1)
      simp only [Nat.add_zero] at hst
      have hrun : (Builtin.append_ #[t, tn] ty #[.slice (some ⟨g, 0, none⟩) n cap, .int kq k]).run P w =
          .ok (.slice (some ⟨g, 0, none⟩) (n + k) cap) (w.setRow g (cur.toList.take (n * 1) ++ List.replicate k z ++ cur.toList.drop (n * 1 + (List.replicate k z).length)).toArray) := by
        by_cases hk : k = 0
        · subst hk
          simp at hst
          simp [Builtin.append_, run_underlying ht, run_underlying htn, sizeOf, typeInfo, zeroValue, hi, hz, asInt, asIntOf, hw0, hsize, hnc, Addr.add_lit, hst]
        · simp at hst
          simp [Builtin.append_, run_underlying ht, run_underlying htn, sizeOf, typeInfo, zeroValue, hi, hz, asInt, asIntOf, hw, hneg, h48i, hk, hsize, hroom, Addr.add_lit, hzc, zeros_one, hst]
      refine ⟨_, _, hrun, ⟨hlen, .inr ⟨g, cap, _, rfl, hbg, setRow_heap w g cur _ e _ hg, hroom, hcm, ?_, ?_⟩⟩, ⟨rfl, rfl, rfl, by simp, fun k _ hk => setRow_other w g k _ (fun e => hk (by simp [Value.ownBlock, e]))⟩, Or.inl rfl⟩
      · simp only [List.size_toArray, List.length_append, List.length_take, List.length_drop, Array.length_toList, List.length_replicate]
        omega
      · rw [htake, ← hlen]
        exact List.take_left
    · have holds : ∀ j u, xs[j]? = some u → w.cell? ((⟨g, 0, none⟩ : Addr).add j) = some u := hown.cells (g := g) rfl
      have hfo := run_firstCells_some (P := P) w.drew i.size n ⟨g, 0, none⟩ n cap xs (by rw [hown.1, hsize]) (by simpa using holds)
      have hr := Lib.run_append_grow_zeros (P := P) w t tn ty e i z kq kn ht htn hi hz (some ⟨g, 0, none⟩) n cap xs hfo k (by omega) (by omega) (by omega) (by omega) (by omega) (growslice_fits (by omega) hbytes)
      rw [hzc] at hr
      have hgr := grown cap (Value.ownBlock (.slice (some ⟨g, 0, none⟩) n cap))
      exact ⟨_, _, hr, hgr.1, hgr.2, Or.inr rfl⟩
end

section
variable {P : Program}
/-- 'append(s, t...)' onto a slice that is owned, t whatever (nil too). -/
theorem run_append_any_own (w : World) (base : Nat) (t ty e : TypeId) (i : TypeInfo) (z : Value) (size bytes : Nat) (ht : P.underlying t = some (.slice e)) (hi : P.info? e = some i) (hz : i.zero = some z)
    (hsize : i.size = size) (hby : i.bytes = bytes) (hzs : z.cells.size = size) (hsz : 0 < size)
    (v : Value) (n : Nat) (xs : List Value) (hown : w.ownsRow base e size v n xs)
    (A : Option Addr) (m c : Nat) (news : List Value) (hl : news.length = m * size) (hsrc : 0 < m → ∃ ad, A = some ad ∧ ∀ j u, news[j]? = some u → w.cell? (ad.add j) = some u) (h1 : ∀ u ∈ news, u.oneCell' = true)
    (h63 : n + m ≤ maxLen) (hbytes : (n + m) * bytes ≤ 140737488355328) (hbase : base ≤ w.heap.size) :
    ∃ v' w', (Builtin.append_ #[t, t] ty #[v, .slice A m c]).run P w = .ok v' w' ∧ w'.ownsRow base e size v' (n + m) (xs ++ news) ∧ w.grownBy w' v.ownBlock ∧ (v'.ownBlock = v.ownBlock ∨ v'.ownBlock = some w.heap.size) := by
  by_cases hm : m = 0
  · subst hm
    obtain rfl : news = [] := List.eq_nil_of_length_eq_zero (by simpa using hl)
    have hf : (Builtin.firstCells i.size 0 (.slice A 0 c)).run P w = .ok #[] w := by
      cases A <;> simp [Builtin.firstCells, loadCells, loadCellsFrom]
    refine ⟨v, w, ?_, by simpa using hown, ⟨rfl, rfl, rfl, Nat.le_refl _, fun _ _ _ => rfl⟩, Or.inl rfl⟩
    rcases hown.2 with ⟨rfl, rfl⟩ | ⟨g, cap, cur, rfl, hbg, hg, hnc, hcm, hcs, htake⟩
    · simp [Builtin.append_, run_underlying ht, sizeOf, typeInfo, hi, Builtin.lenOf, hf]
    · simp [Builtin.append_, run_underlying ht, sizeOf, typeInfo, hi, Builtin.lenOf, hf, hnc, storeCells]
  · obtain ⟨ad, rfl, hc⟩ := hsrc (by omega)
    obtain ⟨v', w', h2, h3, h4, _, h5⟩ := run_append_own_at (P := P) w base t ty e i z size bytes ht hi hz hsize hby hzs hsz v n xs hown ad m c news hl hc h1 h63 hbytes hbase
    exact ⟨v', w', h2, h3, h4, h5⟩

/-- 'copy(s[off:], t)' into a slice that is owned. -/
theorem wpList_copy_into {w : World} {ops : Array Oper} {rest : List Oper} {o : Oper} {a : Act} {Q : Exit → Act → World → Prop} (hgd : o.guard = none) (d s : Operand) (dT sT : TypeId)
    (ho : o.op = .call { callee := .builtin .copy, args := #[d, s], argTypes := #[dT, sT] }) (elem : TypeId) (hu : P.underlying dT = some (.slice elem)) (hsz : (P.info? elem).map (·.size) = some 1)
    (A : Option Addr) (dl dc : Nat) (sa : Option Addr) (sl sc : Nat) (hd : a.eval d = .slice A dl dc) (hs : a.eval s = .slice sa sl sc)
    (v : Value) (n : Nat) (xs : List Value) (hown : w.ownsRow 0 elem 1 v n xs) (off : Nat) (hdl : off + dl ≤ n) (hA : 0 < dl → ∃ g, v.ownBlock = some g ∧ A = some ⟨g, off, none⟩)
    (cs : List Value) (hn : cs.length = Nat.min sl dl) (hsrc : 0 < cs.length → ∃ ad, sa = some ad ∧ ∀ j u, cs[j]? = some u → w.cell? (ad.add j) = some u) (h1 : ∀ u ∈ cs, u.oneCell' = true)
    (h : ∀ w', w'.ownsRow 0 elem 1 v n (splice xs off cs) → w.grownBy w' v.ownBlock → w'.heap.size = w.heap.size → wpList P ops Q rest (a.put o.dst (goInt cs.length)) w') :
    wpList P ops Q (o :: rest) a w := by
  have hmin : Nat.min sl dl ≤ dl := Nat.min_le_right _ _
  by_cases h0 : cs.length = 0
  · obtain rfl : cs = [] := List.eq_nil_of_length_eq_zero h0
    refine wpList_copy_nothing hgd d s dT sT ho elem hu hsz A sa dl dc sl sc hd hs (by simpa using hn.symm) ?_
    exact h w (by simpa [splice] using hown) ⟨rfl, rfl, rfl, Nat.le_refl _, fun _ _ _ => rfl⟩ rfl
  · obtain ⟨g, hg, rfl⟩ := hA (by omega)
    obtain ⟨ad, rfl, hc⟩ := hsrc (by omega)
    rcases hown.2 with ⟨rfl, _⟩ | ⟨g', cap, cur, rfl, hbg, hgc, hnc, hcm, hcs, htake⟩
    · cases hg
    · obtain rfl : g' = g := by simpa [Value.ownBlock] using hg
      have hx : xs.length = n := by have := hown.1; omega
      refine wpList_copy_own hgd d s dT sT ho elem hu hsz g' off dl dc ad sl sc hd hs cur elem hgc cs hn hc (by omega) h1 ?_
      refine h _ ⟨?_, Or.inr ⟨g', cap, _, rfl, Nat.zero_le _, setRow_heap w g' cur _ elem _ hgc, hnc, hcm, ?_, ?_⟩⟩ ⟨rfl, rfl, rfl, by simp, fun k _ hk => setRow_other w g' k _ (fun e => hk (by simp [Value.ownBlock, e]))⟩ (by simp)
      · rw [length_splice _ _ _ (by omega)]; omega
      · simp; omega
      · clear hx
        subst htake
        have hx : (cur.toList.take (n * 1)).length = n := by simp; omega
        simp only [splice, Nat.mul_one]
        rw [List.take_append, List.take_append, List.take_of_length_le (by simp; omega), List.take_of_length_le (l := cs) (by simp; omega), List.take_take, List.take_drop]
        simp only [List.length_take, Array.length_toList]
        congr 1
        · rw [Nat.min_eq_left (by omega)]
        · rw [List.drop_take]
          congr 2
          rw [List.drop_take]
          congr 1
          omega
end

def bytesV (b : List UInt8) : List Value := b.map fun x => .int .u8 x.toNat
theorem bytesV_length (b : List UInt8) : (bytesV b).length = b.length := by simp [bytesV]
theorem bytesV_one (b : List UInt8) : ∀ u ∈ bytesV b, u.oneCell' = true := by
  intro u hu
  obtain ⟨x, _, rfl⟩ := List.mem_map.1 hu
  rfl
theorem bytesV_get {b : List UInt8} {j : Nat} (h : j < b.length) : (bytesV b)[j]? = some (.int .u8 (bt b j).toNat) := by
  simp [bytesV, List.getElem?_eq_getElem h, bt_lt h]
theorem bytesV_app (a b : List UInt8) : bytesV (a ++ b) = bytesV a ++ bytesV b := by simp [bytesV]
theorem bytesV_zero (k : Nat) : bytesV (List.replicate k 0) = List.replicate k (.int .u8 0) := by simp [bytesV]
theorem bytesV_take (b : List UInt8) (k : Nat) : bytesV (b.take k) = (bytesV b).take k := by simp [bytesV]
theorem bytesV_drop (b : List UInt8) (k : Nat) : bytesV (b.drop k) = (bytesV b).drop k := by simp [bytesV]
end Go.Proofs.YtljgfnglknpfaaaGreatDoor

namespace Go.Proofs.YtljgfnglknpfaaaGreatDoor
set_option maxRecDepth 100000
open Go Go.RowKit Dk

/-- A slice of bytes that is read. -/
def SrcAt (w : World) (sv : Value) (S : List UInt8) : Prop :=
  ∃ a c, sv = .slice a S.length c ∧ S.length ≤ c ∧ (S ≠ [] → ∃ b off, a = some ⟨b, off, none⟩ ∧ ∀ j u, (bytesV S)[j]? = some u → w.cell? ⟨b, off + j, none⟩ = some u)
theorem infoU8 : (Tryz.prog.info? 5).map (fun i => (i.zero, i.size, i.bytes)) = some (some (.int .u8 0), 1, 1) := by kernel_rfl
theorem sizeU8 : (Tryz.prog.info? 5).map (·.size) = some 1 := by kernel_rfl
theorem elemB : Tryz.prog.elem 47 = 5 := by kernel_rfl

set_option maxRecDepth 100000 in
/-- 's[k:]' of a slice of bytes. -/
theorem slice_from (a : Option Addr) (n c k : Nat) (h : k ≤ n) : ∃ A, (∀ wx : World, (Instr.slice 47 (.slice a n c) (some (.int .i64 (k : Int))) none none).run Tryz.prog wx = .ok (.slice A (n - k) (c - k)) wx) ∧ (k < c → A = a.map (·.add k)) ∧ (c = k → A = a) := by
  refine ⟨if c = k then a else a.map (·.add (k * 1)), fun wx => ?_, fun h => by simp [show c ≠ k by omega], fun h => by simp [h]⟩
  have hs := run_slice_l (P := Tryz.prog) wx 47 a n c Tryz.underlying47 .i64 k (by omega) (by omega)
  rw [hs]
  obtain ⟨i0, hi, hz0, hz1, hz2⟩ := info_parts infoU8
  have hz : ((sizeOf (Tryz.prog.elem 47)).run Tryz.prog wx) = .ok 1 wx := by rw [elemB]; simp [sizeOf, typeInfo, hi, hz1]
  rw [hz]
  simp [Result.andThen, sliced]
set_option maxRecDepth 100000 in
/-- 's[l:h]' of a slice of bytes. -/
theorem slice_both (a : Option Addr) (n c l h : Nat) (h1 : l ≤ h) (h2 : h ≤ c) : ∃ A, (∀ wx : World, (Instr.slice 47 (.slice a n c) (some (.int .i64 (l : Int))) (some (.int .i64 (h : Int))) none).run Tryz.prog wx = .ok (.slice A (h - l) (c - l)) wx) ∧ (l < c → A = a.map (·.add l)) := by
  refine ⟨if c = l then a else a.map (·.add (l * 1)), fun wx => ?_, fun h => by simp [show c ≠ l by omega]⟩
  have hs := run_slice_lh (P := Tryz.prog) wx 47 a n c Tryz.underlying47 .i64 .i64 l h (by omega) (by omega) (by omega)
  rw [hs]
  obtain ⟨i0, hi, hz0, hz1, hz2⟩ := info_parts infoU8
  have hz : ((sizeOf (Tryz.prog.elem 47)).run Tryz.prog wx) = .ok 1 wx := by rw [elemB]; simp [sizeOf, typeInfo, hi, hz1]
  rw [hz]
  simp [Result.andThen, sliced]
set_option maxRecDepth 100000 in
/-- 's[:h]' of a slice of bytes. -/
theorem slice_to (a : Option Addr) (n c h : Nat) (h2 : h ≤ c) (wx : World) : (Instr.slice 47 (.slice a n c) none (some (.int .i64 (h : Int))) none).run Tryz.prog wx = .ok (.slice a h c) wx := by
  have hs := run_slice_h (P := Tryz.prog) wx 47 a n c Tryz.underlying47 .i64 h (by omega) (by omega)
  rw [hs]
  obtain ⟨i0, hi, hz0, hz1, hz2⟩ := info_parts infoU8
  have hz : ((sizeOf (Tryz.prog.elem 47)).run Tryz.prog wx) = .ok 1 wx := by rw [elemB]; simp [sizeOf, typeInfo, hi, hz1]
  rw [hz]
  cases a <;> simp [Result.andThen, sliced, Addr.add]

theorem splice_put (B S : List UInt8) (at' m : Nat) (hm : m = Nat.min S.length (B.length + (at' - B.length) - at')) :
    splice (B ++ List.replicate (at' - B.length) 0) at' (S.take m) ++ S.drop m = put B at' S := by
  have hm' : m = min S.length (B.length + (at' - B.length) - at') := hm
  refine bt_ext ?_ fun i hi => ?_
  · rw [List.length_append, length_splice _ _ _ (by simp; omega), put_length]
    simp; omega
  · have hl : (splice (B ++ List.replicate (at' - B.length) 0) at' (S.take m)).length = B.length + (at' - B.length) := by rw [length_splice _ _ _ (by simp; omega)]; simp
    rw [bt_append, hl, put_bt]
    have ht : (List.take at' (B ++ List.replicate (at' - B.length) 0)).length = at' := by simp; omega
    have htm : (S.take m).length = m := by simp; omega
    have hb : ∀ j, bt (B ++ List.replicate (at' - B.length) 0) j = bt B j := fun j => by
      rw [bt_append, bt_replicate]
      split
      · rfl
      · exact (bt_ge (by omega)).symm
    unfold splice
    rw [bt_append, ht, bt_append, htm, bt_take, bt_take, bt_drop, bt_drop, hb, hb]
    by_cases h1 : i < at'
    · rw [if_pos (by omega), if_pos h1, if_pos h1, if_neg (by omega)]
    · rw [if_neg h1]
      by_cases h2 : i - at' < m
      · rw [if_pos (by omega), if_pos h2, if_pos h2, if_pos (by omega)]
      · rw [if_neg h2]
        by_cases h3 : i < B.length + (at' - B.length)
        · rw [if_pos h3, if_neg (by omega)]
          congr 1; omega
        · rw [if_neg h3]
          by_cases h4 : i < at' + S.length
          · rw [if_pos (by omega)]
            congr 1; omega
          · rw [if_neg (by omega), bt_ge (by omega), bt_ge (by omega)]

theorem put_c (B S : List UInt8) (v sv : Value) (at' : Nat) (w : World) (hv : w.ownsRow 0 5 1 v B.length (bytesV B)) (hs : SrcAt w sv S) (hap : ∀ b off c, sv = .slice (some ⟨b, off, none⟩) S.length c → v.ownBlock ≠ some b)
    (hB : B.length ≤ 16777216) (hS : at' + S.length ≤ 16777216) :
    Calls Tryz.prog 51 #[v, .int .i64 at', sv] w fun e w' => ∃ v', e = .returned v' ∧ w'.ownsRow 0 5 1 v' (put B at' S).length (bytesV (put B at' S)) ∧ w.grownBy w' v.ownBlock ∧ (v'.ownBlock = v.ownBlock ∨ ∃ k, v'.ownBlock = some k ∧ w.heap.size ≤ k) := by
  obtain ⟨i0, hi, hz0, hz1, hz2⟩ := info_parts infoU8
  obtain ⟨va, vc, rfl, hvc, _, hvn⟩ := own_shape hv
  obtain ⟨sa, sc, rfl, hsc, hsr⟩ := hs
  obtain ⟨k, hk⟩ : ∃ k, k = at' - B.length := ⟨_, rfl⟩
  obtain ⟨v1, w1, hr, hown1, hgr1, hbl1⟩ := run_append_zeros_own (P := Tryz.prog) w 0 47 3 47 5 i0 (.int .u8 0) 1 .i64 .i64 Tryz.underlying47 Tryz.underlying3 hi hz0 hz1 hz2 rfl rfl _ _ _ hv k (by omega) (by omega) (Nat.zero_le _)
  rw [← bytesV_zero, ← bytesV_app] at hown1
  obtain ⟨n1, hn1⟩ : ∃ n1, n1 = B.length + k := ⟨_, rfl⟩
  rw [← hn1] at hown1
  obtain ⟨a1, c1, rfl, hc1, _, hno1⟩ := own_shape hown1
  obtain ⟨A, hA, hA1, hA2⟩ := slice_from a1 n1 c1 at' (by omega)
  obtain ⟨m, hm⟩ : ∃ m, m = Nat.min S.length (n1 - at') := ⟨_, rfl⟩
  have hm' : m = min S.length (n1 - at') := hm
  obtain ⟨A2, hS1, hS2, hS3⟩ := slice_from sa S.length sc m (by omega)
  have hmax : (if (at' : Int) - (B.length : Int) < 0 then (0 : Int) else (at' : Int) - (B.length : Int)) = (k : Int) := by split <;> omega
  have HV := Lib.hid hv
  have HAP := Lib.hid hap
  have HSR := Lib.hid hsr
  have HVN := Lib.hid hvn
  have HO1 := Lib.hid hown1
  have HG1 := Lib.hid hgr1
  have HB1 := Lib.hid hbl1
  have HN1 := Lib.hid hno1
  have HR := Lib.hid hr
  have HK := Lib.hid hk
  have HN := Lib.hid hn1
  have HM := Lib.hid hm
  have HM' := Lib.hid hm'
  have HA1 := Lib.hid hA1
  have HA2 := Lib.hid hA2
  have HS2 := Lib.hid hS2
  have HS3 := Lib.hid hS3
  clear hv hap hsr hvn hown1 hgr1 hbl1 hno1 hr hk hn1 hm hm' hA1 hA2 hS2 hS3
  go_enter Tryz.func51, Tryz.ntmps51
  go_wp2_with (first
    | (at_builtin; refine Lib.wpList_append_run _ rfl _ _ _ _ rfl _ _ rfl rfl (.slice a1 n1 c1) w1 HR.out ?_)
    | ((with_reducible show wpList _ _ _ (Oper.mk _ (Op.call { callee := Callee.builtin Builtin.copy, args := _, argTypes := _ }) _ _ _ _ :: _) _ _); refine wpList_copy_into (w := w1) (v := .slice a1 n1 c1) (n := n1) (xs := bytesV (B ++ List.replicate k 0)) rfl (.tmp 17) (.tmp 18) 47 47 rfl 5 Tryz.underlying47 sizeU8 A (n1 - at') (c1 - at') sa S.length sc rfl rfl (hown := HO1.out) at' ?q1 ?q2 (bytesV (S.take m)) ?q3 ?q4 (bytesV_one _) ?_))
  case q1 => have := HK.out; have := HN.out; omega
  case q2 =>
    intro h0
    obtain ⟨g, rfl, hg⟩ := own_at HO1.out rfl (by omega)
    exact ⟨g, hg, by rw [HA1.out (by omega)]; simp [Addr.add_lit]⟩
  case q3 => rw [bytesV_length, List.length_take]; have := HM'.out; show min m S.length = min S.length (n1 - at'); omega
  case q4 =>
    intro h0
    rw [bytesV_length, List.length_take] at h0
    obtain ⟨b, off, rfl, hc⟩ := HSR.out (by intro e; rw [e] at h0; simp at h0)
    refine ⟨_, rfl, fun j u hu => ?_⟩
    rw [bytesV_take, List.getElem?_take] at hu
    split at hu
    · have := hc j u hu
      rw [Lib.add_plain]
      exact HG1.out.cell this (HAP.out b off sc rfl).symm
    · cases hu
  have hml : ((bytesV (S.take m)).length : Int) = (m : Int) := by
    have := HM'.out
    rw [bytesV_length, List.length_take]
    omega
  have HML := Lib.hid hml
  clear hml
  intro w2 hown2 hgr2 hsz2
  have HO2 := Lib.hid hown2
  have HG2 := Lib.hid hgr2
  have HZ2 := Lib.hid hsz2
  clear hown2 hgr2 hsz2
  rw [HML.out]
  obtain ⟨v3, w3, hr3, hown3, hgr3, hbl3⟩ := run_append_any_own (P := Tryz.prog) w2 0 47 47 5 i0 (.int .u8 0) 1 1 Tryz.underlying47 hi hz0 hz1 hz2 rfl (by decide) _ _ _ HO2.out A2 (S.length - m) (sc - m) (bytesV (S.drop m)) (by rw [bytesV_length, List.length_drop]; omega) (by
    intro h0
    obtain ⟨b, off, e, hc⟩ := HSR.out (by intro e; rw [e] at h0; simp at h0)
    have hA := HS2.out (by omega)
    rw [e] at hA
    refine ⟨_, hA, fun j u hu => ?_⟩
    rw [bytesV_drop, List.getElem?_drop] at hu
    have h1 := hc _ u hu
    have h2 := HG1.out.cell h1 (HAP.out b off sc (by rw [e])).symm
    show w2.cell? (((⟨b, off, none⟩ : Addr).add m).add j) = some u
    rw [Lib.add_plain, Lib.add_plain, Nat.add_assoc]
    refine HG2.out.cell h2 ?_
    intro e3
    rcases HB1.out with e4 | e4
    · rw [e4] at e3; exact HAP.out b off sc (by rw [e]) e3.symm
    · rw [e4] at e3
      have e5 : b = w.heap.size := by simpa using e3
      have := World.block_lt_of_cell? w _ h1
      simp at this
      omega) (bytesV_one _) (by have := HM'.out; have := HN.out; have := HK.out; unfold maxLen; omega) (by have := HM'.out; have := HN.out; have := HK.out; omega) (Nat.zero_le _)
  have HR3 := Lib.hid hr3
  have HO3 := Lib.hid hown3
  have HG3 := Lib.hid hgr3
  have HB3 := Lib.hid hbl3
  clear hr3 hown3 hgr3 hbl3
  go_wp2_with (at_builtin; refine Lib.wpList_append_run _ rfl _ _ _ _ rfl _ _ rfl rfl v3 w3 HR3.out ?_)
  go_ret
  have hn' : (put B at' S).length = n1 + (S.length - m) := by
    have := HM'.out; have := HN.out; have := HK.out
    rw [put_length]; omega
  have hb' : bytesV (put B at' S) = splice (bytesV (B ++ List.replicate k 0)) at' (bytesV (S.take m)) ++ bytesV (S.drop m) := by
    rw [← splice_put B S at' m (by rw [HM.out, HN.out, HK.out]), ← HK.out]
    simp [splice, bytesV, List.map_take, List.map_drop]
  refine ⟨v3, rfl, by rw [hn', hb']; exact HO3.out, ?_, ?_⟩
  · refine ⟨HG3.out.os.trans (HG2.out.os.trans HG1.out.os), HG3.out.tape.trans (HG2.out.tape.trans HG1.out.tape), HG3.out.output.trans (HG2.out.output.trans HG1.out.output), Nat.le_trans HG1.out.size (Nat.le_trans HG2.out.size HG3.out.size), fun i hi hne => ?_⟩
    have hi1 : i < w1.heap.size := Nat.lt_of_lt_of_le hi HG1.out.size
    have hi2 : i < w2.heap.size := Nat.lt_of_lt_of_le hi1 HG2.out.size
    have hne1 : some i ≠ (Value.slice a1 n1 c1).ownBlock := by
      rcases HB1.out with e | e
      · rw [e]; exact hne
      · rw [e]; intro e'; injection e' with e'; omega
    rw [HG3.out.block i hi2 hne1, HG2.out.block i hi1 hne1, HG1.out.block i hi hne]
  · have hsz1 := HG1.out.size
    have hsz2 := HZ2.out
    rcases HB3.out with e | e
    · rw [e]
      rcases HB1.out with e1 | e1
      · exact Or.inl e1
      · exact Or.inr ⟨_, e1, Nat.le_refl _⟩
    · exact Or.inr ⟨_, e, by omega⟩
end Go.Proofs.YtljgfnglknpfaaaGreatDoor
