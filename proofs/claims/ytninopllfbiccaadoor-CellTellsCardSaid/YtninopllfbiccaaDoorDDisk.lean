/-
  A disk in a heap: sixteen files, the list of pending sectors, a schedule: each in memory of its own.
-/
import Derived.Test.YtninopllfbiccaaDoorDClone
namespace Go.Proofs.YtninopllfbiccaaDoor
set_option maxRecDepth 100000
open Go Go.RowKit Go.Maps Dk

/-- How an element of the map of files reads: the number of the block it points to. -/
def ptrElem (v : Value) : Option (DataW Unit × List MemPlace) :=
  match v with
  | .pointer (some ⟨b, 0, none⟩) => some (.lit (.int .i64 (b : Int)), [])
  | .pointer none => some (.nil, [])
  | _ => none
theorem ptrElem_mk (b : Nat) : ptrElem (.pointer (some ⟨b, 0, none⟩)) = some (.lit (.int .i64 (b : Int)), []) := rfl
theorem ptrElem_inv {v : Value} {b : Nat} {ps : List MemPlace} (h : ptrElem v = some (.lit (.int .i64 (b : Int)), ps)) : v = .pointer (some ⟨b, 0, none⟩) := by
  unfold ptrElem at h
  split at h
  · next c =>
    simp only [Option.some.injEq, Prod.mk.injEq, DataW.lit.injEq, Lit.int.injEq] at h
    have : c = b := by omega
    rw [this]
  · simp at h
  · cases h

/-- The map of files: file i at block blk i. -/
def FilesAt (w : World) (b : Nat) (blk : Nat → Nat) : Prop :=
  ∃ D : DataW Unit, w.ownsMap Tryd.prog 3 ptrElem b 16 D ∧ (∀ kl, Maps.has D kl = true → ∃ i : Nat, i < 16 ∧ kl = .int .i64 i) ∧
    ∀ i : Nat, i < 16 → Maps.has D (.int .i64 i) = true ∧ ∀ z, D.atKey (.int .i64 i) z = .lit (.int .i64 (blk i : Int))
theorem FilesAt.kept {w w' : World} {S : Nat → Prop} {b : Nat} {blk : Nat → Nat} (h : FilesAt w b blk) (hk : Kept S w w') (hn : ¬ S b) : FilesAt w' b blk := by
  obtain ⟨D, h1, h2⟩ := h
  exact ⟨D, ownsMap_kept h1 hk hn, h2⟩
theorem FilesAt.lt {w : World} {b : Nat} {blk : Nat → Nat} (h : FilesAt w b blk) : b < w.heap.size := by
  obtain ⟨D, h1, _⟩ := h
  exact h1.lt
theorem zeroPtr (w : World) : (zeroValue 61).run Tryd.prog w = .ok (.pointer none) w := by kernel_rfl
/-- 'v, ok := m[f]' -/
theorem FilesAt.look2 {w : World} {b : Nat} {blk : Nat → Nat} (h : FilesAt w b blk) (f : Int) (hf : -9223372036854775808 ≤ f ∧ f ≤ 9223372036854775807) :
    (Instr.lookup 57 (.map (some b)) (.int .i64 f) true).run Tryd.prog w = .ok (if ok f then .tuple #[.pointer (some ⟨blk f.toNat, 0, none⟩), .bool true] else .tuple #[.pointer none, .bool false]) w := by
  obtain ⟨D, ⟨es, clock, hb, F, hs, rfl⟩, h2, h3⟩ := h
  rcases Maps.fit_look true lawI Tryd.underlying57 (zeroPtr w) hb F (keyI hf) with ⟨hrun, hne, hat⟩ | ⟨e0, y, hm, hk0, hrun, hRv, hat, _⟩
  · rw [hrun]
    have : ok f = false := by
      cases ho : ok f with
      | false => rfl
      | true =>
        exfalso
        simp only [ok, decide_eq_true_eq] at ho
        obtain ⟨h4, h5⟩ := h3 f.toNat (by omega)
        have e := h5 .nil
        rw [show ((f.toNat : Nat) : Int) = f by omega, hat .nil] at e
        cases e
    rw [this]; rfl
  · rw [hrun]
    have hhas := Maps.has_true_of_atKey hat
    obtain ⟨i, hi, e⟩ := h2 _ hhas
    injection e with _ e
    subst e
    have ho : ok (i : Int) = true := by simp [ok]; omega
    rw [ho]
    have e1 := (h3 i hi).2 .nil
    rw [hat .nil] at e1
    obtain ⟨y1, y2⟩ := y
    simp only at e1
    subst e1
    rw [ptrElem_inv hRv]
    simp
/-- 'm[f]' -/
theorem FilesAt.look1 {w : World} {b : Nat} {blk : Nat → Nat} (h : FilesAt w b blk) (i : Nat) (hi : i < 16) :
    (Instr.lookup 57 (.map (some b)) (.int .i64 (i : Int)) false).run Tryd.prog w = .ok (.pointer (some ⟨blk i, 0, none⟩)) w := by
  obtain ⟨D, ⟨es, clock, hb, F, hs, rfl⟩, h2, h3⟩ := h
  rcases Maps.fit_look false lawI Tryd.underlying57 (zeroPtr w) hb F (keyI (n := (i : Int)) (by omega)) with ⟨hrun, hne, hat⟩ | ⟨e0, y, hm, hk0, hrun, hRv, hat, _⟩
  · exfalso
    have e := (h3 i hi).2 .nil
    rw [hat .nil] at e
    cases e
  · rw [hrun]
    have e1 := (h3 i hi).2 .nil
    rw [hat .nil] at e1
    obtain ⟨y1, y2⟩ := y
    simp only at e1
    subst e1
    rw [ptrElem_inv hRv]
    simp

def secsV (q : List (Nat × Nat)) : List Value := q.flatMap fun p => [.int .i64 (p.1 : Int), .int .i64 (p.2 : Int)]
def intsV (l : List Int) : List Value := l.map fun n => .int .i64 n
theorem secsV_length (q : List (Nat × Nat)) : (secsV q).length = q.length * 2 := by
  induction q with
  | nil => rfl
  | cons p q ih =>
    have e : secsV (p :: q) = [Value.int .i64 (p.1 : Int), .int .i64 (p.2 : Int)] ++ secsV q := by simp [secsV]
    rw [e, List.length_append, ih]
    simp; omega

/-- A file, and which blocks it may hold. -/
def FileIn (w : World) (p : Nat) (S : Nat → Prop) (f : F) : Prop := ∃ nv dv mb, FileAt w p nv dv mb f ∧ ∀ k, InF p nv dv mb k → S k

/-- The parts of a disk: its own block, the block of the map of files, the blocks of its files, its list of pending sectors, its schedule. -/
structure DiskAt (w : World) (d bm : Nat) (blk : Nat → Nat) (own : Nat → Nat → Prop) (qv kv : Value) (D : D) : Prop where
  cell : w.heap[d]? = some (.cells #[.map (some bm), qv, .bool D.down, .int .i64 (D.lost : Int), .int .i64 (D.left : Int), kv] 60 (0, 0))
  files : FilesAt w bm blk
  queue : w.ownsRow 0 84 2 qv D.queue.length (secsV D.queue)
  keep : w.ownsRow 0 3 1 kv D.keep.length (intsV D.keep)
  file : ∀ i, i < 16 → FileIn w (blk i) (own i) (D.file i)
  inv : D.Inv
  lost : (D.lost : Int) ≤ 9223372036854775807
  left : (D.left : Int) ≤ 9223372036854775807
  keepIn : ∀ k ∈ D.keep, -9223372036854775808 ≤ k ∧ k ≤ 9223372036854775807
  keepLen : D.keep.length ≤ 4398046511104
  ownLt : ∀ i, i < 16 → ∀ k, own i k → k < w.heap.size
  ownNe : ∀ i, i < 16 → ∀ k, own i k → k ≠ d ∧ k ≠ bm ∧ qv.ownBlock ≠ some k ∧ kv.ownBlock ≠ some k
  ownOne : ∀ i j, i < 16 → j < 16 → i ≠ j → ∀ k, own i k → ¬ own j k
  apart : d ≠ bm ∧ qv.ownBlock ≠ some d ∧ qv.ownBlock ≠ some bm ∧ kv.ownBlock ≠ some d ∧ kv.ownBlock ≠ some bm ∧ ∀ k, qv.ownBlock = some k → kv.ownBlock ≠ some k

def InD (d bm : Nat) (own : Nat → Nat → Prop) (qv kv : Value) (k : Nat) : Prop := k = d ∨ k = bm ∨ qv.ownBlock = some k ∨ kv.ownBlock = some k ∨ ∃ i, i < 16 ∧ own i k
/-- A disk that holds blocks of S alone. -/
def DiskIn (w : World) (d : Nat) (S : Nat → Prop) (D : D) : Prop := ∃ bm blk own qv kv, DiskAt w d bm blk own qv kv D ∧ ∀ k, InD d bm own qv kv k → S k

theorem FileIn.kept {w w' : World} {S T : Nat → Prop} {p : Nat} {f : F} (h : FileIn w p S f) (hk : Kept T w w') (hn : ∀ k, S k → ¬ T k) : FileIn w' p S f := by
  obtain ⟨nv, dv, mb, h1, h2⟩ := h
  exact ⟨nv, dv, mb, h1.kept hk (fun k hin => hn k (h2 k hin)), h2⟩
theorem FileIn.mono {w : World} {S T : Nat → Prop} {p : Nat} {f : F} (h : FileIn w p S f) (hs : ∀ k, k < w.heap.size → S k → T k) : FileIn w p T f := by
  obtain ⟨nv, dv, mb, h1, h2⟩ := h
  exact ⟨nv, dv, mb, h1, fun k hin => hs k (h1.lt hin) (h2 k hin)⟩
theorem DiskAt.lt {w : World} {d bm : Nat} {blk : Nat → Nat} {own : Nat → Nat → Prop} {qv kv : Value} {D : D} (h : DiskAt w d bm blk own qv kv D) {k : Nat} (hk : InD d bm own qv kv k) : k < w.heap.size := by
  rcases hk with rfl | rfl | hk | hk | ⟨i, hi, hk⟩
  · exact (Array.getElem?_eq_some_iff.1 h.cell).1
  · exact h.files.lt
  · exact own_lt h.queue hk
  · exact own_lt h.keep hk
  · exact h.ownLt i hi k hk
theorem DiskAt.kept {w w' : World} {T : Nat → Prop} {d bm : Nat} {blk : Nat → Nat} {own : Nat → Nat → Prop} {qv kv : Value} {D : D} (h : DiskAt w d bm blk own qv kv D) (hk : Kept T w w') (hn : ∀ k, InD d bm own qv kv k → ¬ T k) : DiskAt w' d bm blk own qv kv D :=
  { cell := hk.heap h.cell (hn d (Or.inl rfl))
    files := h.files.kept hk (hn bm (Or.inr (Or.inl rfl)))
    queue := own_kept h.queue hk (fun k e => hn k (Or.inr (Or.inr (Or.inl e))))
    keep := own_kept h.keep hk (fun k e => hn k (Or.inr (Or.inr (Or.inr (Or.inl e)))))
    file := fun i hi => (h.file i hi).kept hk (fun k ho => hn k (Or.inr (Or.inr (Or.inr (Or.inr ⟨i, hi, ho⟩)))))
    inv := h.inv, lost := h.lost, left := h.left, keepIn := h.keepIn, keepLen := h.keepLen
    ownLt := fun i hi k ho => Nat.lt_of_lt_of_le (h.ownLt i hi k ho) hk.size
    ownNe := h.ownNe, ownOne := h.ownOne, apart := h.apart }
theorem DiskIn.kept {w w' : World} {S T : Nat → Prop} {d : Nat} {D : D} (h : DiskIn w d S D) (hk : Kept T w w') (hn : ∀ k, S k → ¬ T k) : DiskIn w' d S D := by
  obtain ⟨bm, blk, own, qv, kv, h1, h2⟩ := h
  exact ⟨bm, blk, own, qv, kv, h1.kept hk (fun k hin => hn k (h2 k hin)), h2⟩
theorem DiskIn.mono {w : World} {S T : Nat → Prop} {d : Nat} {D : D} (h : DiskIn w d S D) (hs : ∀ k, k < w.heap.size → S k → T k) : DiskIn w d T D := by
  obtain ⟨bm, blk, own, qv, kv, h1, h2⟩ := h
  exact ⟨bm, blk, own, qv, kv, h1, fun k hin => hs k (h1.lt hin) (h2 k hin)⟩
theorem DiskAt.cellOf {w : World} {d bm : Nat} {blk : Nat → Nat} {own : Nat → Nat → Prop} {qv kv : Value} {D : D} (h : DiskAt w d bm blk own qv kv D) (o : Nat) (v : Value)
    (hv : (#[.map (some bm), qv, .bool D.down, .int .i64 (D.lost : Int), .int .i64 (D.left : Int), kv] : Array Value)[o]? = some v) : w.cell? ⟨d, o, none⟩ = some v := by
  rw [Lib.cell_of_heap h.cell]; exact hv
theorem DiskAt.z {w : World} {d bm : Nat} {blk : Nat → Nat} {own : Nat → Nat → Prop} {qv kv : Value} {D : D} (h : DiskAt w d bm blk own qv kv D) (o : Nat) : w.frozen? ⟨d, o, none⟩ = false := Lib.frozen_of_heap h.cell o
theorem DiskAt.c0 {w : World} {d bm : Nat} {blk : Nat → Nat} {own : Nat → Nat → Prop} {qv kv : Value} {D : D} (h : DiskAt w d bm blk own qv kv D) : w.cell? ⟨d, 0, none⟩ = some (.map (some bm)) := h.cellOf 0 _ rfl
theorem DiskAt.c1 {w : World} {d bm : Nat} {blk : Nat → Nat} {own : Nat → Nat → Prop} {qv kv : Value} {D : D} (h : DiskAt w d bm blk own qv kv D) : w.cell? ⟨d, 1, none⟩ = some (qv) := h.cellOf 1 _ rfl
theorem DiskAt.c2 {w : World} {d bm : Nat} {blk : Nat → Nat} {own : Nat → Nat → Prop} {qv kv : Value} {D : D} (h : DiskAt w d bm blk own qv kv D) : w.cell? ⟨d, 2, none⟩ = some (.bool D.down) := h.cellOf 2 _ rfl
theorem DiskAt.c3 {w : World} {d bm : Nat} {blk : Nat → Nat} {own : Nat → Nat → Prop} {qv kv : Value} {D : D} (h : DiskAt w d bm blk own qv kv D) : w.cell? ⟨d, 3, none⟩ = some (.int .i64 (D.lost : Int)) := h.cellOf 3 _ rfl
theorem DiskAt.c4 {w : World} {d bm : Nat} {blk : Nat → Nat} {own : Nat → Nat → Prop} {qv kv : Value} {D : D} (h : DiskAt w d bm blk own qv kv D) : w.cell? ⟨d, 4, none⟩ = some (.int .i64 (D.left : Int)) := h.cellOf 4 _ rfl
theorem DiskAt.c5 {w : World} {d bm : Nat} {blk : Nat → Nat} {own : Nat → Nat → Prop} {qv kv : Value} {D : D} (h : DiskAt w d bm blk own qv kv D) : w.cell? ⟨d, 5, none⟩ = some (kv) := h.cellOf 5 _ rfl
end Go.Proofs.YtninopllfbiccaaDoor
