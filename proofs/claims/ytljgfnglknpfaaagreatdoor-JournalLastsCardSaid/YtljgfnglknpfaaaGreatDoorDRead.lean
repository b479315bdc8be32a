/-
  A disk in a heap: sixteen files, the list of pending sectors, a schedule: each in memory of its own.
  disk's methods that read: Down, Size, Read; and those that set one cell: Start, Lose.
  disk's files together; and the schedule of a crash.
  disk.Crash.
  disk's schedule: a call is counted, and the scheduled crash comes with it.
  The pending sectors of one file deleted from the list of all: slices.IndexFunc, slices.DeleteFunc with the predicate of disk.settle.
  slices.DeleteFunc with the predicate of disk.settle.
  disk.settle: a file made durable, and none of its sectors pending any more.
-/
import Derived.Test.YtljgfnglknpfaaaGreatDoorDClone
namespace Go.Proofs.YtljgfnglknpfaaaGreatDoor
set_option maxRecDepth 100000
open Go Go.RowKit Go.Maps Dk

/-- How an element of the map of files reads: the number of the block it points to. -/
def ptrElem (v : Value) : Option (DataW Unit × List MemPlace) :=
  match v with
  | .pointer (some ⟨b, 0, none⟩) => some (.lit (.int .i64 (b : Int)), [])
  | .pointer none => some (.nil, [])
  | _ => none
theorem ptrElem_mk (b : Nat) : ptrElem (.pointer (some ⟨b, 0, none⟩)) = some (.lit (.int .i64 (b : Int)), []) := rfl
theorem ptrElem_inv {v : Value} {b : Nat} {ps : List MemPlace} (h : ptrElem v = some (.lit (.int .i64 (b : Int)), ps)) : v = .pointer (some ⟨b, 0, none⟩) := by
  unfold ptrElem at h
  split at h
  · next c =>
    simp only [Option.some.injEq, Prod.mk.injEq, DataW.lit.injEq, Lit.int.injEq] at h
    have : c = b := by omega
    rw [this]
  · simp at h
  · cases h

/-- The map of files: file i at block blk i. -/
def FilesAt (w : World) (b : Nat) (blk : Nat → Nat) : Prop :=
  ∃ D : DataW Unit, w.ownsMap Tryz.prog 3 ptrElem b 16 D ∧ (∀ kl, Maps.has D kl = true → ∃ i : Nat, i < 16 ∧ kl = .int .i64 i) ∧
    ∀ i : Nat, i < 16 → Maps.has D (.int .i64 i) = true ∧ ∀ z, D.atKey (.int .i64 i) z = .lit (.int .i64 (blk i : Int))
theorem FilesAt.kept {w w' : World} {S : Nat → Prop} {b : Nat} {blk : Nat → Nat} (h : FilesAt w b blk) (hk : Kept S w w') (hn : ¬ S b) : FilesAt w' b blk := by
  obtain ⟨D, h1, h2⟩ := h
  exact ⟨D, ownsMap_kept h1 hk hn, h2⟩
theorem FilesAt.lt {w : World} {b : Nat} {blk : Nat → Nat} (h : FilesAt w b blk) : b < w.heap.size := by
  obtain ⟨D, h1, _⟩ := h
  exact h1.lt
theorem zeroPtr (w : World) : (zeroValue 54).run Tryz.prog w = .ok (.pointer none) w := by kernel_rfl
/-- 'v, ok := m[f]' -/
theorem FilesAt.look2 {w : World} {b : Nat} {blk : Nat → Nat} (h : FilesAt w b blk) (f : Int) (hf : -9223372036854775808 ≤ f ∧ f ≤ 9223372036854775807) :
    (Instr.lookup 50 (.map (some b)) (.int .i64 f) true).run Tryz.prog w = .ok (if ok f then .tuple #[.pointer (some ⟨blk f.toNat, 0, none⟩), .bool true] else .tuple #[.pointer none, .bool false]) w := by
  obtain ⟨D, ⟨es, clock, hb, F, hs, rfl⟩, h2, h3⟩ := h
  rcases Maps.fit_look true lawI Tryz.underlying50 (zeroPtr w) hb F (keyI hf) with ⟨hrun, hne, hat⟩ | ⟨e0, y, hm, hk0, hrun, hRv, hat, _⟩
  · rw [hrun]
    have : ok f = false := by
      cases ho : ok f with
      | false => rfl
      | true =>
        exfalso
        simp only [ok, decide_eq_true_eq] at ho
        obtain ⟨h4, h5⟩ := h3 f.toNat (by omega)
        have e := h5 .nil
        rw [show ((f.toNat : Nat) : Int) = f by omega, hat .nil] at e
        cases e
    rw [this]; rfl
  · rw [hrun]
    have hhas := Maps.has_true_of_atKey hat
    obtain ⟨i, hi, e⟩ := h2 _ hhas
    injection e with _ e
    subst e
    have ho : ok (i : Int) = true := by simp [ok]; omega
    rw [ho]
    have e1 := (h3 i hi).2 .nil
    rw [hat .nil] at e1
    obtain ⟨y1, y2⟩ := y
    simp only at e1
    subst e1
    rw [ptrElem_inv hRv]
    simp
/-- 'm[f]' -/
theorem FilesAt.look1 {w : World} {b : Nat} {blk : Nat → Nat} (h : FilesAt w b blk) (i : Nat) (hi : i < 16) :
    (Instr.lookup 50 (.map (some b)) (.int .i64 (i : Int)) false).run Tryz.prog w = .ok (.pointer (some ⟨blk i, 0, none⟩)) w := by
  obtain ⟨D, ⟨es, clock, hb, F, hs, rfl⟩, h2, h3⟩ := h
  rcases Maps.fit_look false lawI Tryz.underlying50 (zeroPtr w) hb F (keyI (n := (i : Int)) (by omega)) with ⟨hrun, hne, hat⟩ | ⟨e0, y, hm, hk0, hrun, hRv, hat, _⟩
  · exfalso
    have e := (h3 i hi).2 .nil
    rw [hat .nil] at e
    cases e
  · rw [hrun]
    have e1 := (h3 i hi).2 .nil
    rw [hat .nil] at e1
    obtain ⟨y1, y2⟩ := y
    simp only at e1
    subst e1
    rw [ptrElem_inv hRv]
    simp

def secsV (q : List (Nat × Nat)) : List Value := q.flatMap fun p => [.int .i64 (p.1 : Int), .int .i64 (p.2 : Int)]
def intsV (l : List Int) : List Value := l.map fun n => .int .i64 n
theorem secsV_length (q : List (Nat × Nat)) : (secsV q).length = q.length * 2 := by
  induction q with
  | nil => rfl
  | cons p q ih =>
    have e : secsV (p :: q) = [Value.int .i64 (p.1 : Int), .int .i64 (p.2 : Int)] ++ secsV q := by simp [secsV]
    rw [e, List.length_append, ih]
    simp; omega

/-- A file, and which blocks it may hold. -/
def FileIn (w : World) (p : Nat) (S : Nat → Prop) (f : F) : Prop := ∃ nv dv mb, FileAt w p nv dv mb f ∧ ∀ k, InF p nv dv mb k → S k

/-- The parts of a disk: its own block, the block of the map of files, the blocks of its files, its list of pending sectors, its schedule. -/
structure DiskAt (w : World) (d bm : Nat) (blk : Nat → Nat) (own : Nat → Nat → Prop) (qv kv : Value) (D : D) : Prop where
  cell : w.heap[d]? = some (.cells #[.map (some bm), qv, .bool D.down, .int .i64 (D.lost : Int), .int .i64 (D.left : Int), kv] 53 (0, 0))
  files : FilesAt w bm blk
  queue : w.ownsRow 0 75 2 qv D.queue.length (secsV D.queue)
  keep : w.ownsRow 0 3 1 kv D.keep.length (intsV D.keep)
  file : ∀ i, i < 16 → FileIn w (blk i) (own i) (D.file i)
  inv : D.Inv
  lost : (D.lost : Int) ≤ 9223372036854775807
  left : (D.left : Int) ≤ 9223372036854775807
  keepIn : ∀ k ∈ D.keep, -9223372036854775808 ≤ k ∧ k ≤ 9223372036854775807
  keepLen : D.keep.length ≤ 4398046511104
  ownLt : ∀ i, i < 16 → ∀ k, own i k → k < w.heap.size
  ownNe : ∀ i, i < 16 → ∀ k, own i k → k ≠ d ∧ k ≠ bm ∧ qv.ownBlock ≠ some k ∧ kv.ownBlock ≠ some k
  ownOne : ∀ i j, i < 16 → j < 16 → i ≠ j → ∀ k, own i k → ¬ own j k
  apart : d ≠ bm ∧ qv.ownBlock ≠ some d ∧ qv.ownBlock ≠ some bm ∧ kv.ownBlock ≠ some d ∧ kv.ownBlock ≠ some bm ∧ ∀ k, qv.ownBlock = some k → kv.ownBlock ≠ some k

def InD (d bm : Nat) (own : Nat → Nat → Prop) (qv kv : Value) (k : Nat) : Prop := k = d ∨ k = bm ∨ qv.ownBlock = some k ∨ kv.ownBlock = some k ∨ ∃ i, i < 16 ∧ own i k
/-- A disk that holds blocks of S alone. -/
def DiskIn (w : World) (d : Nat) (S : Nat → Prop) (D : D) : Prop := ∃ bm blk own qv kv, DiskAt w d bm blk own qv kv D ∧ ∀ k, InD d bm own qv kv k → S k

theorem FileIn.kept {w w' : World} {S T : Nat → Prop} {p : Nat} {f : F} (h : FileIn w p S f) (hk : Kept T w w') (hn : ∀ k, S k → ¬ T k) : FileIn w' p S f := by
  obtain ⟨nv, dv, mb, h1, h2⟩ := h
  exact ⟨nv, dv, mb, h1.kept hk (fun k hin => hn k (h2 k hin)), h2⟩
theorem FileIn.mono {w : World} {S T : Nat → Prop} {p : Nat} {f : F} (h : FileIn w p S f) (hs : ∀ k, k < w.heap.size → S k → T k) : FileIn w p T f := by
  obtain ⟨nv, dv, mb, h1, h2⟩ := h
  exact ⟨nv, dv, mb, h1, fun k hin => hs k (h1.lt hin) (h2 k hin)⟩
theorem DiskAt.lt {w : World} {d bm : Nat} {blk : Nat → Nat} {own : Nat → Nat → Prop} {qv kv : Value} {D : D} (h : DiskAt w d bm blk own qv kv D) {k : Nat} (hk : InD d bm own qv kv k) : k < w.heap.size := by
  rcases hk with rfl | rfl | hk | hk | ⟨i, hi, hk⟩
  · exact (Array.getElem?_eq_some_iff.1 h.cell).1
  · exact h.files.lt
  · exact own_lt h.queue hk
  · exact own_lt h.keep hk
  · exact h.ownLt i hi k hk
theorem DiskAt.kept {w w' : World} {T : Nat → Prop} {d bm : Nat} {blk : Nat → Nat} {own : Nat → Nat → Prop} {qv kv : Value} {D : D} (h : DiskAt w d bm blk own qv kv D) (hk : Kept T w w') (hn : ∀ k, InD d bm own qv kv k → ¬ T k) : DiskAt w' d bm blk own qv kv D :=
  { cell := hk.heap h.cell (hn d (Or.inl rfl))
    files := h.files.kept hk (hn bm (Or.inr (Or.inl rfl)))
    queue := own_kept h.queue hk (fun k e => hn k (Or.inr (Or.inr (Or.inl e))))
    keep := own_kept h.keep hk (fun k e => hn k (Or.inr (Or.inr (Or.inr (Or.inl e)))))
    file := fun i hi => (h.file i hi).kept hk (fun k ho => hn k (Or.inr (Or.inr (Or.inr (Or.inr ⟨i, hi, ho⟩)))))
    inv := h.inv, lost := h.lost, left := h.left, keepIn := h.keepIn, keepLen := h.keepLen
    ownLt := fun i hi k ho => Nat.lt_of_lt_of_le (h.ownLt i hi k ho) hk.size
    ownNe := h.ownNe, ownOne := h.ownOne, apart := h.apart }
theorem DiskIn.kept {w w' : World} {S T : Nat → Prop} {d : Nat} {D : D} (h : DiskIn w d S D) (hk : Kept T w w') (hn : ∀ k, S k → ¬ T k) : DiskIn w' d S D := by
  obtain ⟨bm, blk, own, qv, kv, h1, h2⟩ := h
  exact ⟨bm, blk, own, qv, kv, h1.kept hk (fun k hin => hn k (h2 k hin)), h2⟩
theorem DiskIn.mono {w : World} {S T : Nat → Prop} {d : Nat} {D : D} (h : DiskIn w d S D) (hs : ∀ k, k < w.heap.size → S k → T k) : DiskIn w d T D := by
  obtain ⟨bm, blk, own, qv, kv, h1, h2⟩ := h
  exact ⟨bm, blk, own, qv, kv, h1, fun k hin => hs k (h1.lt hin) (h2 k hin)⟩
theorem DiskAt.cellOf {w : World} {d bm : Nat} {blk : Nat → Nat} {own : Nat → Nat → Prop} {qv kv : Value} {D : D} (h : DiskAt w d bm blk own qv kv D) (o : Nat) (v : Value)
    (hv : (#[.map (some bm), qv, .bool D.down, .int .i64 (D.lost : Int), .int .i64 (D.left : Int), kv] : Array Value)[o]? = some v) : w.cell? ⟨d, o, none⟩ = some v := by
  rw [Lib.cell_of_heap h.cell]; exact hv
theorem DiskAt.z {w : World} {d bm : Nat} {blk : Nat → Nat} {own : Nat → Nat → Prop} {qv kv : Value} {D : D} (h : DiskAt w d bm blk own qv kv D) (o : Nat) : w.frozen? ⟨d, o, none⟩ = false := Lib.frozen_of_heap h.cell o
theorem DiskAt.c0 {w : World} {d bm : Nat} {blk : Nat → Nat} {own : Nat → Nat → Prop} {qv kv : Value} {D : D} (h : DiskAt w d bm blk own qv kv D) : w.cell? ⟨d, 0, none⟩ = some (.map (some bm)) := h.cellOf 0 _ rfl
theorem DiskAt.c1 {w : World} {d bm : Nat} {blk : Nat → Nat} {own : Nat → Nat → Prop} {qv kv : Value} {D : D} (h : DiskAt w d bm blk own qv kv D) : w.cell? ⟨d, 1, none⟩ = some (qv) := h.cellOf 1 _ rfl
theorem DiskAt.c2 {w : World} {d bm : Nat} {blk : Nat → Nat} {own : Nat → Nat → Prop} {qv kv : Value} {D : D} (h : DiskAt w d bm blk own qv kv D) : w.cell? ⟨d, 2, none⟩ = some (.bool D.down) := h.cellOf 2 _ rfl
theorem DiskAt.c3 {w : World} {d bm : Nat} {blk : Nat → Nat} {own : Nat → Nat → Prop} {qv kv : Value} {D : D} (h : DiskAt w d bm blk own qv kv D) : w.cell? ⟨d, 3, none⟩ = some (.int .i64 (D.lost : Int)) := h.cellOf 3 _ rfl
theorem DiskAt.c4 {w : World} {d bm : Nat} {blk : Nat → Nat} {own : Nat → Nat → Prop} {qv kv : Value} {D : D} (h : DiskAt w d bm blk own qv kv D) : w.cell? ⟨d, 4, none⟩ = some (.int .i64 (D.left : Int)) := h.cellOf 4 _ rfl
theorem DiskAt.c5 {w : World} {d bm : Nat} {blk : Nat → Nat} {own : Nat → Nat → Prop} {qv kv : Value} {D : D} (h : DiskAt w d bm blk own qv kv D) : w.cell? ⟨d, 5, none⟩ = some (kv) := h.cellOf 5 _ rfl
end Go.Proofs.YtljgfnglknpfaaaGreatDoor

namespace Go.Proofs.YtljgfnglknpfaaaGreatDoor
set_option maxRecDepth 100000
open Go Go.RowKit Go.Maps Dk

set_option maxRecDepth 100000 in
theorem read_c (d : Nat) (S : Nat → Prop) (X : D) (f at' size : Int) (hf : -9223372036854775808 ≤ f ∧ f ≤ 9223372036854775807) (ha : at' ≤ 9223372036854775807) (hs : size ≤ 9223372036854775807) (w : World) (h : DiskIn w d S X) :
    Calls Tryz.prog 25 #[.pointer (some ⟨d, 0, none⟩), .int .i64 f, .int .i64 at', .int .i64 size] w fun e w' => e = .returned (.tuple #[.string ⟨(X.read f at' size).1.toArray⟩, .int .i64 (X.read f at' size).2]) ∧ w' = w := by
  obtain ⟨bm, blk, own, qv, kv, h, _⟩ := h
  have k0 := h.c0
  have k2 := h.c2
  have hl := h.files.look2 f hf
  unfold D.read
  cases hd : X.down with
  | true =>
    rw [hd] at k2
    clear h hl
    go_enter Tryz.func25, Tryz.ntmps25
    go_wp2_with fail
    go_ret2
    exact ⟨rfl, rfl⟩
  | false =>
    rw [hd] at k2
    cases ho : ok f with
    | false =>
      rw [ho] at hl
      simp only [Bool.false_eq_true, if_false] at hl
      clear h ho
      go_enter Tryz.func25, Tryz.ntmps25
      go_wp2_with fail
      go_ret2
      exact ⟨rfl, rfl⟩
    | true =>
      rw [ho] at hl
      simp only [if_true] at hl
      have hi : f.toNat < 16 := by simp only [ok, decide_eq_true_eq] at ho; omega
      obtain ⟨nv, dv, mb, hF, _⟩ := h.file f.toNat hi
      by_cases h1 : at' < 0
      · have e1 : decide (0 ≤ at') = false := by simp; omega
        rw [e1]
        clear h hF ho e1
        go_enter Tryz.func25, Tryz.ntmps25
        go_wp2_with fail
        go_ret2
        exact ⟨rfl, rfl⟩
      · by_cases h2 : size < 0
        · have e1 : decide (0 ≤ size) = false := by simp; omega
          rw [e1]
          simp only [Bool.and_false]
          clear h hF ho e1
          go_enter Tryz.func25, Tryz.ntmps25
          go_wp2_with fail
          go_ret2
          exact ⟨rfl, rfl⟩
        · obtain ⟨a, rfl⟩ : ∃ a : Nat, at' = a := ⟨at'.toNat, by omega⟩
          obtain ⟨s, rfl⟩ : ∃ s : Nat, size = s := ⟨size.toNat, by omega⟩
          have q := fread_c (blk f.toNat) nv dv mb _ a s w hF (h.inv.file f.toNat hi).small ha hs
          have e1 : decide (0 ≤ (a : Int)) = true := by simp
          have e2 : decide (0 ≤ (s : Int)) = true := by simp
          rw [e1, e2]
          simp only [Bool.and_self, if_true, Bool.false_eq_true, if_false, Int.toNat_natCast]
          have Q := Lib.hid q
          clear h hF ho e1 e2 q
          go_enter Tryz.func25, Tryz.ntmps25
          go_wp2_with (go_at_call 41; refine Q.out.mono ?_; rintro e w' ⟨rfl, rfl⟩)
          go_ret2
          exact ⟨rfl, rfl⟩

theorem cells6_set {w : World} {p : Nat} {a b c d e f : Value} {T : TypeId} (h : w.heap[p]? = some (.cells #[a, b, c, d, e, f] T (0, 0))) (o : Nat) (v : Value) (_ho : o < 6) : (w.setCell ⟨p, o, none⟩ v).heap[p]? = some (.cells (#[a, b, c, d, e, f].setIfInBounds o v) T (0, 0)) := by
  simp [World.setCell, Array.getElem?_modify, h]

/-- Other cells of a disk's own block, the rest as it was. -/
theorem DiskAt.recell {w w' : World} {d bm : Nat} {blk : Nat → Nat} {own : Nat → Nat → Prop} {qv kv : Value} {X : D} (h : DiskAt w d bm blk own qv kv X) (hk : Kept (fun k => k = d) w w') (down : Bool) (lost left : Nat)
    (hc : w'.heap[d]? = some (.cells #[.map (some bm), qv, .bool down, .int .i64 (lost : Int), .int .i64 (left : Int), kv] 53 (0, 0))) (h1 : (lost : Int) ≤ 9223372036854775807) (h2 : (left : Int) ≤ 9223372036854775807) :
    DiskAt w' d bm blk own qv kv { X with down := down, lost := lost, left := left } :=
  { cell := hc
    files := h.files.kept hk (fun e => h.apart.1 e.symm)
    queue := own_kept h.queue hk (fun k e e' => h.apart.2.1 (by rw [e, e']))
    keep := own_kept h.keep hk (fun k e e' => h.apart.2.2.2.1 (by rw [e, e']))
    file := fun i hi => (h.file i hi).kept hk (fun k ho => (h.ownNe i hi k ho).1)
    inv := D.set_inv h.inv lost left X.keep down, lost := h1, left := h2, keepIn := h.keepIn, keepLen := h.keepLen
    ownLt := fun i hi k ho => Nat.lt_of_lt_of_le (h.ownLt i hi k ho) hk.size
    ownNe := h.ownNe, ownOne := h.ownOne, apart := h.apart }

theorem start_c (d : Nat) (S : Nat → Prop) (X : D) (w : World) (h : DiskIn w d S X) : Calls Tryz.prog 19 #[.pointer (some ⟨d, 0, none⟩)] w fun e w' => e = .returned (.tuple #[]) ∧ DiskIn w' d S X.start ∧ Kept S w w' := by
  obtain ⟨bm, blk, own, qv, kv, h, hS⟩ := h
  have k2 := h.c2
  have z2 := h.z 2
  have H := Lib.hid h
  clear h
  go_enter Tryz.func19, Tryz.ntmps19
  go_wp2_with fail
  go_end0
  have hk := Kept.set d 2 w (.bool false)
  exact ⟨rfl, ⟨bm, blk, own, qv, kv, H.out.recell hk false X.lost X.left (cells6_set H.out.cell 2 (.bool false) (by omega)) H.out.lost H.out.left, hS⟩, hk.mono (fun k _ e => by subst e; exact hS _ (Or.inl rfl))⟩

theorem lose_c (d : Nat) (S : Nat → Prop) (X : D) (n : Int) (hn : n ≤ 9223372036854775807) (w : World) (h : DiskIn w d S X) : Calls Tryz.prog 10 #[.pointer (some ⟨d, 0, none⟩), .int .i64 n] w fun e w' => e = .returned (.tuple #[]) ∧ DiskIn w' d S (X.lose n) ∧ Kept S w w' := by
  obtain ⟨bm, blk, own, qv, kv, h, hS⟩ := h
  have k3 := h.c3
  have z3 := h.z 3
  have H := Lib.hid h
  obtain ⟨m, hm⟩ : ∃ m, m = n.toNat := ⟨_, rfl⟩
  have hmax : (if n < 0 then (0 : Int) else n) = (m : Int) := by split <;> omega
  have HM := Lib.hid hm
  have hmn : (m : Int) ≤ 9223372036854775807 := by omega
  clear h hm
  go_enter Tryz.func10, Tryz.ntmps10
  go_wp2_with fail
  go_end0
  have hk := Kept.set d 3 w (.int .i64 (m : Int))
  have hd : X.lose n = { X with down := X.down, lost := m, left := X.left } := by rw [HM.out]; rfl
  rw [hd]
  exact ⟨rfl, ⟨bm, blk, own, qv, kv, H.out.recell hk X.down m X.left (cells6_set H.out.cell 3 (.int .i64 (m : Int)) (by omega)) hmn H.out.left, hS⟩, hk.mono (fun k _ e => by subst e; exact hS _ (Or.inl rfl))⟩
end Go.Proofs.YtljgfnglknpfaaaGreatDoor

namespace Go.Proofs.YtljgfnglknpfaaaGreatDoor
set_option maxRecDepth 100000
open Go Go.RowKit Go.Maps Dk

/-- All files of a disk, each in blocks of its own. -/
structure FilesIn (w : World) (blk : Nat → Nat) (own : Nat → Nat → Prop) (g : Nat → F) : Prop where
  file : ∀ i, i < 16 → FileIn w (blk i) (own i) (g i)
  lt : ∀ i, i < 16 → ∀ k, own i k → k < w.heap.size
  one : ∀ i j, i < 16 → j < 16 → i ≠ j → ∀ k, own i k → ¬ own j k
theorem FilesIn.kept {w w' : World} {T : Nat → Prop} {blk : Nat → Nat} {own : Nat → Nat → Prop} {g : Nat → F} (h : FilesIn w blk own g) (hk : Kept T w w') (hn : ∀ i, i < 16 → ∀ k, own i k → ¬ T k) : FilesIn w' blk own g :=
  ⟨fun i hi => (h.file i hi).kept hk (hn i hi), fun i hi k ho => Nat.lt_of_lt_of_le (h.lt i hi k ho) hk.size, h.one⟩
/-- What a file may hold once it was written in a world. -/
def ownUp (own : Nat → Nat → Prop) (i : Nat) (a b : Nat) : Nat → Nat → Prop := fun j k => if j = i then (own i k ∨ a ≤ k) ∧ k < b else own j k
/-- One file turned; the others as they were. -/
theorem FilesIn.step {w w' : World} {blk : Nat → Nat} {own : Nat → Nat → Prop} {g : Nat → F} (h : FilesIn w blk own g) {i : Nat} (hi : i < 16) {T : Nat → Prop} (hk : Kept T w w') (hT : ∀ k, T k → own i k) {f : F}
    (hf : FileIn w' (blk i) (fun k => own i k ∨ w.heap.size ≤ k) f) : FilesIn w' blk (ownUp own i w.heap.size w'.heap.size) (upd g i f) := by
  refine ⟨fun j hj => ?_, fun j hj k ho => ?_, fun a b ha hb hab k h1 h2 => ?_⟩
  · by_cases e : j = i
    · subst e
      obtain ⟨nv, dv, mb, h1, h2⟩ := hf
      rw [upd_same]
      exact ⟨nv, dv, mb, h1, fun k hin => by unfold ownUp; rw [if_pos rfl]; exact ⟨h2 k hin, h1.lt hin⟩⟩
    · have e1 : ownUp own i w.heap.size w'.heap.size j = own j := by funext k; simp [ownUp, e]
      rw [e1, upd_other _ _ e]
      exact (h.file j hj).kept hk (fun k ho hT' => h.one j i hj hi e k ho (hT k hT'))
  · unfold ownUp at ho
    split at ho
    · exact ho.2
    · exact Nat.lt_of_lt_of_le (h.lt j hj k ho) hk.size
  · unfold ownUp at h1 h2
    split at h1
    · next e1 =>
      split at h2
      · next e2 => exact hab (e1.trans e2.symm)
      · next e2 =>
        rcases h1.1 with h1 | h1
        · exact h.one i b hi hb (fun e => e2 e.symm) k h1 h2
        · have := h.lt b hb k h2; omega
    · next e1 =>
      split at h2
      · next e2 =>
        rcases h2.1 with h2 | h2
        · exact h.one a i ha hi e1 k h1 h2
        · have := h.lt a ha k h1; omega
      · exact h.one a b ha hb hab k h1 h2
theorem ownUp_or {own : Nat → Nat → Prop} {i a b : Nat} {j k : Nat} (h : ownUp own i a b j k) : own j k ∨ a ≤ k := by
  unfold ownUp at h
  split at h
  · next e => subst e; exact h.1
  · exact Or.inl h
theorem DiskAt.filesIn {w : World} {d bm : Nat} {blk : Nat → Nat} {own : Nat → Nat → Prop} {qv kv : Value} {X : D} (h : DiskAt w d bm blk own qv kv X) : FilesIn w blk own X.file := ⟨h.file, h.ownLt, h.ownOne⟩

theorem intsV_one (l : List Int) : ∀ u ∈ intsV l, u.oneCell' = true := by
  intro u hu
  obtain ⟨x, _, rfl⟩ := List.mem_map.1 hu
  rfl
/-- Another schedule, the rest as it was. -/
theorem DiskAt.rekeep {w w' : World} {d bm : Nat} {blk : Nat → Nat} {own : Nat → Nat → Prop} {qv kv : Value} {X : D} (h : DiskAt w d bm blk own qv kv X) (hk : Kept (fun k => k = d) w w') (left : Nat) (kv' : Value) (l : List Int)
    (hc : w'.heap[d]? = some (.cells #[.map (some bm), qv, .bool X.down, .int .i64 (X.lost : Int), .int .i64 (left : Int), kv'] 53 (0, 0))) (h2 : (left : Int) ≤ 9223372036854775807)
    (hl : w'.ownsRow 0 3 1 kv' l.length (intsV l)) (hf : ∀ k, kv'.ownBlock = some k → w.heap.size ≤ k) (h3 : ∀ k ∈ l, -9223372036854775808 ≤ k ∧ k ≤ 9223372036854775807) (h4 : l.length ≤ 4398046511104) :
    DiskAt w' d bm blk own qv kv' { X with left := left, keep := l } :=
  { cell := hc
    files := h.files.kept hk (fun e => h.apart.1 e.symm)
    queue := own_kept h.queue hk (fun k e e' => h.apart.2.1 (by rw [e, e']))
    keep := hl
    file := fun i hi => (h.file i hi).kept hk (fun k ho => (h.ownNe i hi k ho).1)
    inv := D.set_inv h.inv X.lost left l X.down, lost := h.lost, left := h2, keepIn := h3, keepLen := h4
    ownLt := fun i hi k ho => Nat.lt_of_lt_of_le (h.ownLt i hi k ho) hk.size
    ownNe := fun i hi k ho => ⟨(h.ownNe i hi k ho).1, (h.ownNe i hi k ho).2.1, (h.ownNe i hi k ho).2.2.1, fun e => by have := hf k e; have := h.ownLt i hi k ho; omega⟩
    ownOne := h.ownOne
    apart := ⟨h.apart.1, h.apart.2.1, h.apart.2.2.1, fun e => by have := hf d e; have := h.lt (Or.inl rfl); omega, fun e => by have := hf bm e; have := h.lt (Or.inr (Or.inl rfl)); omega, fun k e e' => by have := hf k e'; have := own_lt h.queue e; omega⟩ }

set_option maxRecDepth 100000 in
theorem arm_at (d bm : Nat) (blk : Nat → Nat) (own : Nat → Nat → Prop) (qv kv : Value) (X : D) (n : Int) (hn : n ≤ 9223372036854775807) (v : Value) (l : List Int) (w : World) (h : DiskAt w d bm blk own qv kv X) (hs : SrcV w 1 v l.length (intsV l)) (hl : l.length ≤ 4398046511104)
    (hin : ∀ k ∈ l, -9223372036854775808 ≤ k ∧ k ≤ 9223372036854775807) :
    Calls Tryz.prog 11 #[.pointer (some ⟨d, 0, none⟩), .int .i64 n, v] w fun e w' => e = .returned (.tuple #[]) ∧ ∃ kv', DiskAt w' d bm blk own qv kv' (X.arm n l) ∧ Kept (fun k => k = d) w w' ∧ ∀ k, kv'.ownBlock = some k → w.heap.size ≤ k := by
  have q := (iclone_c v l.length (intsV l) w hs (intsV_one _) (by omega) (by omega)).mono (R' := fun e w1 => ∃ a' n' c', e = .returned (.slice a' n' c') ∧ (w1.cell? ⟨d, 4, none⟩ = some (.int .i64 (X.left : Int)) ∧ w1.cell? ⟨d, 5, none⟩ = some kv ∧ w1.frozen? ⟨d, 4, none⟩ = false ∧ w1.frozen? ⟨d, 5, none⟩ = false) ∧
      Hid (w1.ownsRow w.heap.size 3 1 (.slice a' n' c') l.length (intsV l) ∧ Below w.heap.size w w1)) (by
    rintro e w1 ⟨v', rfl, ho, hb⟩
    obtain ⟨a', c', rfl, _⟩ := own_shape (own_base ho)
    have h1 := h.kept (Kept.below (S := fun _ => False) hb) (fun _ _ e => e)
    exact ⟨a', _, c', rfl, ⟨h1.c4, h1.c5, h1.z 4, h1.z 5⟩, ho, hb⟩)
  obtain ⟨m, hm⟩ : ∃ m, m = n.toNat := ⟨_, rfl⟩
  have hmax : (if n < 0 then (0 : Int) else n) = (m : Int) := by split <;> omega
  have hmn : (m : Int) ≤ 9223372036854775807 := by omega
  have H := Lib.hid h
  have HM := Lib.hid hm
  have Q := Lib.hid q
  have HIN := Lib.hid hin
  obtain ⟨va, vc, rfl, _⟩ := hs
  clear h hm q hin
  go_enter Tryz.func11, Tryz.ntmps11
  go_wp2_with (go_at_call 27; refine Q.out.mono ?_; rintro e w1 ⟨a', n', c', rfl, ⟨j4, j5, z4, z5⟩, HP⟩)
  go_end0
  obtain ⟨ho, hb⟩ := HP.out
  have h1 := H.out.kept (Kept.below (S := fun _ => False) hb) (fun _ _ e => e)
  have hk := ((Kept.below (S := fun k => k = d) hb).trans (Kept.set d 4 w1 (.int .i64 (m : Int))) (fun _ _ e => e)).trans (Kept.set d 5 _ (.slice a' n' c')) (fun _ _ e => e)
  have hd : d < w.heap.size := H.out.lt (Or.inl rfl)
  have hfr : ∀ k, (Value.slice a' n' c').ownBlock = some k → w.heap.size ≤ k := fun k e => (ho.lt k e).1
  have hown := own_kept (own_kept (own_base ho) (Kept.set d 4 w1 (.int .i64 (m : Int))) (fun k e e' => by have := hfr k e; omega)) (Kept.set d 5 _ (.slice a' n' c')) (fun k e e' => by have := hfr k e; omega)
  have hX : X.arm n l = { X with left := m, keep := l } := by rw [HM.out]; rfl
  rw [hX]
  exact ⟨rfl, _, H.out.rekeep hk m _ l (cells6_set (cells6_set h1.cell 4 (.int .i64 (m : Int)) (by omega)) 5 (.slice a' n' c') (by omega)) hmn hown hfr HIN.out hl, hk, hfr⟩
end Go.Proofs.YtljgfnglknpfaaaGreatDoor

namespace Go.Proofs.YtljgfnglknpfaaaGreatDoor
set_option maxRecDepth 100000
open Go Go.RowKit Go.Maps Dk

theorem saveAll_snoc (keep : List Int) (p : Nat × Nat) : ∀ (q : List (Nat × Nat)) (i : Nat) (g : Nat → F), saveAll keep (q ++ [p]) i g = if surv keep (i + q.length) then saveAt (saveAll keep q i g) p else saveAll keep q i g
  | [], i, g => rfl
  | a :: q, i, g => by
    show saveAll keep (q ++ [p]) (i + 1) _ = _
    rw [saveAll_snoc keep p q (i + 1)]
    have e : i + 1 + q.length = i + (a :: q).length := by simp; omega
    rw [e]
    rfl
theorem secsV_get (q : List (Nat × Nat)) : ∀ (k : Nat) (p : Nat × Nat), q[k]? = some p → (secsV q)[k * 2]? = some (.int .i64 (p.1 : Int)) ∧ (secsV q)[k * 2 + 1]? = some (.int .i64 (p.2 : Int)) := by
  induction q with
  | nil => intro k p h; simp at h
  | cons a q ih =>
    intro k p h
    have e : secsV (a :: q) = [Value.int .i64 (a.1 : Int), .int .i64 (a.2 : Int)] ++ secsV q := by simp [secsV]
    rw [e]
    cases k with
    | zero =>
      simp at h
      subst h
      exact ⟨rfl, rfl⟩
    | succ k =>
      obtain ⟨h1, h2⟩ := ih k p (by simpa using h)
      refine ⟨?_, ?_⟩
      · rw [List.getElem?_append_right (by simp; omega), ← h1]
        congr 1
        simp
        omega
      · rw [List.getElem?_append_right (by simp; omega), ← h2]
        congr 1
        simp
        omega

/-- A keep: what a crash is given, in memory that the crash does not turn. -/
def KeepAt (w : World) (v : Value) (l : List Int) (T : Nat → Prop) : Prop :=
  ∃ a c, v = .slice a l.length c ∧ (l ≠ [] → ∃ b off, a = some ⟨b, off, none⟩ ∧ ¬ T b ∧ ∀ j x, l[j]? = some x → w.cell? ⟨b, off + j, none⟩ = some (.int .i64 x))

set_option maxHeartbeats 2000000 in
set_option maxRecDepth 100000 in
theorem crash_up (d bm : Nat) (blk : Nat → Nat) (own : Nat → Nat → Prop) (qv kv : Value) (X : D) (v : Value) (l : List Int) (w : World) (h : DiskAt w d bm blk own qv kv X) (hup : X.down = false) (hs : KeepAt w v l (fun k => ∃ i, i < 16 ∧ own i k)) (hl : l.length ≤ 9223372036854775807)
    (hin : ∀ k ∈ l, -9223372036854775808 ≤ k ∧ k ≤ 9223372036854775807) :
    Calls Tryz.prog 18 #[.pointer (some ⟨d, 0, none⟩), v] w fun e w' => e = .returned (.tuple #[]) ∧ ∃ own' kv', DiskAt w' d bm blk own' (.slice none 0 0) kv' (X.crash l) ∧ Kept (fun k => k = d ∨ ∃ i, i < 16 ∧ own i k) w w' ∧
      (∀ i, i < 16 → ∀ k, own' i k → own i k ∨ w.heap.size ≤ k) ∧ ∀ k, kv'.ownBlock = some k → w.heap.size ≤ k := by
  obtain ⟨va, vc, rfl, hsrc⟩ := hs
  obtain ⟨qa, qc, rfl, hqc, hqm, hqn⟩ := own_shape h.queue
  obtain ⟨L, hL⟩ : ∃ L, L = X.queue.length := ⟨_, rfl⟩
  rw [← hL] at h hqc
  have k2 := h.c2
  have k1 := h.c1
  rw [hup] at k2
  have H := Lib.hid h
  have HS := Lib.hid hsrc
  have HL := Lib.hid hL
  have HQN := Lib.hid hqn
  have HIN := Lib.hid hin
  have HUP := Lib.hid hup
  have hLm : L ≤ 9223372036854775807 := by unfold maxLen at hqm; omega
  clear h hsrc hL hqn hin hqm hup
  go_enter Tryz.func18, Tryz.ntmps18
  go_wp2_with fail
  go_loopw [17] (fun v17 wr => ∃ (k : Nat) (own' : Nat → Nat → Prop), k ≤ L ∧ v17 = .int .i64 (k : Int) ∧ FilesIn wr blk own' (saveAll l (X.queue.take k) 0 X.file) ∧ (∀ i, i < 16 → ∀ x, own' i x → own i x ∨ w.heap.size ≤ x) ∧ Kept (fun x => ∃ i, i < 16 ∧ own i x) w wr) (fun v17 _ => L - (intOf v17).toNat)
  case atStart => exact ⟨0, own, Nat.zero_le _, rfl, H.out.filesIn, fun i _ x hx => Or.inl hx, Kept.refl _ _⟩
  case round =>
    obtain ⟨k, own', hk, rfl, hF, hO, hK⟩ := hrel
    have hd := hK.heap H.out.cell (fun ⟨i, hi, ho⟩ => (H.out.ownNe i hi d ho).1 rfl)
    by_cases hkL : k < L
    · obtain ⟨p, hp⟩ : ∃ p, X.queue[k]? = some p := ⟨X.queue[k]'(by have := HL.out; omega), List.getElem?_eq_getElem _⟩
      obtain ⟨f, n⟩ := p
      have hmem := (H.out.inv.queue f n).1 (List.mem_of_getElem? hp)
      obtain ⟨g, hga, hgq⟩ : ∃ g, qa = some ⟨g, 0, none⟩ ∧ ∀ j u, (secsV X.queue)[j]? = some u → wr.cell? ⟨g, j, none⟩ = some u := by
        have hq := own_kept H.out.queue hK (fun x e ⟨i, hi, ho⟩ => (H.out.ownNe i hi x ho).2.2.1 e)
        cases qa with
        | none => have := (HQN.out rfl).1; have := HL.out; omega
        | some ad =>
          rcases hq.2 with ⟨e, _⟩ | ⟨g, cap, cur, e, _⟩
          · cases e
          · injection e with e
            injection e with e
            subst e
            refine ⟨g, rfl, fun j u hu => ?_⟩
            have := own_cell hq (by rw [HL.out]) j u hu
            rw [Lib.add_plain, Nat.zero_add] at this
            exact this
      subst hga
      have c1 := hgq _ _ (secsV_get _ k _ hp).1
      have c2 := hgq _ _ (secsV_get _ k _ hp).2
      have c0 : wr.cell? ⟨d, 0, none⟩ = some (.map (some bm)) := by rw [Lib.cell_of_heap hd]; rfl
      have hgl : g < wr.heap.size := by have := World.block_lt_of_cell? _ _ c1; simpa using this
      have hdl : d < wr.heap.size := by have := World.block_lt_of_cell? _ _ c0; simpa using this
      have hkL2 : (k : Int) < (L : Int) := by omega
      have HF := Lib.hid hF
      have HO := Lib.hid hO
      have HK := Lib.hid hK
      have HD := Lib.hid hd
      have HP := Lib.hid hp
      have HM := Lib.hid hmem
      clear hF hO hK hd hp hmem hgq
      by_cases hl0 : l.length = 0
      · have hls : surv l k = false := by
          have : l = [] := List.eq_nil_of_length_eq_zero hl0
          subst this
          rfl
        have HLS := Lib.hid hls
        have hll : ((l.length : Nat) : Int) = 0 := by omega
        clear hls
        go_wp2_with fail
        go_roundw
        case rel =>
          have hal := Kept.alloc (fun _ => False) wr (.cells #[.int .i64 (f : Int), .int .i64 (n : Int)] 75)
          refine ⟨k + 1, own', by omega, by go_num, ?_, HO.out, HK.out.trans hal (fun _ _ e => e.elim)⟩
          have e : X.queue.take (k + 1) = X.queue.take k ++ [(f, n)] := by rw [List.take_add_one, HP.out]; rfl
          have e2 : (X.queue.take k).length = k := by have := HL.out; simp; omega
          rw [e, saveAll_snoc, e2, Nat.zero_add, HLS.out]
          exact HF.out.kept hal (fun _ _ _ _ e => e)
        case measure => simp [intOf]; omega
      · obtain ⟨b, off, rfl, hTb, hcell⟩ := HS.out (fun e => hl0 (by rw [e]; rfl))
        obtain ⟨j, hj⟩ : ∃ j, j = k % l.length := ⟨_, rfl⟩
        have hjl : j < l.length := by rw [hj]; exact Nat.mod_lt _ (by omega)
        obtain ⟨x, hx⟩ : ∃ x, l[j]? = some x := ⟨l[j], List.getElem?_eq_getElem hjl⟩
        have cj : wr.cell? ⟨b, off + j, none⟩ = some (.int .i64 x) := HK.out.cell (hcell j x hx) hTb
        have hsv : surv l k = (x.tmod 2 != 0) := by unfold surv; rw [← hj, hx]
        have hxr := HIN.out x (List.mem_of_getElem? hx)
        have hrem : (k : Int).tmod (l.length : Int) = (j : Int) := by rw [Int.tmod_eq_emod_of_nonneg (by omega), hj]; rfl
        have hrem2 : (k : Int) % (l.length : Int) = (j : Int) := by rw [hj]; rfl
        have hll : 0 < l.length := by omega
        have hbl : b < wr.heap.size := by have := World.block_lt_of_cell? _ _ cj; simpa using this
        have HJ := Lib.hid hj
        have HSV := Lib.hid hsv
        clear hcell hj hsv hTb
        by_cases hx2 : x.tmod 2 = 0
        · go_wp2_with fail
          go_roundw
          case rel =>
            have hal := Kept.alloc (fun _ => False) wr (.cells #[.int .i64 (f : Int), .int .i64 (n : Int)] 75)
            refine ⟨k + 1, own', by omega, by go_num, ?_, HO.out, HK.out.trans hal (fun _ _ e => e.elim)⟩
            have e : X.queue.take (k + 1) = X.queue.take k ++ [(f, n)] := by rw [List.take_add_one, HP.out]; rfl
            have e2 : (X.queue.take k).length = k := by have := HL.out; simp; omega
            have e3 : surv l k = false := by rw [HSV.out, hx2]; rfl
            rw [e, saveAll_snoc, e2, Nat.zero_add, e3]
            exact HF.out.kept hal (fun _ _ _ _ e => e)
          case measure => simp [intOf]; omega
        · obtain ⟨W1, hW1⟩ : ∃ W1, W1 = wr.alloc (.cells #[.int .i64 (f : Int), .int .i64 (n : Int)] 75) := ⟨_, rfl⟩
          have hal : Kept (fun _ => False) wr W1 := by rw [hW1]; exact Kept.alloc _ _ _
          have hal2 := hal.trans (Kept.drew (fun _ => False) W1) (fun _ _ e => e)
          have hf16 := HM.out.1
          have hlk : (Instr.lookup 50 (.map (some bm)) (.int .i64 (f : Int)) false).run Tryz.prog W1.drew = .ok (.pointer (some ⟨blk f, 0, none⟩)) W1.drew :=
            ((H.out.files.kept HK.out (fun ⟨i, hi, ho⟩ => (H.out.ownNe i hi bm ho).2.1 rfl)).kept hal2 (fun e => e)).look1 f hf16
          have hso := saveAll_ok l (X.queue.take k) 0 X.file (fun i hi => (H.out.inv.file i hi).toOk) (fun p hp => by
            obtain ⟨f', n'⟩ := p
            have := (H.out.inv.queue f' n').1 (List.mem_of_mem_take hp)
            exact (H.out.inv.file f' this.1).inside n' this.2) f hf16
          have hFd := HF.out.kept hal2 (fun _ _ _ _ e => e)
          obtain ⟨nv, dv, mb, hFA, hFS⟩ := hFd.file f hf16
          have q := (save_c (blk f) nv dv mb _ n W1.drew hFA hso.1 (by rw [hso.2]; exact (H.out.inv.file f hf16).inside n HM.out.2)).mono (R' := fun e w2 => e = .returned (.tuple #[]) ∧ ∃ own2, FilesIn w2 blk own2 (saveAll l (X.queue.take (k + 1)) 0 X.file) ∧
              (∀ i, i < 16 → ∀ x, own2 i x → own i x ∨ w.heap.size ≤ x) ∧ Kept (fun x => ∃ i, i < 16 ∧ own i x) w w2) (by
            rintro e w2 ⟨rfl, dv2, hF2, hK2, hb2⟩
            have hs1 : w.heap.size ≤ W1.drew.heap.size := Nat.le_trans HK.out.size hal2.size
            have hst := hFd.step hf16 hK2 (fun x hx => hFS x (by rcases hx with hx | hx; exact Or.inl hx; exact Or.inr (Or.inr (Or.inr hx)))) (f := ((saveAll l (X.queue.take k) 0 X.file) f).save n) ⟨nv, dv2, mb, hF2, fun x hin => by
              rcases hin with hx | hx | hx | hx
              · exact Or.inl (hFS x (Or.inl hx))
              · exact Or.inl (hFS x (Or.inr (Or.inl hx)))
              · exact Or.inl (hFS x (Or.inr (Or.inr (Or.inl hx))))
              · rcases hb2 with hb2 | ⟨y, hb2, hy⟩
                · exact Or.inl (hFS x (Or.inr (Or.inr (Or.inr (by rw [← hb2]; exact hx)))))
                · rw [hb2] at hx
                  injection hx with hx
                  exact Or.inr (by rw [← hx]; exact hy)⟩
            refine ⟨rfl, ownUp own' f W1.drew.heap.size w2.heap.size, ?_, fun i hi x hx => ?_, ?_⟩
            · have e : X.queue.take (k + 1) = X.queue.take k ++ [(f, n)] := by rw [List.take_add_one, HP.out]; rfl
              have e2 : (X.queue.take k).length = k := by have := HL.out; simp; omega
              have e3 : surv l k = true := by rw [HSV.out]; simpa using hx2
              rw [e, saveAll_snoc, e2, Nat.zero_add, e3]
              exact hst
            · rcases ownUp_or hx with hx | hx
              · exact HO.out i hi x hx
              · exact Or.inr (Nat.le_trans hs1 hx)
            · refine (HK.out.trans hal2 (fun _ _ e => e.elim)).trans hK2 (fun x hx e => ⟨f, HM.out.1, ?_⟩)
              have h1 : own' f x := hFS x (by rcases e with e | e; exact Or.inl e; exact Or.inr (Or.inr (Or.inr e)))
              rcases HO.out f HM.out.1 x h1 with h2 | h2
              · exact h2
              · omega)
          have Q := Lib.hid q
          have HAL := Lib.hid hal2
          rw [hW1] at hlk
          have HW1 := Lib.hid hW1
          clear hal hal2 hso hFd hFA hFS q hf16 hW1
          go_wp2_with fail
          rw [← HW1.out] at hlk ⊢
          have d0 : W1.cell? ⟨d, 0, none⟩ = some (.map (some bm)) := HAL.out.cell c0 (fun e => e)
          have d1 : W1.cell? ⟨wr.heap.size, 0, none⟩ = some (.int .i64 (f : Int)) := by rw [HW1.out, Lib.cell_of_heap (heap_alloc_new wr _)]; rfl
          have d2 : W1.cell? ⟨wr.heap.size, 1, none⟩ = some (.int .i64 (n : Int)) := by rw [HW1.out, Lib.cell_of_heap (heap_alloc_new wr _)]; rfl
          go_region_law (go_simp; go_at_call 33; refine Q.out.mono ?_; rintro e w2 ⟨rfl, own2, r1, r2, r3⟩)
          all_goals
            go_wp2_with fail
            go_roundw
            case rel => exact ⟨k + 1, own2, hkL, by go_num, r1, r2, r3⟩
            case measure => simp [intOf]; omega
    · have hkL' : ¬ ((k : Int) < (L : Int)) := by omega
      have hke : k = L := by omega
      have htk : X.queue.take k = X.queue := List.take_of_length_le (by rw [hke, HL.out]; exact Nat.le_refl _)
      rw [htk] at hF
      obtain ⟨G, hG⟩ : ∃ G, G = saveAll l X.queue 0 X.file := ⟨_, rfl⟩
      rw [← hG] at hF
      have c0 : wr.cell? ⟨d, 0, none⟩ = some (.map (some bm)) := by rw [Lib.cell_of_heap hd]; rfl
      have hfm := H.out.files.kept hK (fun ⟨i, hi, ho⟩ => (H.out.ownNe i hi bm ho).2.1 rfl)
      obtain ⟨Dm, hM1, hM2, hM3⟩ := hfm
      obtain ⟨w1, hrun, hrg, hg1, hsz1⟩ := hM1.range lawI Tryz.underlying50
      have hk1 : Kept (fun _ => False) wr w1 := Kept.grown hg1 (fun _ e => by cases e)
      have hF1 := hF.kept hk1 (fun _ _ _ _ e => e)
      have hGok : ∀ f, f < 16 → (G f).Ok := fun f hf => by
        rw [hG]
        exact (saveAll_ok l X.queue 0 X.file (fun i hi => (H.out.inv.file i hi).toOk) (fun p hp => by
          obtain ⟨f', n'⟩ := p
          have := (H.out.inv.queue f' n').1 hp
          exact (H.out.inv.file f' this.1).inside n' this.2) f hf).1
      have hbr : bm < wr.heap.size := hM1.lt
      have hdr : d < wr.heap.size := (Array.getElem?_eq_some_iff.1 hd).1
      have HF := Lib.hid hF
      have HO := Lib.hid hO
      have HK := Lib.hid hK
      have HD := Lib.hid hd
      have HG := Lib.hid hG
      have HM2 := Lib.hid hM2
      have HM3 := Lib.hid hM3
      have HRG := Lib.hid hrg
      have HK1 := Lib.hid hk1
      have HF1 := Lib.hid hF1
      have HGO := Lib.hid hGok
      clear hF hO hK hd hG hM1 hM2 hM3 hrg hg1 hk1 hF1 hGok htk
      obtain ⟨w0, rfl⟩ : ∃ w0, w0 = wr := ⟨_, rfl⟩
      go_wp2_with fail
      go_loopw [7] (fun _ wr => ∃ (left : Lit → Bool) (cnt : Nat) (own2 : Nat → Nat → Prop), wr.ranges Tryz.prog 3 ptrElem bm w0.heap.size 16 Dm left cnt ∧ FilesIn wr blk own2 (fun i => if left (.int .i64 (i : Int)) then G i else (G i).revert) ∧
          (∀ i, i < 16 → ∀ x, own2 i x → own' i x ∨ w0.heap.size < x) ∧ Kept (fun x => ∃ i, i < 16 ∧ own' i x) w0 wr) (fun _ wr => wr.rangeLeft bm w0.heap.size)
      case atStart =>
        refine ⟨_, _, own', HRG.out, ⟨fun i hi => ?_, HF1.out.lt, HF1.out.one⟩, fun i _ x hx => Or.inl hx, HK1.out.mono (fun _ _ e => e.elim)⟩
        rw [(HM3.out i hi).1]
        exact HF1.out.file i hi
      case round =>
        obtain ⟨left, cnt, own2, hrg, hF, hO2, hK2⟩ := hrel
        rcases hrg.next lawI 0 with ⟨_, hl0, hnx⟩ | ⟨key, v, kl, y, wx, cnt', hkey, hlk, hRv, hat, hnx, hrg', hlt, hgx, hszx, hen⟩
        · have hk2' : Kept (fun x => ∃ i, i < 16 ∧ own i x) w wr := HK.out.trans hK2 (fun x hx ⟨i, hi, ho⟩ => ⟨i, hi, by
            rcases HO.out i hi x ho with h2 | h2
            · exact h2
            · omega⟩)
          have hD2 := hk2'.heap H.out.cell (fun ⟨i, hi, ho⟩ => (H.out.ownNe i hi d ho).1 rfl)
          have hF2 : FilesIn wr blk own2 (fun f => (G f).revert) := ⟨fun i hi => by
            have := hF.file i hi
            simp only [hl0] at this
            exact this, hF.lt, hF.one⟩
          have hO2' : ∀ i, i < 16 → ∀ x, own2 i x → own i x ∨ w.heap.size ≤ x := fun i hi x hx => by
            have hs := HK.out.size
            rcases hO2 i hi x hx with h1 | h1
            · exact HO.out i hi x h1
            · exact Or.inr (by omega)
          have c1 : wr.cell? ⟨d, 1, none⟩ = some (.slice qa L qc) := by rw [Lib.cell_of_heap hD2]; rfl
          have c2 : wr.cell? ⟨d, 2, none⟩ = some (.bool X.down) := by rw [Lib.cell_of_heap hD2]; rfl
          have z1 : wr.frozen? ⟨d, 1, none⟩ = false := Lib.frozen_of_heap hD2 1
          have z2 : wr.frozen? ⟨d, 2, none⟩ = false := Lib.frozen_of_heap hD2 2
          obtain ⟨W3, hW3⟩ : ∃ W3, W3 = (wr.setCell ⟨d, 1, none⟩ (.slice none 0 0)).setCell ⟨d, 2, none⟩ (.bool true) := ⟨_, rfl⟩
          have hk3 : Kept (fun k => k = d) wr W3 := by rw [hW3]; exact (Kept.set d 1 wr _).trans (Kept.set d 2 _ _) (fun _ _ e => e)
          have hn2 : ∀ i, i < 16 → ∀ x, own2 i x → x ≠ d ∧ x ≠ bm ∧ kv.ownBlock ≠ some x := fun i hi x hx => by
            have hd := H.out.lt (Or.inl rfl)
            have hb := H.out.lt (Or.inr (Or.inl rfl))
            rcases hO2' i hi x hx with h1 | h1
            · have := H.out.ownNe i hi x h1
              exact ⟨this.1, this.2.1, this.2.2.2⟩
            · exact ⟨by omega, by omega, fun e => by have := own_lt H.out.keep e; omega⟩
          have hX3 : DiskAt W3 d bm blk own2 (.slice none 0 0) kv ⟨fun f => (saveAll l X.queue 0 X.file f).revert, [], true, X.lost, X.left, X.keep⟩ := by
            have hk03 := hk2'.mono (S' := fun x => x = d ∨ ∃ i, i < 16 ∧ own i x) (fun _ _ e => Or.inr e) |>.trans hk3 (fun _ _ e => Or.inl e)
            have hci := D.crash_inv H.out.inv l
            unfold D.crash at hci
            rw [HUP.out] at hci
            refine { cell := ?_, files := ?_, queue := World.ownsRow_nil _ _ _ _, keep := ?_, file := fun i hi => ?_, inv := ?_, lost := H.out.lost, left := H.out.left, keepIn := H.out.keepIn, keepLen := H.out.keepLen, ownLt := fun i hi x hx => Nat.lt_of_lt_of_le (hF2.lt i hi x hx) hk3.size, ownNe := fun i hi x hx => ?_, ownOne := hF2.one, apart := ?_ }
            · rw [hW3]
              exact cells6_set (cells6_set hD2 1 (.slice none 0 0) (by omega)) 2 (.bool true) (by omega)
            · exact H.out.files.kept hk03 (fun e => by
                rcases e with e | ⟨i, hi, ho⟩
                · exact H.out.apart.1 e.symm
                · exact (H.out.ownNe i hi bm ho).2.1 rfl)
            · exact own_kept H.out.keep hk03 (fun k e e' => by
                rcases e' with e' | ⟨i, hi, ho⟩
                · exact H.out.apart.2.2.2.1 (by rw [e, e'])
                · exact (H.out.ownNe i hi k ho).2.2.2 e)
            · rw [← HG.out]
              exact (hF2.file i hi).kept hk3 (fun k ho e => (hn2 i hi k ho).1 e)
            · exact D.set_inv (d := ⟨fun f => (saveAll l X.queue 0 X.file f).revert, [], true, X.lost, 0, []⟩) hci X.lost X.left X.keep true
            · have := hn2 i hi x hx
              exact ⟨this.1, this.2.1, by simp [Value.ownBlock], this.2.2⟩
            · obtain ⟨a1, a2, a3, a4, a5, a6⟩ := H.out.apart
              exact ⟨a1, by simp [Value.ownBlock], by simp [Value.ownBlock], a4, a5, by simp [Value.ownBlock]⟩
          have q := (arm_at d bm blk own2 (.slice none 0 0) kv _ 0 (by omega) (.slice none 0 0) [] W3 hX3 ⟨none, 0, rfl, rfl, fun _ => rfl, fun _ h => by cases h⟩ (by simp) (by simp))
          have Q := Lib.hid q
          have HW3 := Lib.hid hW3
          have HK3 := Lib.hid hk3
          have HK2' := Lib.hid hk2'
          have HO2 := Lib.hid hO2'
          clear hrg hF hO2 hK2 hk2' hD2 hF2 hO2' hk3 hn2 hX3 q hW3 hl0
          go_wp2_with (go_at_call 11; rw [← HW3.out]; refine Q.out.mono ?_; rintro e w4 ⟨rfl, kv', hd4, hk4, hf4⟩)
          go_end0
          have hX : X.crash l = D.arm ⟨fun f => (saveAll l X.queue 0 X.file f).revert, [], true, X.lost, X.left, X.keep⟩ 0 [] := by unfold D.crash; rw [HUP.out]; rfl
          rw [hX]
          have hk03 := (HK2'.out.mono (S' := fun x => x = d ∨ ∃ i, i < 16 ∧ own i x) (fun _ _ e => Or.inr e)).trans HK3.out (fun _ _ e => Or.inl e)
          have hsz := hk03.size
          exact ⟨rfl, own2, kv', hd4, hk03.trans hk4 (fun _ _ e => Or.inl e), HO2.out, fun k e => by have := hf4 k e; omega⟩
        · have hhas : Maps.has Dm kl = true := Maps.has_true_of_atKey hat
          obtain ⟨i, hi, rfl⟩ := HM2.out kl hhas
          obtain ⟨x, rfl, e, _⟩ := Maps.keyOf_int_inv Tryz.underlying3 hkey
          injection e with _ e
          subst e
          have e1 := (HM3.out i hi).2 .nil
          rw [hat .nil] at e1
          obtain ⟨y1, y2⟩ := y
          simp only at e1
          subst e1
          obtain rfl := ptrElem_inv hRv
          have hkx : Kept (fun k => k = w0.heap.size) wr wx := Kept.grown hgx (fun k e => by injection e with e; exact e.symm)
          have hor : ∀ j, j < 16 → ∀ x, own2 j x → ¬ x = w0.heap.size := fun j hj x hx e => by
            rcases hO2 j hj x hx with h1 | h1
            · have := HF.out.lt j hj x h1; omega
            · omega
          have hFx := hF.kept hkx hor
          obtain ⟨nv, dv, mb, hFA, hFS⟩ := hFx.file i hi
          simp only [hlk, if_true] at hFA
          have q := (revert_c (blk i) nv dv mb (G i) wx hFA (HGO.out i hi)).mono (R' := fun e w2 => e = .returned (.tuple #[]) ∧ ∃ own3, w2.ranges Tryz.prog 3 ptrElem bm w0.heap.size 16 Dm (fun x => left x && !x.sameKey (.int .i64 (i : Int))) cnt' ∧
              FilesIn w2 blk own3 (fun j => if (left (.int .i64 (j : Int)) && !(Lit.int .i64 (j : Int)).sameKey (.int .i64 (i : Int))) then G j else (G j).revert) ∧ (∀ i, i < 16 → ∀ x, own3 i x → own' i x ∨ w0.heap.size < x) ∧ Kept (fun x => ∃ i, i < 16 ∧ own' i x) w0 w2) (by
            rintro e w2 ⟨rfl, nv2, mb2, hF2, hK3, hb2, hm2⟩
            have hrl := hrg'.lt
            have hsw : w0.heap.size < wx.heap.size := hrl
            have hst := hFx.step hi hK3 hFS (f := (G i).revert) ⟨nv2, dv, mb2, hF2, fun x hin => by
              rcases hin with hx | hx | hx | hx
              · exact Or.inl (hFS x (Or.inl hx))
              · exact Or.inr (by omega)
              · rcases hb2 with hb2 | ⟨y, hb2, hy⟩
                · exact Or.inl (hFS x (Or.inr (Or.inr (Or.inl (by rw [← hb2]; exact hx)))))
                · rw [hb2] at hx
                  injection hx with hx
                  exact Or.inr (by rw [← hx]; exact hy)
              · exact Or.inl (hFS x (Or.inr (Or.inr (Or.inr hx))))⟩
            refine ⟨rfl, ownUp own2 i wx.heap.size w2.heap.size, ranges_kept hrg' hK3 (fun e => ?_) (fun e => ?_), ⟨fun j hj => ?_, hst.lt, hst.one⟩, fun j hj x hx => ?_, ?_⟩
            · have h1 := hFS _ e
              rcases hO2 i hi _ h1 with h2 | h2
              · rcases HO.out i hi _ h2 with h3 | h3
                · exact (H.out.ownNe i hi bm h3).2.1 rfl
                · have := H.out.lt (Or.inr (Or.inl rfl)); omega
              · omega
            · exact hor i hi _ (hFS _ e) rfl
            · have := hst.file j hj
              by_cases e : j = i
              · subst e
                rw [upd_same] at this
                rw [sameInt j j (by omega)]
                simpa using this
              · rw [upd_other _ _ e] at this
                rw [sameInt j i (by omega)]
                have e2 : (j == i) = false := by simp [e]
                rw [e2]
                simpa using this
            · rcases ownUp_or hx with hx | hx
              · exact hO2 j hj x hx
              · exact Or.inr (by omega)
            · refine (hK2.trans hkx (fun x hx e => by omega)).trans hK3 (fun x hx e => ⟨i, hi, ?_⟩)
              rcases hO2 i hi x (hFS x e) with h2 | h2
              · exact h2
              · omega)
          have Q := Lib.hid q
          have HG1 := Lib.hid hrg
          have HG2 := Lib.hid hrg'
          have HLT := Lib.hid hlt
          clear q hrg hrg' hlt hF hO2 hK2 hkx hor hFx hFA hFS hhas hat hRv hkey hlk hgx hszx
          go_wp2_with (go_at_call 34; refine Q.out.mono ?_; rintro e w2 ⟨rfl, own3, r0, r1, r2, r3⟩)
          go_roundw
          case rel => exact ⟨_, _, own3, r0, r1, r2, r3⟩
          case measure =>
            rw [r0.left_eq, HG1.out.left_eq]
            exact HLT.out

set_option maxRecDepth 100000 in
theorem crash_dn (d bm : Nat) (blk : Nat → Nat) (own : Nat → Nat → Prop) (qv kv : Value) (X : D) (v : Value) (w : World) (h : DiskAt w d bm blk own qv kv X) (hup : X.down = true) :
    Calls Tryz.prog 18 #[.pointer (some ⟨d, 0, none⟩), v] w fun e w' => e = .returned (.tuple #[]) ∧ w' = w := by
  have k2 := h.c2
  rw [hup] at k2
  clear h
  go_enter Tryz.func18, Tryz.ntmps18
  go_wp2_with fail
  (try simp only [Exit.inBlock, Exit.then])
  refine bodyPost_ret (results_none rfl _ _ _) rfl ?_
  exact ⟨rfl, rfl⟩

/-- What a disk may hold after a method, and what the method may have turned. -/
def After (S : Nat → Prop) (w : World) : Nat → Prop := fun k => S k ∨ w.heap.size ≤ k

theorem crash_c (d : Nat) (S : Nat → Prop) (X : D) (v : Value) (l : List Int) (w : World) (h : DiskIn w d S X) (hs : KeepAt w v l S) (hl : l.length ≤ 9223372036854775807)
    (hin : ∀ k ∈ l, -9223372036854775808 ≤ k ∧ k ≤ 9223372036854775807) :
    Calls Tryz.prog 18 #[.pointer (some ⟨d, 0, none⟩), v] w fun e w' => e = .returned (.tuple #[]) ∧ DiskIn w' d (After S w) (X.crash l) ∧ Kept S w w' := by
  obtain ⟨bm, blk, own, qv, kv, h, hS⟩ := h
  cases hup : X.down with
  | true =>
    refine (crash_dn d bm blk own qv kv X v w h hup).mono ?_
    rintro e w' ⟨rfl, rfl⟩
    have : X.crash l = X := by unfold D.crash; rw [hup]; rfl
    rw [this]
    exact ⟨rfl, ⟨bm, blk, own, qv, kv, h, fun k hin => Or.inl (hS k hin)⟩, Kept.refl _ _⟩
  | false =>
    have hs' : KeepAt w v l (fun k => ∃ i, i < 16 ∧ own i k) := by
      obtain ⟨a, c, h1, h2⟩ := hs
      refine ⟨a, c, h1, fun hne => ?_⟩
      obtain ⟨b, off, h3, h4, h5⟩ := h2 hne
      exact ⟨b, off, h3, fun ⟨i, hi, ho⟩ => h4 (hS b (Or.inr (Or.inr (Or.inr (Or.inr ⟨i, hi, ho⟩))))), h5⟩
    refine (crash_up d bm blk own qv kv X v l w h hup hs' hl hin).mono ?_
    rintro e w' ⟨rfl, own', kv', hd, hk, ho, hf⟩
    refine ⟨rfl, ⟨bm, blk, own', _, kv', hd, fun k hin => ?_⟩, hk.mono (fun k _ e => ?_)⟩
    · rcases hin with e | e | e | e | ⟨i, hi, e⟩
      · exact Or.inl (hS k (Or.inl e))
      · exact Or.inl (hS k (Or.inr (Or.inl e)))
      · simp [Value.ownBlock] at e
      · exact Or.inr (hf k e)
      · rcases ho i hi k e with h1 | h1
        · exact Or.inl (hS k (Or.inr (Or.inr (Or.inr (Or.inr ⟨i, hi, h1⟩)))))
        · exact Or.inr h1
    · rcases e with e | ⟨i, hi, e⟩
      · exact hS k (Or.inl e)
      · exact hS k (Or.inr (Or.inr (Or.inr (Or.inr ⟨i, hi, e⟩))))
end Go.Proofs.YtljgfnglknpfaaaGreatDoor

namespace Go.Proofs.YtljgfnglknpfaaaGreatDoor
set_option maxRecDepth 100000
open Go Go.RowKit Go.Maps Dk

set_option maxRecDepth 100000 in
theorem strike_c (d : Nat) (S : Nat → Prop) (X : D) (w : World) (h : DiskIn w d S X) :
    Calls Tryz.prog 52 #[.pointer (some ⟨d, 0, none⟩)] w fun e w' => e = .returned (.bool X.strike.2) ∧ DiskIn w' d (After S w) X.strike.1 ∧ Kept S w w' := by
  obtain ⟨bm, blk, own, qv, kv, h, hS⟩ := h
  have k4 := h.c4
  have z4 := h.z 4
  have hle := h.left
  by_cases h0 : X.left = 0
  · have e : X.strike = (X, false) := by unfold D.strike; rw [if_pos h0]
    rw [e]
    rw [h0] at k4
    have H := Lib.hid h
    clear h
    go_enter Tryz.func52, Tryz.ntmps52
    go_wp2_with fail
    go_ret
    exact ⟨rfl, ⟨bm, blk, own, qv, kv, H.out, fun k hin => Or.inl (hS k hin)⟩, Kept.refl _ _⟩
  · obtain ⟨m, hm⟩ : ∃ m, X.left = m + 1 := ⟨X.left - 1, by omega⟩
    rw [hm] at k4
    have k4' : w.cell? ⟨d, 4, none⟩ = some (.int .i64 ((m : Int) + 1)) := by rw [k4]; rfl
    have hk1 := Kept.set d 4 w (.int .i64 (m : Int))
    have hD1 := h.recell hk1 X.down X.lost m (cells6_set h.cell 4 (.int .i64 (m : Int)) (by omega)) h.lost (by omega)
    obtain ⟨W1, hW1⟩ : ∃ W1, W1 = w.setCell ⟨d, 4, none⟩ (.int .i64 (m : Int)) := ⟨_, rfl⟩
    rw [← hW1] at hD1 hk1
    have hmb : (m : Int) ≤ 9223372036854775806 := by omega
    by_cases hm0 : m = 0
    · subst hm0
      have e : X.strike = (D.crash { X with left := 0 } X.keep, true) := by unfold D.strike; rw [if_neg h0, if_pos hm]
      rw [e]
      obtain ⟨ka, kc, rfl, _, hkc, _⟩ := own_shape h.keep
      have k5w := h.c5
      have k5 : W1.cell? ⟨d, 5, none⟩ = some (.slice ka X.keep.length kc) := hD1.c5
      have hkeep : KeepAt W1 (.slice ka X.keep.length kc) X.keep (fun k => ∃ i, i < 16 ∧ own i k) := by
        refine ⟨ka, kc, rfl, fun hne => ?_⟩
        have hpos : 0 < X.keep.length := List.length_pos_iff.2 hne
        obtain ⟨g, rfl, hg⟩ := own_at hD1.keep rfl hpos
        refine ⟨g, 0, rfl, fun ⟨i, hi, ho⟩ => (hD1.ownNe i hi g ho).2.2.2 hg, fun j x hx => ?_⟩
        have := own_cell hD1.keep rfl j (.int .i64 x) (by simp [intsV]; exact hx)
        rw [Lib.add_plain] at this
        exact this
      have q : Calls Tryz.prog 18 #[.pointer (some ⟨d, 0, none⟩), .slice ka X.keep.length kc] W1 fun e w' => e = .returned (.tuple #[]) ∧ DiskIn w' d (After S w) (D.crash { X with left := 0 } X.keep) ∧ Kept S W1 w' := by
        have hsz := hk1.size
        by_cases hup : X.down = true
        · refine (crash_dn d bm blk own _ _ _ _ W1 hD1 hup).mono ?_
          rintro e w' ⟨rfl, rfl⟩
          have : D.crash { X with left := 0 } X.keep = { X with left := 0 } := by unfold D.crash; rw [if_pos hup]
          rw [this]
          exact ⟨rfl, ⟨bm, blk, own, _, _, hD1, fun k hin => Or.inl (hS k hin)⟩, Kept.refl _ _⟩
        · refine (crash_up d bm blk own _ _ _ _ X.keep W1 hD1 (by simpa using hup) hkeep (by have := h.keepLen; omega) h.keepIn).mono ?_
          rintro e w' ⟨rfl, own', kv', hd, hk, ho, hf⟩
          refine ⟨rfl, ⟨bm, blk, own', _, kv', hd, fun k hin => ?_⟩, hk.mono (fun k _ e => ?_)⟩
          · rcases hin with e | e | e | e | ⟨i, hi, e⟩
            · exact Or.inl (hS k (Or.inl e))
            · exact Or.inl (hS k (Or.inr (Or.inl e)))
            · simp [Value.ownBlock] at e
            · exact Or.inr (by have := hf k e; omega)
            · rcases ho i hi k e with h1 | h1
              · exact Or.inl (hS k (Or.inr (Or.inr (Or.inr (Or.inr ⟨i, hi, h1⟩)))))
              · exact Or.inr (by omega)
          · rcases e with e | ⟨i, hi, e⟩
            · exact hS k (Or.inl e)
            · exact hS k (Or.inr (Or.inr (Or.inr (Or.inr ⟨i, hi, e⟩))))
      have j4 : W1.cell? ⟨d, 4, none⟩ = some (.int .i64 0) := hD1.c4
      have Q := Lib.hid q
      have HW1 := Lib.hid hW1
      have HK1 := Lib.hid hk1
      have HS := Lib.hid hS
      clear h hD1 hkeep q hW1 hk1 hS e k4 hkc
      go_enter Tryz.func52, Tryz.ntmps52
      rw [show (((0 : Nat) : Int)) = 0 from rfl] at HW1
      go_wp2_with (go_at_call 18; rw [← HW1.out]; refine Q.out.mono ?_; rintro e w2 ⟨rfl, hd2, hk2⟩)
      go_ret
      exact ⟨rfl, hd2, (HK1.out.mono (fun k _ e => by subst e; exact HS.out k (Or.inl rfl))).trans hk2 (fun _ _ e => e)⟩
    · have e : X.strike = ({ X with left := X.left - 1 }, false) := by unfold D.strike; rw [if_neg h0, if_neg (by omega)]
      have e2 : X.left - 1 = m := by omega
      rw [e, e2]
      have H := Lib.hid hD1
      have HK1 := Lib.hid hk1
      have HS := Lib.hid hS
      have HW1 := Lib.hid hW1
      have hmp : 0 < m := by omega
      clear h hD1 hk1 hS hW1 e e2 k4
      go_enter Tryz.func52, Tryz.ntmps52
      go_wp2_with fail
      go_ret
      rw [← HW1.out]
      exact ⟨rfl, ⟨bm, blk, own, qv, kv, H.out, fun k hin => Or.inl (HS.out k hin)⟩, HK1.out.mono (fun k _ e => by subst e; exact HS.out k (Or.inl rfl))⟩
end Go.Proofs.YtljgfnglknpfaaaGreatDoor

namespace Go.Proofs.YtljgfnglknpfaaaGreatDoor
set_option maxRecDepth 100000
open Go Go.RowKit Go.Maps Dk

theorem pred_c (f a n : Int) (bf : Nat) (w : World) (hb : w.cell? ⟨bf, 0, none⟩ = some (.int .i64 f)) :
    Calls Tryz.prog 66 #[.agg #[.int .i64 a, .int .i64 n], .pointer (some ⟨bf, 0, none⟩)] w fun e w' => e = .returned (.bool (a == f)) ∧ Below w.heap.size w w' := by
  have hl : bf < w.heap.size := by have := World.block_lt_of_cell? _ _ hb; simpa using this
  have hl1 : ¬ bf = w.heap.size := by omega
  have hl2 : ¬ w.heap.size = bf := by omega
  go_enter Tryz.func66, Tryz.ntmps66
  go_wp2_with fail
  go_ret
  exact ⟨rfl, (Below.refl _ w).alloc (Nat.le_refl _) _⟩

def NoneOf (q : List (Nat × Nat)) (f : Nat) : Prop := ∀ p ∈ q, p.1 ≠ f
def NoneTo (q : List (Nat × Nat)) (f i : Nat) : Prop := ∀ j : Nat, j < i → ∀ p, q[j]? = some p → p.1 ≠ f
def FirstAt (q : List (Nat × Nat)) (f i : Nat) : Prop := ∃ n, q[i]? = some (f, n) ∧ NoneTo q f i

set_option maxRecDepth 100000 in
theorem idx_c (f : Nat) (bf : Nat) (v : Value) (q : List (Nat × Nat)) (w : World) (h : w.ownsRow 0 75 2 v q.length (secsV q)) (hb : w.cell? ⟨bf, 0, none⟩ = some (.int .i64 (f : Int))) :
    Calls Tryz.prog 71 #[v, .func (.func 66) #[] #[.pointer (some ⟨bf, 0, none⟩)]] w fun e w' => Below w.heap.size w w' ∧
      ((∃ i : Nat, FirstAt q f i ∧ e = .returned (.int .i64 (i : Int))) ∨ (NoneOf q f ∧ e = .returned (.int .i64 (-1)))) := by
  obtain ⟨a, c, rfl, hc, hcm, hno⟩ := own_shape h
  obtain ⟨L, hL⟩ : ∃ L, L = q.length := ⟨_, rfl⟩
  rw [← hL] at h hc ⊢
  have hLm : L ≤ 9223372036854775807 := by unfold maxLen at hcm; omega
  have H := Lib.hid h
  have HL := Lib.hid hL
  have HB := Lib.hid hb
  have HN := Lib.hid hno
  clear h hL hb hcm hno
  go_enter Tryz.func71, Tryz.ntmps71
  go_wp2_with fail
  go_loopw [8] (fun v8 wr => ∃ k : Nat, k ≤ L ∧ v8 = .int .i64 (k : Int) ∧ NoneTo q f k ∧ Below w.heap.size w wr) (fun v8 _ => L - (intOf v8).toNat)
  case atStart => exact ⟨0, Nat.zero_le _, rfl, fun j hj => absurd hj (Nat.not_lt_zero _), Below.refl _ _⟩
  case round =>
    obtain ⟨k, hk, rfl, hno, hbk⟩ := hrel
    have HNO := Lib.hid hno
    have HBK := Lib.hid hbk
    by_cases hkL : k < L
    · have hkL2 : (k : Int) < (L : Int) := by omega
      obtain ⟨p, hp⟩ : ∃ p, q[k]? = some p := ⟨q[k]'(by have := HL.out; omega), List.getElem?_eq_getElem _⟩
      obtain ⟨x, n⟩ := p
      have hq := own_kept H.out (Kept.below (S := fun _ => False) hbk) (fun _ _ e => e)
      obtain ⟨g, hga, hgq⟩ : ∃ g, a = some ⟨g, 0, none⟩ ∧ ∀ j u, (secsV q)[j]? = some u → wr.cell? ⟨g, j, none⟩ = some u := by
        cases a with
        | none => have := (HN.out rfl).1; have := HL.out; omega
        | some ad =>
          rcases hq.2 with ⟨e, _⟩ | ⟨g, cap, cur, e, _⟩
          · cases e
          · injection e with e
            injection e with e
            subst e
            refine ⟨g, rfl, fun j u hu => ?_⟩
            have := own_cell hq (by rw [HL.out]) j u hu
            rw [Lib.add_plain, Nat.zero_add] at this
            exact this
      subst hga
      have c1 := hgq _ _ (secsV_get _ k _ hp).1
      have c2 := hgq _ _ (secsV_get _ k _ hp).2
      have q0 := pred_c f x n bf wr ((Kept.below (S := fun _ => False) hbk).cell HB.out (fun e => e))
      have HP := Lib.hid hp
      clear hno hbk hq hgq hp
      by_cases hxf : x = f
      · subst hxf
        have e : ((x : Int) == (x : Int)) = true := by simp
        rw [e] at q0
        have Q := Lib.hid q0
        clear q0 e
        go_wp2_with (go_at_call 66; refine Q.out.mono ?_; rintro e w2 ⟨rfl, hb2⟩)
        go_ret
        exact ⟨HBK.out.trans (hb2.mono HBK.out.size), Or.inl ⟨k, ⟨n, HP.out, HNO.out⟩, rfl⟩⟩
      · have e : ((x : Int) == (f : Int)) = false := by simp; omega
        rw [e] at q0
        have Q := Lib.hid q0
        clear q0 e
        go_wp2_with (go_at_call 66; refine Q.out.mono ?_; rintro e w2 ⟨rfl, hb2⟩)
        go_roundw
        case rel =>
          refine ⟨k + 1, hkL, by go_num, fun j hj p hp => ?_, HBK.out.trans (hb2.mono HBK.out.size)⟩
          by_cases e : j = k
          · subst e
            rw [HP.out] at hp
            injection hp with hp
            rw [← hp]
            exact hxf
          · exact HNO.out j (by omega) p hp
        case measure => simp [intOf]; omega
    · have hkL2 : ¬ (k : Int) < (L : Int) := by omega
      clear hno hbk
      go_wp2_with fail
      go_ret
      refine ⟨HBK.out, Or.inr ⟨fun p hp => ?_, by rfl⟩⟩
      obtain ⟨j, hj, e⟩ := List.mem_iff_getElem.1 hp
      exact HNO.out j (by have := HL.out; omega) p (by rw [← e]; exact List.getElem?_eq_getElem hj)

theorem secsV_set (M : List (Nat × Nat)) : ∀ (i : Nat) (p : Nat × Nat), i < M.length → ((secsV M).set (i * 2) (.int .i64 (p.1 : Int))).set (i * 2 + 1) (.int .i64 (p.2 : Int)) = secsV (M.set i p) := by
  induction M with
  | nil => intro i p h; simp at h
  | cons a M ih =>
    intro i p h
    have e : ∀ (a : Nat × Nat) (M : List (Nat × Nat)), secsV (a :: M) = [Value.int .i64 (a.1 : Int), .int .i64 (a.2 : Int)] ++ secsV M := fun a M => by simp [secsV]
    cases i with
    | zero => rw [e, List.set_cons_zero, e]; rfl
    | succ i =>
      rw [e, List.set_cons_succ, e, ← ih i p (by simpa using h)]
      have e1 : (i + 1) * 2 = i * 2 + 2 := by omega
      rw [e1]
      rfl
theorem secsV_take (M : List (Nat × Nat)) : ∀ (i : Nat), (secsV M).take (i * 2) = secsV (M.take i) := by
  induction M with
  | nil => intro i; simp [secsV]
  | cons a M ih =>
    intro i
    have e : ∀ (a : Nat × Nat) (M : List (Nat × Nat)), secsV (a :: M) = [Value.int .i64 (a.1 : Int), .int .i64 (a.2 : Int)] ++ secsV M := fun a M => by simp [secsV]
    cases i with
    | zero => simp [secsV]
    | succ i =>
      rw [List.take_succ_cons, e, e, ← ih i]
      have e1 : (i + 1) * 2 = i * 2 + 2 := by omega
      rw [e1]
      simp
theorem sizeSec (wx : World) : ((sizeOf (Tryz.prog.elem 51)).run Tryz.prog wx) = .ok 2 wx := by
  obtain ⟨i0, hi, hz0, hz1, hz2⟩ := info_parts infoSec
  have e : Tryz.prog.elem 51 = 75 := by kernel_rfl
  rw [e]; simp [sizeOf, typeInfo, hi, hz1]
theorem sec_from (a : Option Addr) (n c k : Nat) (h : k ≤ n) : ∃ A, (∀ wx : World, (Instr.slice 51 (.slice a n c) (some (.int .i64 (k : Int))) none none).run Tryz.prog wx = .ok (.slice A (n - k) (c - k)) wx) ∧ (k < c → A = a.map (·.add (k * 2))) := by
  refine ⟨if c = k then a else a.map (·.add (k * 2)), fun wx => ?_, fun h => by simp [show c ≠ k by omega]⟩
  have hs := run_slice_l (P := Tryz.prog) wx 51 a n c Tryz.underlying51 .i64 k (by omega) (by omega)
  rw [hs, sizeSec wx]
  simp [Result.andThen, sliced]
theorem sec_to (a : Option Addr) (n c h : Nat) (h2 : h ≤ c) (wx : World) : (Instr.slice 51 (.slice a n c) none (some (.int .i64 (h : Int))) none).run Tryz.prog wx = .ok (.slice a h c) wx := by
  have hs := run_slice_h (P := Tryz.prog) wx 51 a n c Tryz.underlying51 .i64 h (by omega) (by omega)
  rw [hs, sizeSec wx]
  cases a <;> simp [Result.andThen, sliced, Addr.add]
section
variable {P : Program}
/-- 'clear(s[i:])' at the end of a slice that is owned: the first i elements stay. -/
theorem run_clear_tail (w : World) (t ty e : TypeId) (z : Value) (size : Nat) (ht : P.underlying t = some (.slice e)) (hv : ∀ w, (zeroValue e).run P w = .ok z w) (hzs : z.cells.size = size) (h1 : ∀ u ∈ z.cells.toList, u.oneCell' = true)
    (g n c : Nat) (xs : List Value) (hown : w.ownsRow 0 e size (.slice (some ⟨g, 0, none⟩) n c) n xs) (i : Nat) (hi : i ≤ n) (A : Option Addr) (c' : Nat) (hA : 0 < n - i → A = some ⟨g, i * size, none⟩) :
    ∃ w', (Builtin.clear_ #[t] ty #[.slice A (n - i) c']).run P w = .ok (.tuple #[]) w' ∧ w'.ownsRow 0 e size (.slice (some ⟨g, 0, none⟩) i c) i (xs.take (i * size)) ∧ w.grownBy w' (some g) := by
  by_cases h0 : n - i = 0
  · refine ⟨w, ?_, own_take hown hi, ⟨rfl, rfl, rfl, Nat.le_refl _, fun _ _ _ => rfl⟩⟩
    rw [h0]
    cases A <;> simp [Builtin.clear_, run_underlying ht]
  · obtain rfl := hA (by omega)
    obtain ⟨m, hm⟩ : ∃ m, n - i = m + 1 := ⟨n - i - 1, by omega⟩
    rcases hown.2 with ⟨e1, _⟩ | ⟨g', cap, cur, e1, hbg, hg, hnc, hcm, hcs, htake⟩
    · cases e1
    · injection e1 with e1 _ e3
      injection e1 with e1
      injection e1 with e1
      subst e1 e3
      have hle : (i + (m + 1)) * size ≤ c * size := Nat.mul_le_mul_right _ (by omega)
      rw [Nat.add_mul] at hle
      have hlen : ((Builtin.zeroCells z.cells (m + 1)).toList).length = (m + 1) * size := by rw [Array.length_toList, size_zeroCells, hzs]
      have hz1 : ∀ u ∈ (Builtin.zeroCells z.cells (m + 1)).toList, u.oneCell' = true := by
        intro u hu
        simp only [Builtin.zeroCells, Array.toList_map, List.mem_map] at hu
        obtain ⟨j, hj, rfl⟩ := hu
        have hj' : j < (m + 1) * z.cells.size := by simpa using hj
        have hpos : 0 < z.cells.size := by
          rcases Nat.eq_zero_or_pos z.cells.size with h | h
          · rw [h] at hj'; omega
          · exact h
        have hlt := Nat.mod_lt j hpos
        refine h1 _ ?_
        rw [getElem!_pos z.cells _ hlt]
        exact Array.getElem_mem_toList hlt
      have hst := run_storeCells_at P g (i * size) e (Builtin.zeroCells z.cells (m + 1)).toList 0 cur w hg (by rw [hlen, hcs]; omega) hz1
      simp only [Nat.add_zero] at hst
      refine ⟨w.setRow g (cur.toList.take (i * size) ++ (Builtin.zeroCells z.cells (m + 1)).toList ++ cur.toList.drop (i * size + (Builtin.zeroCells z.cells (m + 1)).toList.length)).toArray, ?_, ⟨?_, Or.inr ⟨g, c, _, rfl, Nat.zero_le _, setRow_heap w g cur _ e _ hg, by omega, hcm, ?_, ?_⟩⟩, ⟨rfl, rfl, rfl, by simp, fun k _ hk => setRow_other w g k _ (fun e => hk (by rw [e]))⟩⟩
      · rw [hm]
        simp [Builtin.clear_, run_underlying ht, hv, hst]
      · have := hown.1
        have h3 : i * size ≤ n * size := Nat.mul_le_mul_right _ hi
        rw [List.length_take]; omega
      · simp only [List.size_toArray, List.length_append, List.length_take, List.length_drop, Array.length_toList, hlen, hcs]
        simp only [Array.length_toList] at hlen
        omega
      · have h3 : i * size ≤ n * size := Nat.mul_le_mul_right _ hi
        rw [← htake, List.take_take, Nat.min_eq_left h3]
        simp only [List.append_assoc]
        rw [List.take_append_of_le_length (by simp; omega), List.take_take]
        congr 1
        omega
theorem wpList_clear_run {w : World} {ops : Array Oper} {rest : List Oper} {o : Oper} {a : Act} {Q : Exit → Act → World → Prop} (hgd : o.guard = none) (s : Operand) (t : TypeId)
    (ho : o.op = .call { callee := .builtin .clear, args := #[s], argTypes := #[t] }) (vs : Value) (hs : a.eval s = vs) (w' : World) (hr : (Builtin.clear_ #[t] o.type #[vs]).run P w = .ok (.tuple #[]) w')
    (h : wpList P ops Q rest (a.put o.dst (.tuple #[])) w') : wpList P ops Q (o :: rest) a w := by
  refine wpList_plain hgd fun K hK => ?_
  unfold Oper.wp execOp
  simp only [ho, resolve, invoke, builtin, Sem.run_bind, Sem.run_pure, Result.andThen_ok, List.map_toArray, List.map_cons, List.map_nil, hs, hr]
  exact hK _ _ h
end
end Go.Proofs.YtljgfnglknpfaaaGreatDoor

namespace Go.Proofs.YtljgfnglknpfaaaGreatDoor
set_option maxRecDepth 100000
open Go Go.RowKit Go.Maps Dk

def noF (f : Nat) (q : List (Nat × Nat)) : List (Nat × Nat) := q.filter fun p => p.1 != f
theorem noF_none {q : List (Nat × Nat)} {f : Nat} (h : NoneOf q f) : noF f q = q := List.filter_eq_self.2 fun p hp => by simpa using h p hp
theorem noF_take {q : List (Nat × Nat)} {f i : Nat} (h : NoneTo q f i) : noF f (q.take i) = q.take i := List.filter_eq_self.2 fun p hp => by
  obtain ⟨j, hj, e⟩ := List.mem_iff_getElem.1 hp
  have hj' : j < i := by simp at hj; omega
  have hp' := h j hj' p (by rw [← e, List.getElem_take]; exact List.getElem?_eq_getElem _)
  simpa using hp'
theorem noF_succ (q : List (Nat × Nat)) (f j : Nat) (p : Nat × Nat) (hp : q[j]? = some p) : noF f (q.take (j + 1)) = noF f (q.take j) ++ (if p.1 = f then [] else [p]) := by
  rw [List.take_add_one, hp]
  unfold noF
  rw [List.filter_append]
  congr 1
  by_cases h : p.1 = f <;> simp [h]
theorem noF_len (q : List (Nat × Nat)) (f j : Nat) : (noF f (q.take j)).length ≤ j := by
  have := List.length_filter_le (fun p : Nat × Nat => p.1 != f) (q.take j)
  simp at this
  unfold noF
  omega

theorem own_at2 {w : World} {e : TypeId} {size : Nat} {v : Value} {n : Nat} {xs : List Value} (h : w.ownsRow 0 e size v n xs) {a : Option Addr} {c : Nat} (hv : v = .slice a n c) (h0 : 0 < n) : ∃ g, a = some ⟨g, 0, none⟩ ∧ v.ownBlock = some g := by
  rcases h.2 with ⟨rfl, rfl⟩ | ⟨g, cap, cur, rfl, _⟩
  · omega
  · injection hv with hv
    exact ⟨g, hv.symm, rfl⟩

set_option maxHeartbeats 1000000 in
set_option maxRecDepth 100000 in
theorem del_c (f : Nat) (bf : Nat) (v : Value) (q : List (Nat × Nat)) (w : World) (h : w.ownsRow 0 75 2 v q.length (secsV q)) (hb : w.cell? ⟨bf, 0, none⟩ = some (.int .i64 (f : Int))) (hap : v.ownBlock ≠ some bf) :
    Calls Tryz.prog 65 #[v, .func (.func 66) #[] #[.pointer (some ⟨bf, 0, none⟩)]] w fun e w' => ∃ v', e = .returned v' ∧ w'.ownsRow 0 75 2 v' (noF f q).length (secsV (noF f q)) ∧ v'.ownBlock = v.ownBlock ∧ Kept (fun k => v.ownBlock = some k) w w' := by
  have hq := (idx_c f bf v q w h hb).mono (R' := fun e w' => Hid (Below w.heap.size w w') ∧ ((∃ i : Nat, i < q.length ∧ ((i : Int) == -1) = false ∧ Hid (FirstAt q f i) ∧ e = .returned (.int .i64 (i : Int))) ∨ (Hid (NoneOf q f) ∧ e = .returned (.int .i64 (-1))))) (by
    rintro e w' ⟨h1, ⟨i, h2, h3⟩ | ⟨h2, h3⟩⟩
    · exact ⟨h1, Or.inl ⟨i, by obtain ⟨n, hn, _⟩ := h2; exact (List.getElem?_eq_some_iff.1 hn).1, by simp, h2, h3⟩⟩
    · exact ⟨h1, Or.inr ⟨h2, h3⟩⟩)
  obtain ⟨a, c, rfl, hc, hcm, hno⟩ := own_shape h
  obtain ⟨L, hL⟩ : ∃ L, L = q.length := ⟨_, rfl⟩
  rw [← hL] at h hc hq hap ⊢
  have hLm : L ≤ 9223372036854775807 := by unfold maxLen at hcm; omega
  have H := Lib.hid h
  have HL := Lib.hid hL
  have HB := Lib.hid hb
  have HN := Lib.hid hno
  have HAP := Lib.hid hap
  have Q := Lib.hid hq
  have HC := Lib.hid hcm
  clear h hL hb hcm hno hap hq
  go_enter Tryz.func65, Tryz.ntmps65
  go_wp2_with (go_at_call 71; refine Q.out.mono ?_; rintro e w1 ⟨hb1, ⟨i0, hi0, hi0n, hfi, rfl⟩ | ⟨hnf, rfl⟩⟩)
  · obtain ⟨n0, hn0, hto⟩ := hfi.out
    have hb1' := hb1.out
    have hk1 : Kept (fun k => k = k) w w1 := Kept.below hb1'
    obtain ⟨g, rfl, hg⟩ := own_at2 H.out rfl (by omega)
    have hk01 : Kept (fun k => k = g) w w1 := Kept.below hb1'
    have h1 := own_kept H.out (Kept.below (S := fun _ => False) hb1') (fun _ _ e => e)
    have H1 := Lib.hid h1
    have HN0 := Lib.hid hn0
    have HTO := Lib.hid hto
    have HK01 := Lib.hid hk01
    have hgl : g < w1.heap.size := own_lt h1 rfl
    have hbf : g ≠ bf := fun e => HAP.out (by rw [e]; rfl)
    have hb' := (Kept.below (S := fun _ => False) hb1').cell HB.out (fun e => e)
    have HB1 := Lib.hid hb'
    clear hn0 hto hb1' hk1 hg hk01 h1 hb' hb1 hfi
    go_loopw [5, 6] (fun v5 v6 wr => ∃ (j : Nat) (M : List (Nat × Nat)), j ≤ L ∧ v6 = .int .i64 (j : Int) ∧ v5 = .int .i64 ((noF f (q.take j)).length : Int) ∧ M.length = L ∧ M.take (noF f (q.take j)).length = noF f (q.take j) ∧ M.drop j = q.drop j ∧
        wr.ownsRow 0 75 2 (.slice (some ⟨g, 0, none⟩) L c) L (secsV M) ∧ Kept (fun k => k = g) w1 wr) (fun _ v6 _ => L - (intOf v6).toNat)
    case atStart =>
      have e : noF f (q.take (i0 + 1)) = q.take i0 := by rw [noF_succ q f i0 _ HN0.out, noF_take HTO.out]; simp
      have e2 : (q.take i0).length = i0 := by have := HL.out; simp; omega
      exact ⟨i0 + 1, q, by omega, by go_num, by rw [e, e2], HL.out.symm, by rw [e, e2], rfl, H1.out, Kept.refl _ _⟩
    case round =>
      obtain ⟨j, M, hj, rfl, rfl, hM, hMt, hMd, hown, hK⟩ := hrel
      obtain ⟨i, hi⟩ : ∃ i, i = (noF f (q.take j)).length := ⟨_, rfl⟩
      rw [← hi]
      have hij : i ≤ j := by rw [hi]; exact noF_len q f j
      have HI := Lib.hid hi
      have HMT := Lib.hid hMt
      have HMD := Lib.hid hMd
      have HO := Lib.hid hown
      have HK := Lib.hid hK
      have HM := Lib.hid hM
      by_cases hjL : j < L
      · have hjL2 : (j : Int) < (L : Int) := by omega
        obtain ⟨p, hp⟩ : ∃ p, q[j]? = some p := ⟨q[j]'(by have := HL.out; omega), List.getElem?_eq_getElem _⟩
        obtain ⟨x, n⟩ := p
        have hMj : M[j]? = some (x, n) := by
          have : (M.drop j)[0]? = (q.drop j)[0]? := by rw [hMd]
          simpa [hp] using this
        have c1 : wr.cell? ⟨g, j * 2, none⟩ = some (.int .i64 (x : Int)) := by
          have := own_cell_size hown rfl _ _ (secsV_get _ j _ hMj).1
          rw [Lib.add_plain, Nat.zero_add] at this
          exact this
        have c2 : wr.cell? ⟨g, j * 2 + 1, none⟩ = some (.int .i64 (n : Int)) := by
          have := own_cell_size hown rfl _ _ (secsV_get _ j _ hMj).2
          rw [Lib.add_plain, Nat.zero_add] at this
          exact this
        have hgw : g < wr.heap.size := own_lt hown rfl
        have hgn : ¬ g = wr.heap.size := by omega
        have hgn' : ¬ wr.heap.size = g := by omega
        obtain ⟨W1, hW1⟩ : ∃ W1, W1 = wr.alloc (.cells #[.int .i64 (x : Int), .int .i64 (n : Int)] 75) := ⟨_, rfl⟩
        have hal : Kept (fun _ => False) wr W1 := by rw [hW1]; exact Kept.alloc _ _ _
        have hbW : W1.cell? ⟨bf, 0, none⟩ = some (.int .i64 (f : Int)) := hal.cell (hK.cell HB1.out (fun e => hbf e.symm)) (fun e => e)
        have hoW := own_kept hown hal (fun _ _ e => e)
        have hsucc := noF_succ q f j _ hp
        have HSC := Lib.hid hsucc
        have HW1 := Lib.hid hW1
        have HAL := Lib.hid hal
        have HOW := Lib.hid hoW
        have HP := Lib.hid hp
        have q0 := pred_c f x n bf W1 hbW
        by_cases hxf : x = f
        · subst hxf
          have e : ((x : Int) == (x : Int)) = true := by simp
          rw [e] at q0
          have Q1 := Lib.hid q0
          clear hM hMt hMd hown hK q0 e hW1 hal hbW hoW hsucc hp hi hMj
          go_wp2_with (go_at_call 66; rw [← HW1.out]; refine Q1.out.mono ?_; rintro e w2 ⟨rfl, hb2⟩)
          go_roundw
          case rel =>
            have hk2 : Kept (fun _ => False) W1 w2 := Kept.below hb2
            have e1 : noF x (q.take (j + 1)) = noF x (q.take j) := by rw [HSC.out]; simp
            exact ⟨j + 1, M, hjL, by go_num, by rw [e1, HI.out], HM.out, by rw [e1]; exact HMT.out, by rw [← List.drop_drop, HMD.out, List.drop_drop], own_kept HOW.out hk2 (fun _ _ e => e), (HK.out.trans HAL.out (fun _ _ e => e.elim)).trans hk2 (fun _ _ e => e.elim)⟩
          case measure => simp [intOf]; omega
        · have e : ((x : Int) == (f : Int)) = false := by simp; omega
          rw [e] at q0
          have q1 := q0.mono (R' := fun e w2 => e = .returned (.bool false) ∧ (w2.cell? ⟨wr.heap.size, 0, none⟩ = some (.int .i64 (x : Int)) ∧ w2.cell? ⟨wr.heap.size, 1, none⟩ = some (.int .i64 (n : Int))) ∧ (∃ y1 y2 : Value, w2.cell? ⟨g, i * 2, none⟩ = some y1 ∧ w2.cell? ⟨g, i * 2 + 1, none⟩ = some y2 ∧ w2.frozen? ⟨g, i * 2, none⟩ = false ∧ w2.frozen? ⟨g, i * 2 + 1, none⟩ = false) ∧ Hid (Below W1.heap.size W1 w2)) (by
            rintro e w2 ⟨rfl, hb2⟩
            have hk2 : Kept (fun _ => False) W1 w2 := Kept.below hb2
            have ho2 := own_kept hoW hk2 (fun _ _ e => e)
            have d1 : W1.cell? ⟨wr.heap.size, 0, none⟩ = some (.int .i64 (x : Int)) := by rw [hW1, Lib.cell_of_heap (heap_alloc_new wr _)]; rfl
            have d2 : W1.cell? ⟨wr.heap.size, 1, none⟩ = some (.int .i64 (n : Int)) := by rw [hW1, Lib.cell_of_heap (heap_alloc_new wr _)]; rfl
            have hiL : i < M.length := by omega
            obtain ⟨p, hp⟩ : ∃ p, M[i]? = some p := ⟨M[i], List.getElem?_eq_getElem hiL⟩
            have g1 := own_cell_size ho2 rfl _ _ (secsV_get _ i _ hp).1
            have g2 := own_cell_size ho2 rfl _ _ (secsV_get _ i _ hp).2
            rw [Lib.add_plain, Nat.zero_add] at g1 g2
            refine ⟨rfl, ⟨hk2.cell d1 (fun e => e), hk2.cell d2 (fun e => e)⟩, ⟨_, _, g1, g2, ?_, ?_⟩, hb2⟩
            · rcases ho2.2 with ⟨e, _⟩ | ⟨g', cap, cur, e, _, hg', _⟩
              · cases e
              · injection e with e; injection e with e; injection e with e; subst e
                exact Lib.frozen_of_heap hg' _
            · rcases ho2.2 with ⟨e, _⟩ | ⟨g', cap, cur, e, _, hg', _⟩
              · cases e
              · injection e with e; injection e with e; injection e with e; subst e
                exact Lib.frozen_of_heap hg' _)
          have Q1 := Lib.hid q1
          have hiL2 : (i : Int) < (L : Int) := by omega
          have hiL : i < L := by omega
          clear hM hMt hMd hown hK q0 q1 e hW1 hal hbW hoW hsucc hp hi hMj
          go_wp2_with (go_at_call 66; rw [← HW1.out]; refine Q1.out.mono ?_; rintro e w2 ⟨rfl, ⟨d1, d2⟩, ⟨y1, y2, i1, i2, z1, z2⟩, hb2⟩)
          go_roundw
          case rel =>
            have hk2 : Kept (fun _ => False) W1 w2 := Kept.below hb2.out
            have ho2 := own_kept HOW.out hk2 (fun _ _ e => e)
            obtain ⟨o1, g1⟩ := ho2.stored (i * 2) (.int .i64 (x : Int))
            obtain ⟨o2, g2⟩ := o1.stored (i * 2 + 1) (.int .i64 (n : Int))
            have hiM : i < M.length := by have := HM.out; omega
            rw [secsV_set M i (x, n) hiM] at o2
            have e1 : noF f (q.take (j + 1)) = noF f (q.take j) ++ [(x, n)] := by rw [HSC.out, if_neg hxf]
            have e2 : (noF f (q.take (j + 1))).length = i + 1 := by rw [e1, List.length_append, ← HI.out]; rfl
            refine ⟨j + 1, M.set i (x, n), hjL, by go_num, by rw [e2]; go_num, by rw [List.length_set]; exact HM.out, ?_, ?_, o2, ?_⟩
            · rw [e2, e1, ← HMT.out, ← HI.out, List.set_eq_take_append_cons_drop, if_pos hiM, List.take_append]
              have e3 : (M.take i).length = i := by simp; omega
              rw [e3, List.take_of_length_le (by simp; omega)]
              simp
            · rw [List.drop_set_of_lt (by omega), ← List.drop_drop, HMD.out, List.drop_drop]
            · exact (((HK.out.trans HAL.out (fun _ _ e => e.elim)).trans hk2 (fun _ _ e => e.elim)).trans (Kept.grown g1 (fun k e => e)) (fun k _ e => by injection e with e; exact e.symm)).trans (Kept.grown g2 (fun k e => e)) (fun k _ e => by injection e with e; exact e.symm)
          case measure => simp [intOf]; omega
      · have hjL2 : ¬ (j : Int) < (L : Int) := by omega
        have hje : j = L := by omega
        have hqt : q.take j = q := List.take_of_length_le (by have := HL.out; omega)
        obtain ⟨A, hA, hA1⟩ := sec_from (some ⟨g, 0, none⟩) L c i (by omega)
        have hst := sec_to (some ⟨g, 0, none⟩) L c i (by omega)
        obtain ⟨wc, hrc, hoc, hgc⟩ := run_clear_tail (P := Tryz.prog) wr 51 0 75 (.agg #[.int .i64 0, .int .i64 0]) 2 Tryz.underlying51 (fun w => by kernel_rfl) rfl (by intro u hu; simp [Value.cells] at hu; rcases hu with rfl | rfl <;> rfl) g L c (secsV M) hown i (by omega) A (c - i) (fun h0 => by rw [hA1 (by omega)]; simp [Addr.add_lit])
        have HRC := Lib.hid hrc
        have HOC := Lib.hid hoc
        have HGC := Lib.hid hgc
        have HQT := Lib.hid hqt
        clear hM hMt hMd hown hK hA1 hrc hoc hgc hi hqt
        go_wp2_with ((with_reducible show wpList _ _ _ (Oper.mk _ (Op.call { callee := Callee.builtin Builtin.clear, args := _, argTypes := _ }) _ _ _ _ :: _) _ _); refine wpList_clear_run rfl _ _ rfl _ rfl wc HRC.out ?_)
        go_ret
        have e1 : noF f q = noF f (q.take j) := by rw [HQT.out]
        have e2 : (noF f q).length = i := by rw [e1, HI.out]
        have hkc : Kept (fun k => Value.ownBlock (.slice (some ⟨g, 0, none⟩) L c) = some k) w wc := by
          have h1 := (HK01.out.trans HK.out (fun _ _ e => e)).trans (Kept.grown HGC.out (fun k e => e)) (fun k _ e => by injection e with e; exact e.symm)
          exact h1.mono (fun k _ e => by rw [e]; rfl)
        refine ⟨.slice (some ⟨g, 0, none⟩) i c, rfl, ?_, rfl, hkc⟩
        have h2 := HOC.out
        have e3 : M.take i = noF f q := by rw [HI.out, HMT.out, e1]
        rw [secsV_take, e3] at h2
        rw [e2]
        exact h2
  · go_ret
    refine ⟨_, rfl, ?_, rfl, Kept.below hb1.out⟩
    rw [noF_none hnf.out, ← HL.out]
    exact own_kept H.out (Kept.below (S := fun _ => False) hb1.out) (fun _ _ e => e)
end Go.Proofs.YtljgfnglknpfaaaGreatDoor

namespace Go.Proofs.YtljgfnglknpfaaaGreatDoor
set_option maxRecDepth 100000
open Go Go.RowKit Go.Maps Dk

/-- What a method leaves, told with a disk's parts. -/
theorem DiskIn.of {w w' : World} {d bm : Nat} {blk' : Nat → Nat} {own own' : Nat → Nat → Prop} {qv kv qv' kv' : Value} {X' : D} {S : Nat → Prop} (hS : ∀ k, InD d bm own qv kv k → S k) (h : DiskAt w' d bm blk' own' qv' kv' X')
    (h1 : ∀ i, i < 16 → ∀ k, own' i k → own i k ∨ w.heap.size ≤ k) (h2 : ∀ k, qv'.ownBlock = some k → qv.ownBlock = some k ∨ w.heap.size ≤ k) (h3 : ∀ k, kv'.ownBlock = some k → kv.ownBlock = some k ∨ w.heap.size ≤ k) : DiskIn w' d (After S w) X' := by
  refine ⟨bm, blk', own', qv', kv', h, fun k hin => ?_⟩
  rcases hin with e | e | e | e | ⟨i, hi, e⟩
  · exact Or.inl (hS k (Or.inl e))
  · exact Or.inl (hS k (Or.inr (Or.inl e)))
  · rcases h2 k e with e | e
    · exact Or.inl (hS k (Or.inr (Or.inr (Or.inl e))))
    · exact Or.inr e
  · rcases h3 k e with e | e
    · exact Or.inl (hS k (Or.inr (Or.inr (Or.inr (Or.inl e)))))
    · exact Or.inr e
  · rcases h1 i hi k e with e | e
    · exact Or.inl (hS k (Or.inr (Or.inr (Or.inr (Or.inr ⟨i, hi, e⟩)))))
    · exact Or.inr e

set_option maxHeartbeats 1000000 in
set_option maxRecDepth 100000 in
theorem settle_at (d bm : Nat) (blk : Nat → Nat) (own : Nat → Nat → Prop) (qv kv : Value) (X : D) (f : Nat) (hf : f < 16) (w : World) (h : DiskAt w d bm blk own qv kv X) :
    Calls Tryz.prog 53 #[.pointer (some ⟨d, 0, none⟩), .int .i64 f] w fun e w' => e = .returned (.tuple #[]) ∧ ∃ own' qv', DiskAt w' d bm blk own' qv' kv (X.settle f) ∧ (∀ i, i < 16 → ∀ k, own' i k → own i k ∨ w.heap.size ≤ k) ∧ qv'.ownBlock = qv.ownBlock ∧
      Kept (fun k => k = d ∨ own f k ∨ qv.ownBlock = some k) w w' := by
  obtain ⟨W0, hW0⟩ : ∃ W0, W0 = w.alloc (.cells #[.int .i64 (f : Int)] 3) := ⟨_, rfl⟩
  have hal : Kept (fun _ => False) w W0 := by rw [hW0]; exact Kept.alloc _ _ _
  have hal2 := hal.trans (Kept.drew (fun _ => False) W0) (fun _ _ e => e)
  have h0 := h.kept hal (fun _ _ e => e)
  have h1 := h.kept hal2 (fun _ _ e => e)
  have hsz0 : W0.heap.size = w.heap.size + 1 := by rw [hW0]; simp
  have k0 := h0.c0
  have kb : W0.cell? ⟨w.heap.size, 0, none⟩ = some (.int .i64 (f : Int)) := by rw [hW0, Lib.cell_of_heap (heap_alloc_new w _)]; rfl
  have hlk : (Instr.lookup 50 (.map (some bm)) (.int .i64 (f : Int)) false).run Tryz.prog W0.drew = .ok (.pointer (some ⟨blk f, 0, none⟩)) W0.drew := h1.files.look1 f hf
  obtain ⟨nv, dv, mb, hFA, hFS⟩ := h1.file f hf
  obtain ⟨qa, qc, rfl, _⟩ := own_shape h.queue
  have q := (fsettle_c (blk f) nv dv mb (X.file f) W0.drew hFA (h.inv.file f hf)).mono (R' := fun e w1 => e = .returned (.tuple #[]) ∧ (w1.cell? ⟨d, 1, none⟩ = some (.slice qa X.queue.length qc) ∧ w1.frozen? ⟨d, 1, none⟩ = false ∧ w1.cell? ⟨w.heap.size, 0, none⟩ = some (.int .i64 (f : Int))) ∧
      Hid (FilesIn w1 blk (ownUp own f W0.drew.heap.size w1.heap.size) (upd X.file f (X.file f).settle) ∧ Kept (own f) W0.drew w1)) (by
    rintro e w1 ⟨rfl, dv', mb', hF, hk, hb, hm⟩
    have hT : ∀ k, (k = blk f ∨ dv.ownBlock = some k) → own f k := fun k e => hFS k (by rcases e with e | e; exact Or.inl e; exact Or.inr (Or.inr (Or.inr e)))
    have hst := h1.filesIn.step hf hk hT (f := (X.file f).settle) ⟨nv, dv', mb', hF, fun x hin => by
      rcases hin with hx | hx | hx | hx
      · exact Or.inl (hFS x (Or.inl hx))
      · exact Or.inr (by omega)
      · exact Or.inl (hFS x (Or.inr (Or.inr (Or.inl hx))))
      · rcases hb with hb | ⟨y, hb, hy⟩
        · exact Or.inl (hFS x (Or.inr (Or.inr (Or.inr (by rw [← hb]; exact hx)))))
        · rw [hb] at hx
          injection hx with hx
          exact Or.inr (by rw [← hx]; exact hy)⟩
    have hk' := hk.mono (S' := own f) (fun k _ e => hT k e)
    have hd := hk'.heap h1.cell (fun e => (h.ownNe f hf d e).1 rfl)
    refine ⟨rfl, ⟨by rw [Lib.cell_of_heap hd]; rfl, Lib.frozen_of_heap hd 1, ?_⟩, hst, hk'⟩
    exact hk'.cell (show W0.drew.cell? _ = _ from kb) (fun e => by have := h.ownLt f hf _ e; simp at this))
  have H := Lib.hid h
  have H1 := Lib.hid h1
  have Q := Lib.hid q
  have HW := Lib.hid hW0
  have HA2 := Lib.hid hal2
  have HSZ := Lib.hid hsz0
  clear h hal hal2 h0 h1 hFA hFS q hW0 hsz0
  go_enter Tryz.func53, Tryz.ntmps53
  go_upto_region 1 with fail
  rw [← HW.out]
  go_region_law (go_simp; go_at_call 64; refine Q.out.mono ?_; rintro e w1 ⟨rfl, ⟨j1, z1, jb⟩, HP⟩)
  all_goals
    obtain ⟨hFI, hKf⟩ := HP.out
    have hk01 : Kept (own f) w w1 := (HA2.out.mono (S' := own f) (fun _ _ e => e.elim)).trans hKf (fun _ _ e => e)
    have hown1 := own_kept H.out.queue hk01 (fun k e ho => (H.out.ownNe f hf k ho).2.2.1 e)
    have hd1 := hk01.heap H.out.cell (fun e => (H.out.ownNe f hf d e).1 rfl)
    have hqn : (Value.slice qa X.queue.length qc).ownBlock ≠ some w.heap.size := fun e => by have := own_lt H.out.queue e; omega
    have q2 := (del_c f w.heap.size _ X.queue w1 hown1 jb hqn).mono (R' := fun e w2 => ∃ a' n' c', e = .returned (.slice a' n' c') ∧ (w2.cell? ⟨d, 1, none⟩ = some (.slice qa X.queue.length qc) ∧ w2.frozen? ⟨d, 1, none⟩ = false) ∧
        Hid (w2.ownsRow 0 75 2 (.slice a' n' c') (noF f X.queue).length (secsV (noF f X.queue)) ∧ (Value.slice a' n' c').ownBlock = (Value.slice qa X.queue.length qc).ownBlock ∧ Kept (fun k => (Value.slice qa X.queue.length qc).ownBlock = some k) w1 w2)) (by
      rintro e w2 ⟨v', rfl, ho, hb, hk⟩
      obtain ⟨a', c', rfl, _⟩ := own_shape ho
      have hd2 := hk.heap hd1 (fun e => H.out.apart.2.1 e)
      exact ⟨a', _, c', rfl, ⟨by rw [Lib.cell_of_heap hd2]; rfl, Lib.frozen_of_heap hd2 1⟩, ho, hb, hk⟩)
    have Q2 := Lib.hid q2
    have HFI := Lib.hid hFI
    have HK1 := Lib.hid hk01
    have HD1 := Lib.hid hd1
    clear hFI hKf hk01 hown1 hqn q2 hd1
    go_wp2_with (go_at_call 65; refine Q2.out.mono ?_; rintro e w2 ⟨a', n', c', rfl, ⟨j2, z2⟩, HP2⟩)
    go_end0
    obtain ⟨ho, hb, hk⟩ := HP2.out
    have hk3 := Kept.set d 1 w2 (.slice a' n' c')
    obtain ⟨b1, b2, b3, b4, b5, b6⟩ := H.out.apart
    have hd2 := hk.heap HD1.out b2
    have hsw : w.heap.size ≤ W0.drew.heap.size := HA2.out.size
    have hall : Kept (fun k => k = d ∨ own f k ∨ (Value.slice qa X.queue.length qc).ownBlock = some k) w (w2.setCell ⟨d, 1, none⟩ (.slice a' n' c')) :=
      ((HK1.out.mono (S' := fun k => k = d ∨ own f k ∨ (Value.slice qa X.queue.length qc).ownBlock = some k) (fun k _ e => Or.inr (Or.inl e))).trans hk (fun k _ e => Or.inr (Or.inr e))).trans hk3 (fun k _ e => Or.inl e)
    have hnn : ∀ i, i < 16 → ∀ k, ownUp own f W0.drew.heap.size w1.heap.size i k → k ≠ d ∧ k ≠ bm ∧ (Value.slice qa X.queue.length qc).ownBlock ≠ some k ∧ kv.ownBlock ≠ some k := fun i hi k hx => by
      rcases ownUp_or hx with h1 | h1
      · exact H.out.ownNe i hi k h1
      · have g1 := H.out.lt (Or.inl rfl)
        have g2 := H.out.lt (Or.inr (Or.inl rfl))
        exact ⟨by omega, by omega, fun e => by have := own_lt H.out.queue e; omega, fun e => by have := own_lt H.out.keep e; omega⟩
    have hX : X.settle f = ⟨upd X.file f (X.file f).settle, noF f X.queue, X.down, X.lost, X.left, X.keep⟩ := rfl
    refine ⟨rfl, ownUp own f W0.drew.heap.size w1.heap.size, .slice a' n' c', { cell := ?_, files := ?_, queue := ?_, keep := ?_, file := fun i hi => ?_, inv := D.settle_inv H.out.inv hf, lost := H.out.lost, left := H.out.left, keepIn := H.out.keepIn, keepLen := H.out.keepLen, ownLt := fun i hi k hx => ?_, ownNe := fun i hi k hx => ?_, ownOne := HFI.out.one, apart := ?_ }, fun i hi k hx => ?_, hb, hall⟩
    · exact cells6_set hd2 1 (.slice a' n' c') (by omega)
    · exact H.out.files.kept hall (fun e => by
        rcases e with e | e | e
        · exact b1 e.symm
        · exact (H.out.ownNe f hf bm e).2.1 rfl
        · exact b3 e)
    · exact own_kept ho hk3 (fun k e e' => by rw [hb] at e; exact b2 (by rw [e, e']))
    · exact own_kept H.out.keep hall (fun k e e' => by
        rcases e' with e' | e' | e'
        · exact b4 (by rw [e, e'])
        · exact (H.out.ownNe f hf k e').2.2.2 e
        · exact b6 k e' e)
    · refine (HFI.out.file i hi).kept ((hk.mono (S' := fun k => k = d ∨ (Value.slice qa X.queue.length qc).ownBlock = some k) (fun _ _ e => Or.inr e)).trans hk3 (fun _ _ e => Or.inl e)) (fun k hx e => ?_)
      have hn := hnn i hi k hx
      rcases e with e | e
      · exact hn.1 e
      · exact hn.2.2.1 e
    · exact Nat.lt_of_lt_of_le (HFI.out.lt i hi k hx) (Nat.le_trans hk.size hk3.size)
    · have hn := hnn i hi k hx
      exact ⟨hn.1, hn.2.1, by rw [hb]; exact hn.2.2.1, hn.2.2.2⟩
    · exact ⟨b1, by rw [hb]; exact b2, by rw [hb]; exact b3, b4, b5, by rw [hb]; exact b6⟩
    · rcases ownUp_or hx with h1 | h1
      · exact Or.inl h1
      · exact Or.inr (by omega)

theorem settle_c (d : Nat) (S : Nat → Prop) (X : D) (f : Nat) (hf : f < 16) (w : World) (h : DiskIn w d S X) :
    Calls Tryz.prog 53 #[.pointer (some ⟨d, 0, none⟩), .int .i64 f] w fun e w' => e = .returned (.tuple #[]) ∧ DiskIn w' d (After S w) (X.settle f) ∧ Kept S w w' := by
  obtain ⟨bm, blk, own, qv, kv, h, hS⟩ := h
  refine (settle_at d bm blk own qv kv X f hf w h).mono ?_
  rintro e w' ⟨rfl, own', qv', hd, ho, hq, hk⟩
  refine ⟨rfl, DiskIn.of hS hd ho (fun k e => Or.inl (by rw [← hq]; exact e)) (fun k e => Or.inl e), hk.mono (fun k _ e => ?_)⟩
  rcases e with e | e | e
  · exact hS k (Or.inl e)
  · exact hS k (Or.inr (Or.inr (Or.inr (Or.inr ⟨f, hf, e⟩))))
  · exact hS k (Or.inr (Or.inr (Or.inl e)))
end Go.Proofs.YtljgfnglknpfaaaGreatDoor
