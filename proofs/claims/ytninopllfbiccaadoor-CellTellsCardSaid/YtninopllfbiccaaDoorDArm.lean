/-
  disk's files together; and the schedule of a crash.
-/
import Derived.Test.YtninopllfbiccaaDoorDRead
namespace Go.Proofs.YtninopllfbiccaaDoor
set_option maxRecDepth 100000
open Go Go.RowKit Go.Maps Dk

/-- All files of a disk, each in blocks of its own. -/
structure FilesIn (w : World) (blk : Nat → Nat) (own : Nat → Nat → Prop) (g : Nat → F) : Prop where
  file : ∀ i, i < 16 → FileIn w (blk i) (own i) (g i)
  lt : ∀ i, i < 16 → ∀ k, own i k → k < w.heap.size
  one : ∀ i j, i < 16 → j < 16 → i ≠ j → ∀ k, own i k → ¬ own j k
theorem FilesIn.kept {w w' : World} {T : Nat → Prop} {blk : Nat → Nat} {own : Nat → Nat → Prop} {g : Nat → F} (h : FilesIn w blk own g) (hk : Kept T w w') (hn : ∀ i, i < 16 → ∀ k, own i k → ¬ T k) : FilesIn w' blk own g :=
  ⟨fun i hi => (h.file i hi).kept hk (hn i hi), fun i hi k ho => Nat.lt_of_lt_of_le (h.lt i hi k ho) hk.size, h.one⟩
/-- What a file may hold once it was written in a world. -/
def ownUp (own : Nat → Nat → Prop) (i : Nat) (a b : Nat) : Nat → Nat → Prop := fun j k => if j = i then (own i k ∨ a ≤ k) ∧ k < b else own j k
/-- One file turned; the others as they were. -/
theorem FilesIn.step {w w' : World} {blk : Nat → Nat} {own : Nat → Nat → Prop} {g : Nat → F} (h : FilesIn w blk own g) {i : Nat} (hi : i < 16) {T : Nat → Prop} (hk : Kept T w w') (hT : ∀ k, T k → own i k) {f : F}
    (hf : FileIn w' (blk i) (fun k => own i k ∨ w.heap.size ≤ k) f) : FilesIn w' blk (ownUp own i w.heap.size w'.heap.size) (upd g i f) := by
  refine ⟨fun j hj => ?_, fun j hj k ho => ?_, fun a b ha hb hab k h1 h2 => ?_⟩
  · by_cases e : j = i
    · subst e
      obtain ⟨nv, dv, mb, h1, h2⟩ := hf
      rw [upd_same]
      exact ⟨nv, dv, mb, h1, fun k hin => by unfold ownUp; rw [if_pos rfl]; exact ⟨h2 k hin, h1.lt hin⟩⟩
    · have e1 : ownUp own i w.heap.size w'.heap.size j = own j := by funext k; simp [ownUp, e]
      rw [e1, upd_other _ _ e]
      exact (h.file j hj).kept hk (fun k ho hT' => h.one j i hj hi e k ho (hT k hT'))
  · unfold ownUp at ho
    split at ho
    · exact ho.2
    · exact Nat.lt_of_lt_of_le (h.lt j hj k ho) hk.size
  · unfold ownUp at h1 h2
    split at h1
    · next e1 =>
      split at h2
      · next e2 => exact hab (e1.trans e2.symm)
      · next e2 =>
        rcases h1.1 with h1 | h1
        · exact h.one i b hi hb (fun e => e2 e.symm) k h1 h2
        · have := h.lt b hb k h2; omega
    · next e1 =>
      split at h2
      · next e2 =>
        rcases h2.1 with h2 | h2
        · exact h.one a i ha hi e1 k h1 h2
        · have := h.lt a ha k h1; omega
      · exact h.one a b ha hb hab k h1 h2
theorem ownUp_or {own : Nat → Nat → Prop} {i a b : Nat} {j k : Nat} (h : ownUp own i a b j k) : own j k ∨ a ≤ k := by
  unfold ownUp at h
  split at h
  · next e => subst e; exact h.1
  · exact Or.inl h
theorem DiskAt.filesIn {w : World} {d bm : Nat} {blk : Nat → Nat} {own : Nat → Nat → Prop} {qv kv : Value} {X : D} (h : DiskAt w d bm blk own qv kv X) : FilesIn w blk own X.file := ⟨h.file, h.ownLt, h.ownOne⟩

theorem intsV_one (l : List Int) : ∀ u ∈ intsV l, u.oneCell' = true := by
  intro u hu
  obtain ⟨x, _, rfl⟩ := List.mem_map.1 hu
  rfl
/-- Another schedule, the rest as it was. -/
theorem DiskAt.rekeep {w w' : World} {d bm : Nat} {blk : Nat → Nat} {own : Nat → Nat → Prop} {qv kv : Value} {X : D} (h : DiskAt w d bm blk own qv kv X) (hk : Kept (fun k => k = d) w w') (left : Nat) (kv' : Value) (l : List Int)
    (hc : w'.heap[d]? = some (.cells #[.map (some bm), qv, .bool X.down, .int .i64 (X.lost : Int), .int .i64 (left : Int), kv'] 60 (0, 0))) (h2 : (left : Int) ≤ 9223372036854775807)
    (hl : w'.ownsRow 0 3 1 kv' l.length (intsV l)) (hf : ∀ k, kv'.ownBlock = some k → w.heap.size ≤ k) (h3 : ∀ k ∈ l, -9223372036854775808 ≤ k ∧ k ≤ 9223372036854775807) (h4 : l.length ≤ 4398046511104) :
    DiskAt w' d bm blk own qv kv' { X with left := left, keep := l } :=
  { cell := hc
    files := h.files.kept hk (fun e => h.apart.1 e.symm)
    queue := own_kept h.queue hk (fun k e e' => h.apart.2.1 (by rw [e, e']))
    keep := hl
    file := fun i hi => (h.file i hi).kept hk (fun k ho => (h.ownNe i hi k ho).1)
    inv := D.set_inv h.inv X.lost left l X.down, lost := h.lost, left := h2, keepIn := h3, keepLen := h4
    ownLt := fun i hi k ho => Nat.lt_of_lt_of_le (h.ownLt i hi k ho) hk.size
    ownNe := fun i hi k ho => ⟨(h.ownNe i hi k ho).1, (h.ownNe i hi k ho).2.1, (h.ownNe i hi k ho).2.2.1, fun e => by have := hf k e; have := h.ownLt i hi k ho; omega⟩
    ownOne := h.ownOne
    apart := ⟨h.apart.1, h.apart.2.1, h.apart.2.2.1, fun e => by have := hf d e; have := h.lt (Or.inl rfl); omega, fun e => by have := hf bm e; have := h.lt (Or.inr (Or.inl rfl)); omega, fun k e e' => by have := hf k e'; have := own_lt h.queue e; omega⟩ }

set_option maxRecDepth 100000 in
theorem arm_at (d bm : Nat) (blk : Nat → Nat) (own : Nat → Nat → Prop) (qv kv : Value) (X : D) (n : Int) (hn : n ≤ 9223372036854775807) (v : Value) (l : List Int) (w : World) (h : DiskAt w d bm blk own qv kv X) (hs : SrcV w 1 v l.length (intsV l)) (hl : l.length ≤ 4398046511104)
    (hin : ∀ k ∈ l, -9223372036854775808 ≤ k ∧ k ≤ 9223372036854775807) :
    Calls Tryd.prog 18 #[.pointer (some ⟨d, 0, none⟩), .int .i64 n, v] w fun e w' => e = .returned (.tuple #[]) ∧ ∃ kv', DiskAt w' d bm blk own qv kv' (X.arm n l) ∧ Kept (fun k => k = d) w w' ∧ ∀ k, kv'.ownBlock = some k → w.heap.size ≤ k := by
  have q := (iclone_c v l.length (intsV l) w hs (intsV_one _) (by omega) (by omega)).mono (R' := fun e w1 => ∃ a' n' c', e = .returned (.slice a' n' c') ∧ (w1.cell? ⟨d, 4, none⟩ = some (.int .i64 (X.left : Int)) ∧ w1.cell? ⟨d, 5, none⟩ = some kv ∧ w1.frozen? ⟨d, 4, none⟩ = false ∧ w1.frozen? ⟨d, 5, none⟩ = false) ∧
      Hid (w1.ownsRow w.heap.size 3 1 (.slice a' n' c') l.length (intsV l) ∧ Below w.heap.size w w1)) (by
    rintro e w1 ⟨v', rfl, ho, hb⟩
    obtain ⟨a', c', rfl, _⟩ := own_shape (own_base ho)
    have h1 := h.kept (Kept.below (S := fun _ => False) hb) (fun _ _ e => e)
    exact ⟨a', _, c', rfl, ⟨h1.c4, h1.c5, h1.z 4, h1.z 5⟩, ho, hb⟩)
  obtain ⟨m, hm⟩ : ∃ m, m = n.toNat := ⟨_, rfl⟩
  have hmax : (if n < 0 then (0 : Int) else n) = (m : Int) := by split <;> omega
  have hmn : (m : Int) ≤ 9223372036854775807 := by omega
  have H := Lib.hid h
  have HM := Lib.hid hm
  have Q := Lib.hid q
  have HIN := Lib.hid hin
  obtain ⟨va, vc, rfl, _⟩ := hs
  clear h hm q hin
  go_enter Tryd.func18, Tryd.ntmps18
  go_wp2_with (go_at_call 43; refine Q.out.mono ?_; rintro e w1 ⟨a', n', c', rfl, ⟨j4, j5, z4, z5⟩, HP⟩)
  go_end0
  obtain ⟨ho, hb⟩ := HP.out
  have h1 := H.out.kept (Kept.below (S := fun _ => False) hb) (fun _ _ e => e)
  have hk := ((Kept.below (S := fun k => k = d) hb).trans (Kept.set d 4 w1 (.int .i64 (m : Int))) (fun _ _ e => e)).trans (Kept.set d 5 _ (.slice a' n' c')) (fun _ _ e => e)
  have hd : d < w.heap.size := H.out.lt (Or.inl rfl)
  have hfr : ∀ k, (Value.slice a' n' c').ownBlock = some k → w.heap.size ≤ k := fun k e => (ho.lt k e).1
  have hown := own_kept (own_kept (own_base ho) (Kept.set d 4 w1 (.int .i64 (m : Int))) (fun k e e' => by have := hfr k e; omega)) (Kept.set d 5 _ (.slice a' n' c')) (fun k e e' => by have := hfr k e; omega)
  have hX : X.arm n l = { X with left := m, keep := l } := by rw [HM.out]; rfl
  rw [hX]
  exact ⟨rfl, _, H.out.rekeep hk m _ l (cells6_set (cells6_set h1.cell 4 (.int .i64 (m : Int)) (by omega)) 5 (.slice a' n' c') (by omega)) hmn hown hfr HIN.out hl, hk, hfr⟩
end Go.Proofs.YtninopllfbiccaaDoor
