/-
  The law's acts.
-/
import Derived.Test.YtninopllfbiccaaDoorDCopy
namespace Go.Proofs.YtninopllfbiccaaDoor
set_option maxRecDepth 100000
open Go Go.RowKit Go.Maps Dk

theorem SrcV.on {w w' : World} {size : Nat} {v : Value} {n : Nat} {xs : List Value} (h : SrcV w size v n xs) (hb : Below w.heap.size w w') : SrcV w' size v n xs := by
  obtain ⟨a, c, h1, h2, h3, h4⟩ := h
  exact ⟨a, c, h1, h2, h3, fun ad e j u hu => (Kept.below (S := fun _ => False) hb).cell (h4 ad e j u hu) (fun e => e)⟩
theorem cell_plainD {w : World} {a : Addr} {v : Value} (h : w.cell? a = some v) : ∃ b off, a = ⟨b, off, none⟩ := by
  obtain ⟨b, off, spot⟩ := a
  cases spot with
  | none => exact ⟨b, off, rfl⟩
  | some s =>
    exfalso
    unfold World.cell? at h
    split at h
    · simp at h
    · cases h
theorem SrcV.keepAt {w w' : World} {v : Value} {l : List Int} (h : SrcV w 1 v l.length (intsV l)) (hb : Below w.heap.size w w') {S : Nat → Prop} (hS : ∀ k, S k → w.heap.size ≤ k) : KeepAt w' v l S := by
  obtain ⟨a, c, h1, h2, h3, h4⟩ := h
  refine ⟨a, c, h1, fun hne => ?_⟩
  cases a with
  | none => exact absurd (List.eq_nil_of_length_eq_zero (h3 rfl)) hne
  | some ad =>
    cases l with
    | nil => exact absurd rfl hne
    | cons x l =>
      have h0 := h4 ad rfl 0 (.int .i64 x) (by simp [intsV])
      obtain ⟨b, off, hbo⟩ := cell_plainD h0
      have had : ad = ⟨b, off, none⟩ := by
        cases ad
        simp [Addr.add] at hbo
        simp [hbo]
      subst had
      rw [Lib.add_plain] at h0
      refine ⟨b, off, rfl, fun hs => ?_, fun j y hy => ?_⟩
      · have := hS b hs
        have := World.block_lt_of_cell? _ _ h0
        simp at this
        omega
      · have := h4 ⟨b, off, none⟩ rfl j (.int .i64 y) (by simp only [intsV, List.getElem?_map, hy]; rfl)
        rw [Lib.add_plain] at this
        exact (Kept.below (S := fun _ => False) hb).cell this (fun e => e)

/-- An act. -/
structure Act where
  op : Int
  f : Int
  n : Int
  s : List UInt8
  keep : List Int
def In64 (n : Int) : Prop := -9223372036854775808 ≤ n ∧ n ≤ 9223372036854775807
structure Act.Ok (a : Act) : Prop where
  op : In64 a.op
  f : In64 a.f
  n : In64 a.n
  s : a.s.length ≤ 9223372036854775807
  keep : a.keep.length ≤ 4398046511104
  keepIn : ∀ k ∈ a.keep, In64 k

def code (a : Act) : Int := bits .and .i64 a.op 7
def doM (X : D) (a : Act) : D × Int :=
  if code a = 2 then X.sync a.f else if code a = 3 then X.trunc a.f a.n else if code a = 4 then (X.lose (bits .and .i64 a.n 3), 0) else if code a = 5 then (X.arm a.n a.keep, 0)
  else if code a = 6 then (X.crash a.keep, 0) else if code a = 7 then (X.start, 0) else X.write a.f a.n a.s
theorem Kept.first {S : Nat → Prop} {w W0 w' : World} (h0 : Below w.heap.size w W0) (hk : Kept S W0 w') : Kept S w w' := (Kept.below h0).trans hk (fun _ _ e => e)
theorem DiskIn.first {S : Nat → Prop} {w W0 w' : World} {d : Nat} {X : D} (h0 : w.heap.size ≤ W0.heap.size) (h : DiskIn w' d (After S W0) X) : DiskIn w' d (After S w) X := h.mono (fun k _ e => by
  rcases e with e | e
  · exact Or.inl e
  · exact Or.inr (Nat.le_trans h0 e))
theorem DiskIn.plain {S : Nat → Prop} {w' w0 : World} {d : Nat} {X : D} (h : DiskIn w' d S X) : DiskIn w' d (After S w0) X := h.mono (fun _ _ e => Or.inl e)

theorem armIn_c (d : Nat) (S : Nat → Prop) (X : D) (n : Int) (hn : n ≤ 9223372036854775807) (v : Value) (l : List Int) (w : World) (h : DiskIn w d S X) (hs : SrcV w 1 v l.length (intsV l)) (hl : l.length ≤ 4398046511104)
    (hin : ∀ k ∈ l, -9223372036854775808 ≤ k ∧ k ≤ 9223372036854775807) :
    Calls Tryd.prog 18 #[.pointer (some ⟨d, 0, none⟩), .int .i64 n, v] w fun e w' => e = .returned (.tuple #[]) ∧ DiskIn w' d (After S w) (X.arm n l) ∧ Kept S w w' := by
  obtain ⟨bm, blk, own, qv, kv, h, hS⟩ := h
  refine (arm_at d bm blk own qv kv X n hn v l w h hs hl hin).mono ?_
  rintro e w' ⟨rfl, kv', hd, hk, hf⟩
  exact ⟨rfl, DiskIn.of hS hd (fun i _ k e => Or.inl e) (fun k e => Or.inl e) (fun k e => Or.inr (hf k e)), hk.mono (fun k _ e => by subst e; exact hS _ (Or.inl rfl))⟩
theorem KeepAt.on {w w' : World} {v : Value} {l : List Int} {T : Nat → Prop} (h : KeepAt w v l T) (hb : Below w.heap.size w w') : KeepAt w' v l T := by
  obtain ⟨a, c, h1, h2⟩ := h
  refine ⟨a, c, h1, fun hne => ?_⟩
  obtain ⟨b, off, h3, h4, h5⟩ := h2 hne
  exact ⟨b, off, h3, h4, fun j x hx => (Kept.below (S := fun _ => False) hb).cell (h5 j x hx) (fun e => e)⟩

end Go.Proofs.YtninopllfbiccaaDoor
