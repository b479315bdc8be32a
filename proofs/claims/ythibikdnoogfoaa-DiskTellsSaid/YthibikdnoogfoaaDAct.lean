/-
  The law's acts.
-/
import Derived.Test.YthibikdnoogfoaaDCopy
namespace Go.Proofs.Ythibikdnoogfoaa
open Go Go.RowKit Go.Maps Dk

theorem SrcV.on {w w' : World} {size : Nat} {v : Value} {n : Nat} {xs : List Value} (h : SrcV w size v n xs) (hb : Below w.heap.size w w') : SrcV w' size v n xs := by
  obtain ⟨a, c, h1, h2, h3, h4⟩ := h
  exact ⟨a, c, h1, h2, h3, fun ad e j u hu => (Kept.below (S := fun _ => False) hb).cell (h4 ad e j u hu) (fun e => e)⟩
theorem cell_plainD {w : World} {a : Addr} {v : Value} (h : w.cell? a = some v) : ∃ b off, a = ⟨b, off, none⟩ := by
  obtain ⟨b, off, spot⟩ := a
  cases spot with
  | none => exact ⟨b, off, rfl⟩
  | some s =>
    exfalso
    unfold World.cell? at h
    split at h
    · simp at h
    · cases h
theorem SrcV.keepAt {w w' : World} {v : Value} {l : List Int} (h : SrcV w 1 v l.length (intsV l)) (hb : Below w.heap.size w w') {S : Nat → Prop} (hS : ∀ k, S k → w.heap.size ≤ k) : KeepAt w' v l S := by
  obtain ⟨a, c, h1, h2, h3, h4⟩ := h
  refine ⟨a, c, h1, fun hne => ?_⟩
  cases a with
  | none => exact absurd (List.eq_nil_of_length_eq_zero (h3 rfl)) hne
  | some ad =>
    cases l with
    | nil => exact absurd rfl hne
    | cons x l =>
      have h0 := h4 ad rfl 0 (.int .i64 x) (by simp [intsV])
      obtain ⟨b, off, hbo⟩ := cell_plainD h0
      have had : ad = ⟨b, off, none⟩ := by
        cases ad
        simp [Addr.add] at hbo
        simp [hbo]
      subst had
      rw [Lib.add_plain] at h0
      refine ⟨b, off, rfl, fun hs => ?_, fun j y hy => ?_⟩
      · have := hS b hs
        have := World.block_lt_of_cell? _ _ h0
        simp at this
        omega
      · have := h4 ⟨b, off, none⟩ rfl j (.int .i64 y) (by simp only [intsV, List.getElem?_map, hy]; rfl)
        rw [Lib.add_plain] at this
        exact (Kept.below (S := fun _ => False) hb).cell this (fun e => e)

/-- An act. -/
structure Act where
  op : Int
  f : Int
  n : Int
  s : List UInt8
  keep : List Int
def In64 (n : Int) : Prop := -9223372036854775808 ≤ n ∧ n ≤ 9223372036854775807
structure Act.Ok (a : Act) : Prop where
  op : In64 a.op
  f : In64 a.f
  n : In64 a.n
  s : a.s.length ≤ 9223372036854775807
  keep : a.keep.length ≤ 4398046511104
  keepIn : ∀ k ∈ a.keep, In64 k

def code (a : Act) : Int := bits .and .i64 a.op 7
def doM (X : D) (a : Act) : D × Int :=
  if code a = 2 then X.sync a.f else if code a = 3 then X.trunc a.f a.n else if code a = 4 then (X.lose (bits .and .i64 a.n 3), 0) else if code a = 5 then (X.arm a.n a.keep, 0)
  else if code a = 6 then (X.crash a.keep, 0) else if code a = 7 then (X.start, 0) else X.write a.f a.n a.s
theorem Kept.first {S : Nat → Prop} {w W0 w' : World} (h0 : Below w.heap.size w W0) (hk : Kept S W0 w') : Kept S w w' := (Kept.below h0).trans hk (fun _ _ e => e)
theorem DiskIn.first {S : Nat → Prop} {w W0 w' : World} {d : Nat} {X : D} (h0 : w.heap.size ≤ W0.heap.size) (h : DiskIn w' d (After S W0) X) : DiskIn w' d (After S w) X := h.mono (fun k _ e => by
  rcases e with e | e
  · exact Or.inl e
  · exact Or.inr (Nat.le_trans h0 e))
theorem DiskIn.plain {S : Nat → Prop} {w' w0 : World} {d : Nat} {X : D} (h : DiskIn w' d S X) : DiskIn w' d (After S w0) X := h.mono (fun _ _ e => Or.inl e)

theorem armIn_c (d : Nat) (S : Nat → Prop) (X : D) (n : Int) (hn : n ≤ 9223372036854775807) (v : Value) (l : List Int) (w : World) (h : DiskIn w d S X) (hs : SrcV w 1 v l.length (intsV l)) (hl : l.length ≤ 4398046511104)
    (hin : ∀ k ∈ l, -9223372036854775808 ≤ k ∧ k ≤ 9223372036854775807) :
    Calls Try.prog 27 #[.pointer (some ⟨d, 0, none⟩), .int .i64 n, v] w fun e w' => e = .returned (.tuple #[]) ∧ DiskIn w' d (After S w) (X.arm n l) ∧ Kept S w w' := by
  obtain ⟨bm, blk, own, qv, kv, h, hS⟩ := h
  refine (arm_at d bm blk own qv kv X n hn v l w h hs hl hin).mono ?_
  rintro e w' ⟨rfl, kv', hd, hk, hf⟩
  exact ⟨rfl, DiskIn.of hS hd (fun i _ k e => Or.inl e) (fun k e => Or.inl e) (fun k e => Or.inr (hf k e)), hk.mono (fun k _ e => by subst e; exact hS _ (Or.inl rfl))⟩
theorem KeepAt.on {w w' : World} {v : Value} {l : List Int} {T : Nat → Prop} (h : KeepAt w v l T) (hb : Below w.heap.size w w') : KeepAt w' v l T := by
  obtain ⟨a, c, h1, h2⟩ := h
  refine ⟨a, c, h1, fun hne => ?_⟩
  obtain ⟨b, off, h3, h4, h5⟩ := h2 hne
  exact ⟨b, off, h3, h4, fun j x hx => (Kept.below (S := fun _ => False) hb).cell (h5 j x hx) (fun e => e)⟩

set_option maxRecDepth 100000 in
theorem do_2 (a : Act) (ho : a.Ok) (kv : Value) (d : Nat) (S : Nat → Prop) (X : D) (w : World) (h : DiskIn w d S X) (hk : SrcV w 1 kv a.keep.length (intsV a.keep)) (hkS : KeepAt w kv a.keep S) (hc : bits .and .i64 a.op 7 = 2) :
    Calls Try.prog 12 #[.pointer (some ⟨d, 0, none⟩), .agg #[.int .i64 a.op, .int .i64 a.f, .int .i64 a.n, .string ⟨a.s.toArray⟩, kv]] w fun e w' => e = .returned (.int .i64 (X.sync a.f).2) ∧ DiskIn w' d (After S w) (X.sync a.f).1 ∧ Kept S w w' := by
  have hk0 := hk
  obtain ⟨ka, kc, rfl, _⟩ := hk0
  obtain ⟨W0, hW0⟩ : ∃ W0, W0 = w.alloc (.cells #[.int .i64 a.op, .int .i64 a.f, .int .i64 a.n, .string ⟨a.s.toArray⟩, .slice ka a.keep.length kc] 33) := ⟨_, rfl⟩
  have hb0 : Below w.heap.size w W0 := by rw [hW0]; exact (Below.refl _ w).alloc (Nat.le_refl _) _
  have hI := h.kept (Kept.below (S := fun _ => False) hb0) (fun _ _ e => e)
  have q := sync_c d S X a.f ho.f W0 hI
  have Q := Lib.hid q
  have HW := Lib.hid hW0
  have HB := Lib.hid hb0
  clear h hk hkS hb0 hI q hW0
  go_enter Try.func12, Try.ntmps12
  go_wp2_with (go_at_call 19; rw [← HW.out]; refine Q.out.mono ?_; rintro e w2 ⟨rfl, h1, h2⟩)
  go_ret
  exact ⟨rfl, DiskIn.first HB.out.size h1, Kept.first HB.out h2⟩
set_option maxRecDepth 100000 in
theorem do_3 (a : Act) (ho : a.Ok) (kv : Value) (d : Nat) (S : Nat → Prop) (X : D) (w : World) (h : DiskIn w d S X) (hk : SrcV w 1 kv a.keep.length (intsV a.keep)) (hkS : KeepAt w kv a.keep S) (hc : bits .and .i64 a.op 7 = 3) :
    Calls Try.prog 12 #[.pointer (some ⟨d, 0, none⟩), .agg #[.int .i64 a.op, .int .i64 a.f, .int .i64 a.n, .string ⟨a.s.toArray⟩, kv]] w fun e w' => e = .returned (.int .i64 (X.trunc a.f a.n).2) ∧ DiskIn w' d (After S w) (X.trunc a.f a.n).1 ∧ Kept S w w' := by
  have hk0 := hk
  obtain ⟨ka, kc, rfl, _⟩ := hk0
  obtain ⟨W0, hW0⟩ : ∃ W0, W0 = w.alloc (.cells #[.int .i64 a.op, .int .i64 a.f, .int .i64 a.n, .string ⟨a.s.toArray⟩, .slice ka a.keep.length kc] 33) := ⟨_, rfl⟩
  have hb0 : Below w.heap.size w W0 := by rw [hW0]; exact (Below.refl _ w).alloc (Nat.le_refl _) _
  have hI := h.kept (Kept.below (S := fun _ => False) hb0) (fun _ _ e => e)
  have q := trunc_c d S X a.f a.n ho.f ho.n W0 hI
  have Q := Lib.hid q
  have HW := Lib.hid hW0
  have HB := Lib.hid hb0
  clear h hk hkS hb0 hI q hW0
  go_enter Try.func12, Try.ntmps12
  go_wp2_with (go_at_call 30; rw [← HW.out]; refine Q.out.mono ?_; rintro e w2 ⟨rfl, h1, h2⟩)
  go_ret
  exact ⟨rfl, DiskIn.first HB.out.size h1, Kept.first HB.out h2⟩
set_option maxRecDepth 100000 in
theorem do_4 (a : Act) (_ho : a.Ok) (kv : Value) (d : Nat) (S : Nat → Prop) (X : D) (w : World) (h : DiskIn w d S X) (hk : SrcV w 1 kv a.keep.length (intsV a.keep)) (hkS : KeepAt w kv a.keep S) (hc : bits .and .i64 a.op 7 = 4) :
    Calls Try.prog 12 #[.pointer (some ⟨d, 0, none⟩), .agg #[.int .i64 a.op, .int .i64 a.f, .int .i64 a.n, .string ⟨a.s.toArray⟩, kv]] w fun e w' => e = .returned (.int .i64 0) ∧ DiskIn w' d (After S w) (X.lose (bits .and .i64 a.n 3)) ∧ Kept S w w' := by
  have hk0 := hk
  obtain ⟨ka, kc, rfl, _⟩ := hk0
  obtain ⟨W0, hW0⟩ : ∃ W0, W0 = w.alloc (.cells #[.int .i64 a.op, .int .i64 a.f, .int .i64 a.n, .string ⟨a.s.toArray⟩, .slice ka a.keep.length kc] 33) := ⟨_, rfl⟩
  have hb0 : Below w.heap.size w W0 := by rw [hW0]; exact (Below.refl _ w).alloc (Nat.le_refl _) _
  have hI := h.kept (Kept.below (S := fun _ => False) hb0) (fun _ _ e => e)
  have q := lose_c d S X (bits .and .i64 a.n 3) (bits_hi_i64 _ _ _) W0 hI
  have Q := Lib.hid q
  have HW := Lib.hid hW0
  have HB := Lib.hid hb0
  clear h hk hkS hb0 hI q hW0
  go_enter Try.func12, Try.ntmps12
  go_wp2_with (go_at_call 32; rw [← HW.out]; refine Q.out.mono ?_; rintro e w2 ⟨rfl, h1, h2⟩)
  go_ret
  exact ⟨rfl, DiskIn.plain h1, Kept.first HB.out h2⟩
set_option maxRecDepth 100000 in
theorem do_5 (a : Act) (ho : a.Ok) (kv : Value) (d : Nat) (S : Nat → Prop) (X : D) (w : World) (h : DiskIn w d S X) (hk : SrcV w 1 kv a.keep.length (intsV a.keep)) (hkS : KeepAt w kv a.keep S) (hc : bits .and .i64 a.op 7 = 5) :
    Calls Try.prog 12 #[.pointer (some ⟨d, 0, none⟩), .agg #[.int .i64 a.op, .int .i64 a.f, .int .i64 a.n, .string ⟨a.s.toArray⟩, kv]] w fun e w' => e = .returned (.int .i64 0) ∧ DiskIn w' d (After S w) (X.arm a.n a.keep) ∧ Kept S w w' := by
  have hk0 := hk
  obtain ⟨ka, kc, rfl, _⟩ := hk0
  obtain ⟨W0, hW0⟩ : ∃ W0, W0 = w.alloc (.cells #[.int .i64 a.op, .int .i64 a.f, .int .i64 a.n, .string ⟨a.s.toArray⟩, .slice ka a.keep.length kc] 33) := ⟨_, rfl⟩
  have hb0 : Below w.heap.size w W0 := by rw [hW0]; exact (Below.refl _ w).alloc (Nat.le_refl _) _
  have hI := h.kept (Kept.below (S := fun _ => False) hb0) (fun _ _ e => e)
  have q := armIn_c d S X a.n ho.n.2 _ a.keep W0 hI (hk.on hb0) ho.keep ho.keepIn
  have Q := Lib.hid q
  have HW := Lib.hid hW0
  have HB := Lib.hid hb0
  clear h hk hkS hb0 hI q hW0
  go_enter Try.func12, Try.ntmps12
  go_wp2_with (go_at_call 27; rw [← HW.out]; refine Q.out.mono ?_; rintro e w2 ⟨rfl, h1, h2⟩)
  go_ret
  exact ⟨rfl, DiskIn.first HB.out.size h1, Kept.first HB.out h2⟩
set_option maxRecDepth 100000 in
theorem do_6 (a : Act) (ho : a.Ok) (kv : Value) (d : Nat) (S : Nat → Prop) (X : D) (w : World) (h : DiskIn w d S X) (hk : SrcV w 1 kv a.keep.length (intsV a.keep)) (hkS : KeepAt w kv a.keep S) (hc : bits .and .i64 a.op 7 = 6) :
    Calls Try.prog 12 #[.pointer (some ⟨d, 0, none⟩), .agg #[.int .i64 a.op, .int .i64 a.f, .int .i64 a.n, .string ⟨a.s.toArray⟩, kv]] w fun e w' => e = .returned (.int .i64 0) ∧ DiskIn w' d (After S w) (X.crash a.keep) ∧ Kept S w w' := by
  have hk0 := hk
  obtain ⟨ka, kc, rfl, _⟩ := hk0
  obtain ⟨W0, hW0⟩ : ∃ W0, W0 = w.alloc (.cells #[.int .i64 a.op, .int .i64 a.f, .int .i64 a.n, .string ⟨a.s.toArray⟩, .slice ka a.keep.length kc] 33) := ⟨_, rfl⟩
  have hb0 : Below w.heap.size w W0 := by rw [hW0]; exact (Below.refl _ w).alloc (Nat.le_refl _) _
  have hI := h.kept (Kept.below (S := fun _ => False) hb0) (fun _ _ e => e)
  have q := crash_c d S X _ a.keep W0 hI (hkS.on hb0) (by have := ho.keep; omega) ho.keepIn
  have Q := Lib.hid q
  have HW := Lib.hid hW0
  have HB := Lib.hid hb0
  clear h hk hkS hb0 hI q hW0
  go_enter Try.func12, Try.ntmps12
  go_wp2_with (go_at_call 25; rw [← HW.out]; refine Q.out.mono ?_; rintro e w2 ⟨rfl, h1, h2⟩)
  go_ret
  exact ⟨rfl, DiskIn.first HB.out.size h1, Kept.first HB.out h2⟩
set_option maxRecDepth 100000 in
theorem do_7 (a : Act) (_ho : a.Ok) (kv : Value) (d : Nat) (S : Nat → Prop) (X : D) (w : World) (h : DiskIn w d S X) (hk : SrcV w 1 kv a.keep.length (intsV a.keep)) (hkS : KeepAt w kv a.keep S) (hc : bits .and .i64 a.op 7 = 7) :
    Calls Try.prog 12 #[.pointer (some ⟨d, 0, none⟩), .agg #[.int .i64 a.op, .int .i64 a.f, .int .i64 a.n, .string ⟨a.s.toArray⟩, kv]] w fun e w' => e = .returned (.int .i64 0) ∧ DiskIn w' d (After S w) (X.start) ∧ Kept S w w' := by
  have hk0 := hk
  obtain ⟨ka, kc, rfl, _⟩ := hk0
  obtain ⟨W0, hW0⟩ : ∃ W0, W0 = w.alloc (.cells #[.int .i64 a.op, .int .i64 a.f, .int .i64 a.n, .string ⟨a.s.toArray⟩, .slice ka a.keep.length kc] 33) := ⟨_, rfl⟩
  have hb0 : Below w.heap.size w W0 := by rw [hW0]; exact (Below.refl _ w).alloc (Nat.le_refl _) _
  have hI := h.kept (Kept.below (S := fun _ => False) hb0) (fun _ _ e => e)
  have q := start_c d S X W0 hI
  have Q := Lib.hid q
  have HW := Lib.hid hW0
  have HB := Lib.hid hb0
  clear h hk hkS hb0 hI q hW0
  go_enter Try.func12, Try.ntmps12
  go_wp2_with (go_at_call 26; rw [← HW.out]; refine Q.out.mono ?_; rintro e w2 ⟨rfl, h1, h2⟩)
  go_ret
  exact ⟨rfl, DiskIn.plain h1, Kept.first HB.out h2⟩
set_option maxRecDepth 100000 in
theorem do_x (a : Act) (ho : a.Ok) (kv : Value) (d : Nat) (S : Nat → Prop) (X : D) (w : World) (h : DiskIn w d S X) (hk : SrcV w 1 kv a.keep.length (intsV a.keep)) (hkS : KeepAt w kv a.keep S) (hc : ∃ k, bits .and .i64 a.op 7 = k ∧ ¬ k = 2 ∧ ¬ k = 3 ∧ ¬ k = 4 ∧ ¬ k = 5 ∧ ¬ k = 6 ∧ ¬ k = 7) :
    Calls Try.prog 12 #[.pointer (some ⟨d, 0, none⟩), .agg #[.int .i64 a.op, .int .i64 a.f, .int .i64 a.n, .string ⟨a.s.toArray⟩, kv]] w fun e w' => e = .returned (.int .i64 (X.write a.f a.n a.s).2) ∧ DiskIn w' d (After S w) (X.write a.f a.n a.s).1 ∧ Kept S w w' := by
  have hk0 := hk
  obtain ⟨ka, kc, rfl, _⟩ := hk0
  obtain ⟨W0, hW0⟩ : ∃ W0, W0 = w.alloc (.cells #[.int .i64 a.op, .int .i64 a.f, .int .i64 a.n, .string ⟨a.s.toArray⟩, .slice ka a.keep.length kc] 33) := ⟨_, rfl⟩
  have hb0 : Below w.heap.size w W0 := by rw [hW0]; exact (Below.refl _ w).alloc (Nat.le_refl _) _
  have hI := h.kept (Kept.below (S := fun _ => False) hb0) (fun _ _ e => e)
  have q := write_c d S X a.f a.n a.s ho.f ho.n ho.s W0 hI
  have Q := Lib.hid q
  have HW := Lib.hid hW0
  have HB := Lib.hid hb0
  obtain ⟨k, hk7, e2, e3, e4, e5, e6, e7⟩ := hc
  clear h hk hkS hb0 hI q hW0
  go_enter Try.func12, Try.ntmps12
  go_wp2_with (go_at_call 29; rw [← HW.out]; refine Q.out.mono ?_; rintro e w2 ⟨rfl, h1, h2⟩)
  go_ret
  exact ⟨rfl, DiskIn.first HB.out.size h1, Kept.first HB.out h2⟩
theorem do_c (a : Act) (ho : a.Ok) (kv : Value) (d : Nat) (S : Nat → Prop) (X : D) (w : World) (h : DiskIn w d S X) (hk : SrcV w 1 kv a.keep.length (intsV a.keep)) (hkS : KeepAt w kv a.keep S) :
    Calls Try.prog 12 #[.pointer (some ⟨d, 0, none⟩), .agg #[.int .i64 a.op, .int .i64 a.f, .int .i64 a.n, .string ⟨a.s.toArray⟩, kv]] w fun e w' => e = .returned (.int .i64 (doM X a).2) ∧ DiskIn w' d (After S w) (doM X a).1 ∧ Kept S w w' := by
  unfold doM code
  by_cases h2 : bits .and .i64 a.op 7 = 2
  · rw [if_pos h2]; exact do_2 a ho kv d S X w h hk hkS h2
  · rw [if_neg h2]
    by_cases h3 : bits .and .i64 a.op 7 = 3
    · rw [if_pos h3]; exact do_3 a ho kv d S X w h hk hkS h3
    · rw [if_neg h3]
      by_cases h4 : bits .and .i64 a.op 7 = 4
      · rw [if_pos h4]; exact do_4 a ho kv d S X w h hk hkS h4
      · rw [if_neg h4]
        by_cases h5 : bits .and .i64 a.op 7 = 5
        · rw [if_pos h5]; exact do_5 a ho kv d S X w h hk hkS h5
        · rw [if_neg h5]
          by_cases h6 : bits .and .i64 a.op 7 = 6
          · rw [if_pos h6]; exact do_6 a ho kv d S X w h hk hkS h6
          · rw [if_neg h6]
            by_cases h7 : bits .and .i64 a.op 7 = 7
            · rw [if_pos h7]; exact do_7 a ho kv d S X w h hk hkS h7
            · rw [if_neg h7]; exact do_x a ho kv d S X w h hk hkS ⟨_, rfl, h2, h3, h4, h5, h6, h7⟩
end Go.Proofs.Ythibikdnoogfoaa
