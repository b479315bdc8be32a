/-
  cell: the steps of Set, one behind the other: what each leaves of the disk and the cell.
-/
import Derived.Test.YtninopllfbiccaaDoorCForm
namespace Go.Proofs.YtninopllfbiccaaDoor
set_option maxRecDepth 100000
open Go Go.RowKit Go.Maps Dk

theorem CStep.start {w : World} {d b : Nat} {f : Int} {S : Nat → Prop} {X : D} {c : Ck.C} (h : DiskIn w d S X) (hc : CellAt w b d f c) : CStep w w d b f S X c := ⟨h.same w, hc, Kept.refl _ _⟩
theorem CStep.after {w w1 w2 : World} {d b : Nat} {f : Int} {S : Nat → Prop} {X : D} {c : Ck.C} (h : CStep w w1 d b f S X c) (hk : Kept (fun _ => False) w1 w2) : CStep w w2 d b f S X c :=
  ⟨h.1.kept hk (fun _ _ e => e), h.2.1.kept hk (fun e => e), h.2.2.trans hk (fun _ _ e => e.elim)⟩
theorem CStep.drew {w w1 : World} {d b : Nat} {f : Int} {S : Nat → Prop} {X : D} {c : Ck.C} (h : CStep w w1 d b f S X c) : CStep w w1.drew d b f S X c := h.after (Kept.drew _ _)
theorem CStep.below {w w1 w2 : World} {d b : Nat} {f : Int} {S : Nat → Prop} {X : D} {c : Ck.C} (h : CStep w w1 d b f S X c) (hb : Below w1.heap.size w1 w2) : CStep w w2 d b f S X c := h.after (Kept.below hb)
theorem CStep.on {w w1 w2 : World} {d b : Nat} {f : Int} {S : Nat → Prop} {X X' : D} {c : Ck.C} (h : CStep w w1 d b f S X c) (hb : ¬ S b) (hbl : b < w.heap.size) (h1 : DiskIn w2 d (After (After S w) w1) X') (h2 : Kept (After S w) w1 w2) : CStep w w2 d b f S X' c :=
  ⟨h1.mono (fun k _ e => After.trans h.2.2.size k e), h.2.1.kept h2 (fun e => e.elim hb (fun e => absurd hbl (Nat.not_lt.2 e))), h.2.2.trans h2 (fun _ hk e => e.elim (fun e => Or.inl e) (fun e => absurd hk (Nat.not_lt.2 e)))⟩
theorem CStep.tab {w w1 : World} {d b : Nat} {f : Int} {S : Nat → Prop} {X : D} {c : Ck.C} (h : CStep w w1 d b f S X c) (ht : Tab w) (h1 : ¬ S 0) (h2 : b ≠ 0) : Tab w1 := ht.kept h.2.2 (fun e => e.elim h1 (fun e => h2 e.symm))

/-- What a step hands on: the cells of the cell's block, hidden the whole. -/
structure CFacts (w w1 : World) (d b : Nat) (f : Int) (S : Nat → Prop) (X : D) (c : Ck.C) : Prop where
  c0 : w1.cell? ⟨b, 0, none⟩ = some (.pointer (some ⟨d, 0, none⟩))
  c1 : w1.cell? ⟨b, 1, none⟩ = some (.int .i64 f)
  c2 : w1.cell? ⟨b, 2, none⟩ = some (.int .i64 (c.slot : Int))
  c3 : w1.cell? ⟨b, 3, none⟩ = some (.string ⟨c.val.toArray⟩)
  c4 : w1.cell? ⟨b, 4, none⟩ = some (.bool c.sure)
  z2 : w1.frozen? ⟨b, 2, none⟩ = false
  z3 : w1.frozen? ⟨b, 3, none⟩ = false
  z4 : w1.frozen? ⟨b, 4, none⟩ = false
theorem CStep.facts {w w1 : World} {d b : Nat} {f : Int} {S : Nat → Prop} {X : D} {c : Ck.C} (h : CStep w w1 d b f S X c) : CFacts w w1 d b f S X c := ⟨h.2.1.c0, h.2.1.c1, h.2.1.c2, h.2.1.c3, h.2.1.c4, h.2.1.z 2, h.2.1.z 3, h.2.1.z 4⟩

theorem step_secure {w w1 : World} {d b : Nat} {f : Int} {S : Nat → Prop} {X : D} {c : Ck.C} (h : CStep w w1 d b f S X c) (hf : -9223372036854775808 ≤ f ∧ f ≤ 9223372036854775807) (hb : ¬ S b) (hbl : b < w.heap.size) :
    Calls Tryd.prog 38 #[.pointer (some ⟨b, 0, none⟩)] w1 fun e w2 => e = .returned (.int .i64 (X.sync f).2) ∧ Hid (CStep w w2 d b f S (X.sync f).1 { c with sure := (X.sync f).2 == 0 }) := by
  have hb' : ¬ After S w b := fun e => e.elim hb (fun e => absurd hbl (Nat.not_lt.2 e))
  refine (secure_c b d f hf c (After S w) X w1 h.1 h.2.1 hb').mono ?_
  rintro e w2 ⟨rfl, h1, h2, h3⟩
  exact ⟨rfl, h1.mono (fun k _ e => After.trans h.2.2.size k e), h2, h.2.2.trans h3 (fun k hk e => by
    rcases e with (e | e) | e
    · exact Or.inl e
    · exact absurd hk (Nat.not_lt.2 e)
    · exact Or.inr e)⟩
theorem step_write {w w1 : World} {d b : Nat} {f : Int} {S : Nat → Prop} {X : D} {c : Ck.C} (h : CStep w w1 d b f S X c) (hf : -9223372036854775808 ≤ f ∧ f ≤ 9223372036854775807) (hb : ¬ S b) (hbl : b < w.heap.size) (a : Nat) (ha : a ≤ 131072) (s : List UInt8) (hs : s.length ≤ 65536) :
    Calls Tryd.prog 31 #[.pointer (some ⟨d, 0, none⟩), .int .i64 f, .int .i64 (a : Int), .string ⟨s.toArray⟩] w1 fun e w2 => e = .returned (.int .i64 (X.write f a s).2) ∧ Hid (CStep w w2 d b f S (X.write f a s).1 c) := by
  refine (write_c d (After S w) X f a s hf (by omega) (by omega) w1 h.1).mono ?_
  rintro e w2 ⟨rfl, h1, h2⟩
  exact ⟨rfl, h.on hb hbl h1 h2⟩
theorem step_sync {w w1 : World} {d b : Nat} {f : Int} {S : Nat → Prop} {X : D} {c : Ck.C} (h : CStep w w1 d b f S X c) (hf : -9223372036854775808 ≤ f ∧ f ≤ 9223372036854775807) (hb : ¬ S b) (hbl : b < w.heap.size) :
    Calls Tryd.prog 40 #[.pointer (some ⟨d, 0, none⟩), .int .i64 f] w1 fun e w2 => e = .returned (.int .i64 (X.sync f).2) ∧ Hid (CStep w w2 d b f S (X.sync f).1 c) := by
  refine (sync_c d (After S w) X f hf w1 h.1).mono ?_
  rintro e w2 ⟨rfl, h1, h2⟩
  exact ⟨rfl, h.on hb hbl h1 h2⟩
theorem step_other {w w1 : World} {d b : Nat} {f : Int} {S : Nat → Prop} {X : D} {c : Ck.C} (h : CStep w w1 d b f S X c) :
    Calls Tryd.prog 39 #[.pointer (some ⟨b, 0, none⟩)] w1 fun e w2 => e = .returned (.int .i64 (Ck.other c.slot : Nat)) ∧ w2 = w1 := other_c b d f c w1 h.2.1
theorem step_form {w w1 : World} {d b : Nat} {f : Int} {S : Nat → Prop} {X : D} {c : Ck.C} (h : CStep w w1 d b f S X c) (k n : Nat) (hk : k ≤ 2) (hn : n ≤ 65536) :
    Calls Tryd.prog 41 #[.int .i64 (k : Int), .int .i64 (n : Int)] w1 fun e w2 => e = .returned (.string ⟨(Ck.header k n).toArray⟩) ∧ w2.cell? ⟨b, 0, none⟩ = some (.pointer (some ⟨d, 0, none⟩)) ∧ w2.cell? ⟨b, 1, none⟩ = some (.int .i64 f) ∧ Hid (CStep w w2 d b f S X c) := by
  refine (form_c k n hk hn w1).mono ?_
  rintro e w2 ⟨rfl, hb⟩
  have h2 := h.below hb
  exact ⟨rfl, h2.2.1.c0, h2.2.1.c1, h2⟩
end Go.Proofs.YtninopllfbiccaaDoor
