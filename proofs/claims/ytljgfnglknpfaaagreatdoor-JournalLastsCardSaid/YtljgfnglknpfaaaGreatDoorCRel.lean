/-
  A law's disk and cell, on memory of the law's own: what each call leaves of both.
-/
import Derived.Test.YtljgfnglknpfaaaGreatDoorCSet
import Derived.Test.YtljgfnglknpfaaaGreatDoorCOpen
import Derived.Test.YtljgfnglknpfaaaGreatDoorDTN
namespace Go.Proofs.YtljgfnglknpfaaaGreatDoor
set_option maxRecDepth 100000
open Go Go.RowKit Go.Maps Dk

/-- A disk on memory of the law's own. -/
def DD (w0 w : World) (d : Nat) (X : D) : Prop := DiskIn w d (fun k => w0.heap.size ≤ k) X ∧ Below w0.heap.size w0 w
/-- A disk and a cell on it. -/
def CD (w0 w : World) (d b : Nat) (f : Int) (X : D) (c : Ck.C) : Prop := ∃ S, DiskIn w d S X ∧ CellAt w b d f c ∧ ¬ S b ∧ (∀ k, S k → w0.heap.size ≤ k) ∧ w0.heap.size ≤ b ∧ Below w0.heap.size w0 w
theorem CD.toDD {w0 w : World} {d b : Nat} {f : Int} {X : D} {c : Ck.C} (h : CD w0 w d b f X c) : DD w0 w d X := by
  obtain ⟨S, h1, _, _, h4, _, h6⟩ := h
  exact ⟨h1.mono (fun k _ e => h4 k e), h6⟩
theorem CD.base {w0 w : World} {d b : Nat} {f : Int} {X : D} {c : Ck.C} (h : CD w0 w d b f X c) : Below w0.heap.size w0 w := h.toDD.2
theorem CD.inv {w0 w : World} {d b : Nat} {f : Int} {X : D} {c : Ck.C} (h : CD w0 w d b f X c) : X.Inv := h.toDD.1.inv
theorem DD.below {w0 w w' : World} {d : Nat} {X : D} (h : DD w0 w d X) (hb : Below w.heap.size w w') : DD w0 w' d X :=
  ⟨(h.1.new' hb).mono (fun _ _ e => e.1), h.2.trans (hb.mono h.2.size)⟩
theorem CD.below {w0 w w' : World} {d b : Nat} {f : Int} {X : D} {c : Ck.C} (h : CD w0 w d b f X c) (hb : Below w.heap.size w w') : CD w0 w' d b f X c := by
  obtain ⟨S, h1, h2, h3, h4, h5, h6⟩ := h
  exact ⟨_, h1.new' hb, h2.kept (Kept.below (S := fun _ => False) hb) (fun e => e), fun e => h3 e.1, fun k e => h4 k e.1, h5, h6.trans (hb.mono h6.size)⟩
theorem Tab.up {w0 w : World} (ht : Tab w0) (hb : Below w0.heap.size w0 w) : Tab w := ht.kept (Kept.below (S := fun _ => False) hb) (fun e => e)

/-- A call of the disk alone, beside a cell. -/
theorem CD.op {w0 w : World} {d b : Nat} {f : Int} {X X' : D} {c : Ck.C} (h : CD w0 w d b f X c) {g : FuncId} {args : Array Value} {r : Ending}
    (hop : ∀ S, DiskIn w d S X → (∀ k, S k → w0.heap.size ≤ k) → Calls Tryz.prog g args w fun e w' => e = r ∧ DiskIn w' d (After S w) X' ∧ Kept S w w') : Calls Tryz.prog g args w fun e w' => e = r ∧ Hid (CD w0 w' d b f X' c) := by
  obtain ⟨S, h1, h2, h3, h4, h5, h6⟩ := h
  refine (hop S h1 h4).mono ?_
  rintro e w' ⟨he, hd, hk⟩
  have hbl := h2.lt
  refine ⟨he, _, hd, h2.kept hk h3, fun e => e.elim h3 (fun e => absurd hbl (Nat.not_lt.2 e)), fun k e => e.elim (h4 k) (Nat.le_trans h6.size), h5, h6.trans (hk.toBelow h6.size h4)⟩
theorem DD.op {w0 w : World} {d : Nat} {X X' : D} (h : DD w0 w d X) {g : FuncId} {args : Array Value} {r : Ending}
    (hop : ∀ S, DiskIn w d S X → (∀ k, S k → w0.heap.size ≤ k) → Calls Tryz.prog g args w fun e w' => e = r ∧ DiskIn w' d (After S w) X' ∧ Kept S w w') : Calls Tryz.prog g args w fun e w' => e = r ∧ Hid (DD w0 w' d X') := by
  obtain ⟨h1, h6⟩ := h
  refine (hop _ h1 (fun _ e => e)).mono ?_
  rintro e w' ⟨he, hd, hk⟩
  exact ⟨he, hd.mono (fun k _ e => e.elim id (Nat.le_trans h6.size)), h6.trans (hk.toBelow h6.size (fun _ e => e))⟩

/-- A list of numbers that came in. -/
structure KeepIn (w0 : World) (v : Value) (l : List Int) : Prop where
  src : SrcV w0 1 v l.length (intsV l)
  len : l.length ≤ 4398046511104
  int : ∀ k ∈ l, -9223372036854775808 ≤ k ∧ k ≤ 9223372036854775807
theorem KeepIn.crash {w0 w : World} {v : Value} {l : List Int} (hk : KeepIn w0 v l) (hb : Below w0.heap.size w0 w) {d : Nat} {X : D} : ∀ S, DiskIn w d S X → (∀ k, S k → w0.heap.size ≤ k) → Calls Tryz.prog 18 #[.pointer (some ⟨d, 0, none⟩), v] w fun e w' => e = .returned (.tuple #[]) ∧ DiskIn w' d (After S w) (X.crash l) ∧ Kept S w w' :=
  fun S h hS => crash_c d S X v l w h (hk.src.keepAt hb hS) (by have := hk.len; omega) hk.int
theorem KeepIn.arm {w0 w : World} {v : Value} {l : List Int} (hk : KeepIn w0 v l) (hb : Below w0.heap.size w0 w) {d : Nat} {X : D} (n : Int) (hn : n ≤ 9223372036854775807) : ∀ S, DiskIn w d S X → (∀ k, S k → w0.heap.size ≤ k) → Calls Tryz.prog 11 #[.pointer (some ⟨d, 0, none⟩), .int .i64 n, v] w fun e w' => e = .returned (.tuple #[]) ∧ DiskIn w' d (After S w) (X.arm n l) ∧ Kept S w w' :=
  fun S h _ => armIn_c d S X n hn v l w h ((hk.src).on hb) hk.len hk.int
theorem lose_op {w : World} {d : Nat} {X : D} (n : Int) (hn : n ≤ 9223372036854775807) (S : Nat → Prop) (h : DiskIn w d S X) : Calls Tryz.prog 10 #[.pointer (some ⟨d, 0, none⟩), .int .i64 n] w fun e w' => e = .returned (.tuple #[]) ∧ DiskIn w' d (After S w) (X.lose n) ∧ Kept S w w' :=
  (lose_c d S X n hn w h).mono fun _ _ ⟨h1, h2, h3⟩ => ⟨h1, h2.same w, h3⟩
theorem start_op {w : World} {d : Nat} {X : D} (S : Nat → Prop) (h : DiskIn w d S X) : Calls Tryz.prog 19 #[.pointer (some ⟨d, 0, none⟩)] w fun e w' => e = .returned (.tuple #[]) ∧ DiskIn w' d (After S w) X.start ∧ Kept S w w' :=
  (start_c d S X w h).mono fun _ _ ⟨h1, h2, h3⟩ => ⟨h1, h2.same w, h3⟩

theorem dd_new {w0 w : World} (hb : Below w0.heap.size w0 w) : Calls Tryz.prog 8 #[] w fun e w' => ∃ d, e = .returned (.pointer (some ⟨d, 0, none⟩)) ∧ Hid (DD w0 w' d D.new) := by
  refine (new_c w).mono ?_
  rintro e w' ⟨d, rfl, h1, h2⟩
  exact ⟨d, rfl, h1.mono (fun k _ e => Nat.le_trans hb.size e), hb.trans (h2.mono hb.size)⟩
theorem dd_open {w0 w : World} {d : Nat} {X : D} (ht : Tab w0) (h : DD w0 w d X) (f : Int) (hf : -9223372036854775808 ≤ f ∧ f ≤ 9223372036854775807) {c : Ck.C} (ho : Ck.openM X f = (some c, 0)) :
    Calls Tryz.prog 36 #[.pointer (some ⟨d, 0, none⟩), .int .i64 f] w fun e w' => ∃ b, e = .returned (.tuple #[.pointer (some ⟨b, 0, none⟩), .int .i64 0]) ∧ Hid (CD w0 w' d b f X c) := by
  refine (open_c d _ X f hf w h.1 (ht.up h.2)).mono ?_
  intro e w' hr
  unfold OpenRes at hr
  rw [ho] at hr
  obtain ⟨hb, b, hbl, he, hc⟩ := hr
  exact ⟨b, he, _, h.1.new' hb, hc, fun e => absurd hbl (Nat.not_le.2 e.2), fun k e => e.1, Nat.le_trans h.2.size hbl, h.2.trans (hb.mono h.2.size)⟩
theorem cd_get {w0 w : World} {d b : Nat} {f : Int} {X : D} {c : Ck.C} (h : CD w0 w d b f X c) :
    Calls Tryz.prog 37 #[.pointer (some ⟨b, 0, none⟩)] w fun e w' => e = .returned (.tuple #[.string ⟨c.val.toArray⟩, .bool (c.slot != 0)]) ∧ Below w.heap.size w w' := by
  obtain ⟨S, _, h2, _⟩ := h
  exact get_c b d f c w h2
theorem cd_set {w0 w : World} {d b : Nat} {f : Int} {X : D} {c : Ck.C} (ht : Tab w0) (h : CD w0 w d b f X c) (hf : -9223372036854775808 ≤ f ∧ f ≤ 9223372036854775807) (s : List UInt8) :
    Calls Tryz.prog 48 #[.pointer (some ⟨b, 0, none⟩), .string ⟨s.toArray⟩] w fun e w' => e = .returned (.int .i64 (Ck.setM X f c s).2.2) ∧ Hid (CD w0 w' d b f (Ck.setM X f c s).1 (Ck.setM X f c s).2.1) := by
  obtain ⟨S, h1, h2, h3, h4, h5, h6⟩ := h
  have hl := ht.lt
  refine (set_c b d f c S X s w ⟨h1, h2, h3, ht.up h6, fun e => absurd (h4 _ e) (Nat.not_le.2 hl), fun e => absurd (e ▸ h5) (Nat.not_le.2 hl), hf⟩).mono ?_
  rintro e w' ⟨rfl, g1, g2, g3⟩
  have hbl := h2.lt
  refine ⟨rfl, _, g1, g2, fun e => e.elim h3 (fun e => absurd hbl (Nat.not_lt.2 e)), fun k e => e.elim (h4 k) (Nat.le_trans h6.size), h5, h6.trans (g3.toBelow h6.size (fun k e => e.elim (h4 k) (fun e => e ▸ h5)))⟩

end Go.Proofs.YtljgfnglknpfaaaGreatDoor
