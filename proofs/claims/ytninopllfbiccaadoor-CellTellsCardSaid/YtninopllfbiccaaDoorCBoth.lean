/-
  The program's disk and cell, and the reference's, in one memory.
-/
import Derived.Test.YtninopllfbiccaaDoorCROpen
import Derived.Test.YtninopllfbiccaaDoorCSmall
namespace Go.Proofs.YtninopllfbiccaaDoor
set_option maxRecDepth 100000
open Go Go.RowKit Go.Maps Dk

/-- What holds of a world, in blocks of U alone. -/
abbrev Assn := World → (Nat → Prop) → Prop
structure Solid (A : Assn) : Prop where
  kept : ∀ {w w' : World} {U T : Nat → Prop}, A w U → Kept T w w' → (∀ k, U k → ¬ T k) → A w' U
def Both (w0 w : World) (A B : Assn) : Prop := ∃ U V, A w U ∧ B w V ∧ (∀ k, U k → ¬ V k) ∧ (∀ k, U k → w0.heap.size ≤ k ∧ k < w.heap.size) ∧ (∀ k, V k → w0.heap.size ≤ k ∧ k < w.heap.size) ∧ Below w0.heap.size w0 w
def Did (w w' : World) (U : Nat → Prop) (A : Assn) : Prop := ∃ U', A w' U' ∧ (∀ k, U' k → (U k ∨ w.heap.size ≤ k) ∧ k < w'.heap.size) ∧ Kept U w w'
theorem Both.base {w0 w : World} {A B : Assn} (h : Both w0 w A B) : Below w0.heap.size w0 w := by
  obtain ⟨U, V, _, _, _, _, _, h6⟩ := h
  exact h6
theorem Both.flip {w0 w : World} {A B : Assn} (h : Both w0 w A B) : Both w0 w B A := by
  obtain ⟨U, V, h1, h2, h3, h4, h5, h6⟩ := h
  exact ⟨V, U, h2, h1, fun k e e' => h3 k e' e, h5, h4, h6⟩
theorem Both.mapL {w0 w : World} {A A' B : Assn} (h : Both w0 w A B) (f : ∀ U, A w U → A' w U) : Both w0 w A' B := by
  obtain ⟨U, V, h1, h2, h3, h4, h5, h6⟩ := h
  exact ⟨U, V, f U h1, h2, h3, h4, h5, h6⟩
theorem Both.mapR {w0 w : World} {A B B' : Assn} (h : Both w0 w A B) (f : ∀ U, B w U → B' w U) : Both w0 w A B' := (h.flip.mapL f).flip
theorem Both.left {w0 w : World} {A B : Assn} (hB : Solid B) (h : Both w0 w A B) {β : Type} {g : FuncId} {args : Array Value} {R : β → Ending → Prop} {A' : β → Assn}
    (hop : ∀ U, A w U → (∀ k, U k → w0.heap.size ≤ k) → Below w0.heap.size w0 w → Calls Tryd.prog g args w fun e w' => ∃ x, R x e ∧ Did w w' U (A' x)) : Calls Tryd.prog g args w fun e w' => ∃ x, R x e ∧ Hid (Both w0 w' (A' x) B) := by
  obtain ⟨U, V, h1, h2, h3, h4, h5, h6⟩ := h
  refine (hop U h1 (fun k e => (h4 k e).1) h6).mono ?_
  rintro e w' ⟨x, hr, U', g1, g2, g3⟩
  refine ⟨x, hr, U', V, g1, hB.kept h2 g3 (fun k e e' => h3 k e' e), fun k e e' => ?_, fun k e => ?_, fun k e => ⟨(h5 k e).1, Nat.lt_of_lt_of_le (h5 k e).2 g3.size⟩, h6.trans (g3.toBelow h6.size (fun k e => (h4 k e).1))⟩
  · rcases (g2 k e).1 with e1 | e1
    · exact h3 k e1 e'
    · exact absurd (h5 k e').2 (Nat.not_lt.2 e1)
  · refine ⟨?_, (g2 k e).2⟩
    rcases (g2 k e).1 with e1 | e1
    · exact (h4 k e1).1
    · exact Nat.le_trans h6.size e1
theorem Both.right {w0 w : World} {A B : Assn} (hA : Solid A) (h : Both w0 w A B) {β : Type} {g : FuncId} {args : Array Value} {R : β → Ending → Prop} {B' : β → Assn}
    (hop : ∀ U, B w U → (∀ k, U k → w0.heap.size ≤ k) → Below w0.heap.size w0 w → Calls Tryd.prog g args w fun e w' => ∃ x, R x e ∧ Did w w' U (B' x)) : Calls Tryd.prog g args w fun e w' => ∃ x, R x e ∧ Hid (Both w0 w' A (B' x)) := by
  refine (h.flip.left hA hop).mono ?_
  rintro e w' ⟨x, hr, g1⟩
  exact ⟨x, hr, (show Both w0 w' (B' x) A from g1).flip⟩
theorem Both.below {w0 w w' : World} {A B : Assn} (hA : Solid A) (hB : Solid B) (h : Both w0 w A B) (hb : Below w.heap.size w w') : Both w0 w' A B := by
  obtain ⟨U, V, h1, h2, h3, h4, h5, h6⟩ := h
  exact ⟨U, V, hA.kept h1 (Kept.below (S := fun _ => False) hb) (fun _ _ e => e), hB.kept h2 (Kept.below (S := fun _ => False) hb) (fun _ _ e => e), h3, fun k e => ⟨(h4 k e).1, Nat.lt_of_lt_of_le (h4 k e).2 hb.size⟩, fun k e => ⟨(h5 k e).1, Nat.lt_of_lt_of_le (h5 k e).2 hb.size⟩, h6.trans (hb.mono h6.size)⟩

/-! ### The four assertions -/
def PDa (d : Nat) (Y : D) : Assn := fun w U => DiskIn w d U Y
def PCa (d b : Nat) (f : Int) (Y : D) (c : Ck.C) : Assn := fun w U => ∃ S, DiskIn w d S Y ∧ CellAt w b d f c ∧ ¬ S b ∧ (∀ k, S k → U k) ∧ U b
def RDa (r : Nat) (Y : D) : Assn := fun w U => RD w r U Y
def RCa (r b : Nat) (f : Int) (Y : D) (c : Ck.C) : Assn := fun w U => ∃ S, RD w r S Y ∧ RCellAt w b r f c ∧ ¬ S b ∧ (∀ k, S k → U k) ∧ U b
theorem PDa.solid (d : Nat) (Y : D) : Solid (PDa d Y) := ⟨fun h hk hn => DiskIn.kept h hk hn⟩
theorem RDa.solid (r : Nat) (Y : D) : Solid (RDa r Y) := ⟨fun h hk hn => RD.kept h hk hn⟩
theorem PCa.solid (d b : Nat) (f : Int) (Y : D) (c : Ck.C) : Solid (PCa d b f Y c) := ⟨fun h hk hn => by
  obtain ⟨S, h1, h2, h3, h4, h5⟩ := h
  exact ⟨S, h1.kept hk (fun k e => hn k (h4 k e)), h2.kept hk (hn b h5), h3, h4, h5⟩⟩
theorem RCa.solid (r b : Nat) (f : Int) (Y : D) (c : Ck.C) : Solid (RCa r b f Y c) := ⟨fun h hk hn => by
  obtain ⟨S, h1, h2, h3, h4, h5⟩ := h
  exact ⟨S, h1.kept hk (fun k e => hn k (h4 k e)), h2.kept hk (hn b h5), h3, h4, h5⟩⟩
theorem PCa.pd {d b : Nat} {f : Int} {Y : D} {c : Ck.C} {w : World} (U : Nat → Prop) (h : PCa d b f Y c w U) : PDa d Y w U := by
  obtain ⟨S, h1, _, _, h4, _⟩ := h
  exact h1.mono (fun k _ e => h4 k e)
theorem RCa.rd {r b : Nat} {f : Int} {Y : D} {c : Ck.C} {w : World} (U : Nat → Prop) (h : RCa r b f Y c w U) : RDa r Y w U := by
  obtain ⟨S, h1, _, _, h4, _⟩ := h
  exact h1.mono (fun k _ e => h4 k e)

/-! ### Calls of the one and the other -/
/-- A call of the program's disk. -/
theorem pd_op {d : Nat} {Y' : D} {w : World} {U : Nat → Prop} {g : FuncId} {args : Array Value} {rr : Ending} (hop : Calls Tryd.prog g args w fun e w' => e = rr ∧ DiskIn w' d (After U w) Y' ∧ Kept U w w') :
    Calls Tryd.prog g args w fun e w' => ∃ _ : Unit, e = rr ∧ Did w w' U (PDa d Y') := by
  refine hop.mono ?_
  rintro e w' ⟨he, h1, h2⟩
  exact ⟨(), he, fun k => After U w k ∧ k < w'.heap.size, h1.mono (fun k hk e => ⟨e, hk⟩), fun k e => e, h2⟩
theorem rd_op {r : Nat} {Y' : D} {w : World} {U : Nat → Prop} {g : FuncId} {args : Array Value} {rr : Ending} (hop : Calls Tryd.prog g args w fun e w' => e = rr ∧ RD w' r (After U w) Y' ∧ Kept U w w') :
    Calls Tryd.prog g args w fun e w' => ∃ _ : Unit, e = rr ∧ Did w w' U (RDa r Y') := by
  refine hop.mono ?_
  rintro e w' ⟨he, h1, h2⟩
  exact ⟨(), he, fun k => After U w k ∧ k < w'.heap.size, h1.mono (fun k hk e => ⟨e, hk⟩), fun k e => e, h2⟩
theorem pc_op {d b : Nat} {f : Int} {Y Y' : D} {c : Ck.C} {w : World} {U : Nat → Prop} (h : PCa d b f Y c w U) {g : FuncId} {args : Array Value} {rr : Ending} (hop : ∀ S, DiskIn w d S Y → (∀ k, S k → U k) → Calls Tryd.prog g args w fun e w' => e = rr ∧ DiskIn w' d (After S w) Y' ∧ Kept S w w') :
    Calls Tryd.prog g args w fun e w' => ∃ _ : Unit, e = rr ∧ Did w w' U (PCa d b f Y' c) := by
  obtain ⟨S, h1, h2, h3, h4, h5⟩ := h
  have hbl := h2.lt
  refine (hop S h1 h4).mono ?_
  rintro e w' ⟨he, g1, g2⟩
  refine ⟨(), he, fun k => After U w k ∧ k < w'.heap.size, ⟨fun k => After S w k ∧ k < w'.heap.size, g1.mono (fun k hk e => ⟨e, hk⟩), h2.kept g2 h3, fun e => e.1.elim h3 (fun e => absurd hbl (Nat.not_lt.2 e)), fun k e => ⟨e.1.imp (h4 k) id, e.2⟩, Or.inl h5, Nat.lt_of_lt_of_le hbl g2.size⟩, fun k e => e, g2.mono (fun k _ e => h4 k e)⟩
theorem rc_op {r b : Nat} {f : Int} {Y Y' : D} {c : Ck.C} {w : World} {U : Nat → Prop} (h : RCa r b f Y c w U) {g : FuncId} {args : Array Value} {rr : Ending} (hop : ∀ S, RD w r S Y → (∀ k, S k → U k) → Calls Tryd.prog g args w fun e w' => e = rr ∧ RD w' r (After S w) Y' ∧ Kept S w w') :
    Calls Tryd.prog g args w fun e w' => ∃ _ : Unit, e = rr ∧ Did w w' U (RCa r b f Y' c) := by
  obtain ⟨S, h1, h2, h3, h4, h5⟩ := h
  have hbl := h2.lt
  refine (hop S h1 h4).mono ?_
  rintro e w' ⟨he, g1, g2⟩
  refine ⟨(), he, fun k => After U w k ∧ k < w'.heap.size, ⟨fun k => After S w k ∧ k < w'.heap.size, g1.mono (fun k hk e => ⟨e, hk⟩), h2.kept g2 h3, fun e => e.1.elim h3 (fun e => absurd hbl (Nat.not_lt.2 e)), fun k e => ⟨e.1.imp (h4 k) id, e.2⟩, Or.inl h5, Nat.lt_of_lt_of_le hbl g2.size⟩, fun k e => e, g2.mono (fun k _ e => h4 k e)⟩
theorem pc_set {d b : Nat} {f : Int} {Y : D} {c : Ck.C} {w0 w : World} {U : Nat → Prop} (ht : Tab w0) (hb : Below w0.heap.size w0 w) (hU : ∀ k, U k → w0.heap.size ≤ k) (h : PCa d b f Y c w U) (hf : In64 f) (s : List UInt8) :
    Calls Tryd.prog 14 #[.pointer (some ⟨b, 0, none⟩), .string ⟨s.toArray⟩] w fun e w' => ∃ _ : Unit, e = .returned (.int .i64 (Ck.setM Y f c s).2.2) ∧ Did w w' U (PCa d b f (Ck.setM Y f c s).1 (Ck.setM Y f c s).2.1) := by
  obtain ⟨S, h1, h2, h3, h4, h5⟩ := h
  have hbl := h2.lt
  have hl := ht.lt
  refine (set_c b d f c S Y s w ⟨h1, h2, h3, ht.up hb, fun e => absurd (hU _ (h4 _ e)) (Nat.not_le.2 hl), fun e => absurd (e ▸ hU _ h5) (Nat.not_le.2 hl), hf⟩).mono ?_
  rintro e w' ⟨he, g1, g2, g3⟩
  refine ⟨(), he, fun k => After U w k ∧ k < w'.heap.size, ⟨fun k => After S w k ∧ k < w'.heap.size, g1.mono (fun k hk e => ⟨e, hk⟩), g2, fun e => e.1.elim h3 (fun e => absurd hbl (Nat.not_lt.2 e)), fun k e => ⟨e.1.imp (h4 k) id, e.2⟩, Or.inl h5, g2.lt⟩, fun k e => e, g3.mono (fun k _ e => e.elim (h4 k) (fun e => e ▸ h5))⟩
theorem pd_open {d : Nat} {f : Int} {Y : D} {w0 w : World} {U : Nat → Prop} (ht : Tab w0) (hb : Below w0.heap.size w0 w) (h : PDa d Y w U) (hf : In64 f) {c : Ck.C} {z : Int} (ho : Ck.openM Y f = (some c, z)) :
    Calls Tryd.prog 12 #[.pointer (some ⟨d, 0, none⟩), .int .i64 f] w fun e w' => ∃ b, e = .returned (.tuple #[.pointer (some ⟨b, 0, none⟩), .int .i64 z]) ∧ Did w w' U (PCa d b f Y c) := by
  refine (open_c d U Y f hf w h (ht.up hb)).mono ?_
  intro e w' hr
  unfold OpenRes at hr
  rw [ho] at hr
  obtain ⟨hb, b, hbl, he, hc⟩ := hr
  exact ⟨b, he, fun k => (U k ∨ w.heap.size ≤ k) ∧ k < w'.heap.size, ⟨fun k => U k ∧ k < w.heap.size, DiskIn.new' h hb, hc, fun e => absurd hbl (Nat.not_le.2 e.2), fun k e => ⟨Or.inl e.1, Nat.lt_of_lt_of_le e.2 hb.size⟩, Or.inr hbl, hc.lt⟩, fun k e => e, Kept.below hb⟩
theorem pd_open_no {d : Nat} {f : Int} {Y : D} {w0 w : World} {U : Nat → Prop} (ht : Tab w0) (hb : Below w0.heap.size w0 w) (h : PDa d Y w U) (hf : In64 f) {z : Int} (ho : Ck.openM Y f = (none, z)) :
    Calls Tryd.prog 12 #[.pointer (some ⟨d, 0, none⟩), .int .i64 f] w fun e w' => ∃ _ : Unit, e = .returned (.tuple #[.pointer none, .int .i64 z]) ∧ Did w w' U (PDa d Y) := by
  refine (open_c d U Y f hf w h (ht.up hb)).mono ?_
  intro e w' hr
  unfold OpenRes at hr
  rw [ho] at hr
  obtain ⟨hb, he⟩ := hr
  exact ⟨(), he, fun k => U k ∧ k < w.heap.size, DiskIn.new' h hb, fun k e => ⟨Or.inl e.1, Nat.lt_of_lt_of_le e.2 hb.size⟩, Kept.below hb⟩
theorem rd_open {r : Nat} {f : Int} {Y : D} {w : World} {U : Nat → Prop} (h : RDa r Y w U) {c : Ck.C} {z : Int} (ho : Ck.openM Y f = (some c, z)) :
    Calls Tryd.prog 13 #[.pointer (some ⟨r, 0, none⟩), .int .i64 f] w fun e w' => ∃ b, e = .returned (.tuple #[.pointer (some ⟨b, 0, none⟩), .int .i64 z]) ∧ Did w w' U (RCa r b f Y c) := by
  refine (ropen_c r U Y f w h).mono ?_
  intro e w' hr
  unfold ROpenRes at hr
  rw [ho] at hr
  obtain ⟨hb, b, hbl, he, hc⟩ := hr
  exact ⟨b, he, fun k => (U k ∨ w.heap.size ≤ k) ∧ k < w'.heap.size, ⟨fun k => U k ∧ k < w.heap.size, RD.new' h hb, hc, fun e => absurd hbl (Nat.not_le.2 e.2), fun k e => ⟨Or.inl e.1, Nat.lt_of_lt_of_le e.2 hb.size⟩, Or.inr hbl, hc.lt⟩, fun k e => e, Kept.below hb⟩
theorem rd_open_no {r : Nat} {f : Int} {Y : D} {w : World} {U : Nat → Prop} (h : RDa r Y w U) {z : Int} (ho : Ck.openM Y f = (none, z)) :
    Calls Tryd.prog 13 #[.pointer (some ⟨r, 0, none⟩), .int .i64 f] w fun e w' => ∃ _ : Unit, e = .returned (.tuple #[.pointer none, .int .i64 z]) ∧ Did w w' U (RDa r Y) := by
  refine (ropen_c r U Y f w h).mono ?_
  intro e w' hr
  unfold ROpenRes at hr
  rw [ho] at hr
  obtain ⟨hb, he⟩ := hr
  exact ⟨(), he, fun k => U k ∧ k < w.heap.size, RD.new' h hb, fun k e => ⟨Or.inl e.1, Nat.lt_of_lt_of_le e.2 hb.size⟩, Kept.below hb⟩
/-- The value, read. -/
theorem both_get {w0 w : World} {d b : Nat} {f : Int} {Y : D} {c : Ck.C} {B : Assn} (hB : Solid B) (h : Both w0 w (PCa d b f Y c) B) :
    Calls Tryd.prog 23 #[.pointer (some ⟨b, 0, none⟩)] w fun e w' => e = .returned (.tuple #[.string ⟨c.val.toArray⟩, .bool (c.slot != 0)]) ∧ Hid (Both w0 w' (PCa d b f Y c) B) := by
  have h' := h
  obtain ⟨U, V, ⟨S, _, h2, _⟩, _⟩ := h
  refine (get_c b d f c w h2).mono ?_
  rintro e w' ⟨he, hb⟩
  exact ⟨he, h'.below (PCa.solid d b f Y c) hB hb⟩
theorem both_rget {w0 w : World} {r b : Nat} {f : Int} {Y : D} {c : Ck.C} {A : Assn} (hA : Solid A) (h : Both w0 w A (RCa r b f Y c)) :
    Calls Tryd.prog 24 #[.pointer (some ⟨b, 0, none⟩)] w fun e w' => e = .returned (.tuple #[.string ⟨c.val.toArray⟩, .bool (c.slot != 0)]) ∧ Hid (Both w0 w' A (RCa r b f Y c)) := by
  have h' := h
  obtain ⟨U, V, _, ⟨S, _, h2, _⟩, _⟩ := h
  refine (rcget_c b r f c w h2).mono ?_
  rintro e w' ⟨he, hb⟩
  exact ⟨he, h'.below hA (RCa.solid r b f Y c) hb⟩
/-- Two new disks. -/
theorem both_new {w0 w : World} {d : Nat} (hb : Below w0.heap.size w0 w) (h : DiskIn w d (fun k => w0.heap.size ≤ k) D.new) :
    Calls Tryd.prog 11 #[] w fun e w' => ∃ r, e = .returned (.pointer (some ⟨r, 0, none⟩)) ∧ Hid (Both w0 w' (PDa d D.new) (RDa r D.new)) := by
  refine (rd_new w).mono ?_
  rintro e w' ⟨r, rfl, g1, g2⟩
  exact ⟨r, rfl, fun k => w0.heap.size ≤ k ∧ k < w.heap.size, fun k => w.heap.size ≤ k ∧ k < w'.heap.size, h.new' g2, g1.mono (fun k hk e => ⟨e, hk⟩), fun k e e' => absurd e.2 (Nat.not_lt.2 e'.1), fun k e => ⟨e.1, Nat.lt_of_lt_of_le e.2 g2.size⟩, fun k e => ⟨Nat.le_trans hb.size e.1, e.2⟩, hb.trans (g2.mono hb.size)⟩
end Go.Proofs.YtninopllfbiccaaDoor
