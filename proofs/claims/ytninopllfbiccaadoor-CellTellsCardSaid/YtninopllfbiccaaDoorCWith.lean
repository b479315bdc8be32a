/-
  The reference's Set beside the program's disk and cell.
  CellTells: the law's operation beside the disks and the cells; calls of the one and the other.
-/
import Derived.Test.YtninopllfbiccaaDoorCBoth
import Derived.Test.YtninopllfbiccaaDoorCRSet
import Derived.Test.YtninopllfbiccaaDoorCFew
namespace Go.Proofs.YtninopllfbiccaaDoor
set_option maxRecDepth 100000
open Go Go.RowKit Go.Maps Dk

theorem rc_set {r b : Nat} {f : Int} {Y : D} {c : Ck.C} {w : World} {U : Nat → Prop} (h : RCa r b f Y c w U) (hf : In64 f) (s : List UInt8) :
    Calls Tryd.prog 15 #[.pointer (some ⟨b, 0, none⟩), .string ⟨s.toArray⟩] w fun e w' => ∃ _ : Unit, e = .returned (.int .i64 (Ck.setM Y f c s).2.2) ∧ Did w w' U (RCa r b f (Ck.setM Y f c s).1 (Ck.setM Y f c s).2.1) := by
  obtain ⟨S, h1, h2, h3, h4, h5⟩ := h
  have hbl := h2.lt
  refine (rset5_c b r f c S Y s w ⟨h1, h2, h3, hf⟩).mono ?_
  rintro e w' ⟨he, g1, g2, g3⟩
  refine ⟨(), he, fun k => After U w k ∧ k < w'.heap.size, ⟨fun k => After S w k ∧ k < w'.heap.size, g1.mono (fun k hk e => ⟨e, hk⟩), g2, fun e => e.1.elim h3 (fun e => absurd hbl (Nat.not_lt.2 e)), fun k e => ⟨e.1.imp (h4 k) id, e.2⟩, Or.inl h5, g2.lt⟩, fun k e => e, g3.mono (fun k _ e => e.elim (h4 k) (fun e => e ▸ h5))⟩
end Go.Proofs.YtninopllfbiccaaDoor

namespace Go.Proofs.YtninopllfbiccaaDoor
set_option maxRecDepth 100000
open Go Go.RowKit Go.Maps Dk

/-- An assertion, and the operation's block beside it. -/
def With (A : Assn) (ob : Nat) (oc : Array Value) : Assn := fun w U => ∃ U1, A w U1 ∧ (∀ k, U1 k → U k) ∧ ¬ U1 ob ∧ U ob ∧ w.heap[ob]? = some (.cells oc 38 (0, 0))
theorem With.solid {A : Assn} (hA : Solid A) (ob : Nat) (oc : Array Value) : Solid (With A ob oc) := ⟨fun h hk hn => by
  obtain ⟨U1, h1, h2, h3, h4, h5⟩ := h
  exact ⟨U1, hA.kept h1 hk (fun k e => hn k (h2 k e)), h2, h3, h4, hk.heap h5 (hn ob h4)⟩⟩
theorem with_op {A : Assn} {ob : Nat} {oc : Array Value} {w : World} {U : Nat → Prop} (h : With A ob oc w U) {β : Type} {g : FuncId} {args : Array Value} {R : β → Ending → Prop} {A' : β → Assn}
    (hop : ∀ U1, A w U1 → (∀ k, U1 k → U k) → Calls Tryd.prog g args w fun e w' => ∃ x, R x e ∧ Did w w' U1 (A' x)) : Calls Tryd.prog g args w fun e w' => ∃ x, R x e ∧ Did w w' U (With (A' x) ob oc) := by
  obtain ⟨U1, h1, h2, h3, h4, h5⟩ := h
  have hl : ob < w.heap.size := (Array.getElem?_eq_some_iff.1 h5).1
  refine (hop U1 h1 h2).mono ?_
  rintro e w' ⟨x, hr, U', g1, g2, g3⟩
  refine ⟨x, hr, fun k => (U k ∨ w.heap.size ≤ k) ∧ k < w'.heap.size, ⟨U', g1, fun k e => ⟨(g2 k e).1.imp (h2 k) id, (g2 k e).2⟩, fun e => ?_, ⟨Or.inl h4, Nat.lt_of_lt_of_le hl g3.size⟩, g3.heap h5 h3⟩, fun k e => e, g3.mono (fun k _ e => h2 k e)⟩
  rcases (g2 ob e).1 with e1 | e1
  · exact h3 e1
  · exact absurd hl (Nat.not_lt.2 e1)
theorem with_cell {w0 w : World} {A B : Assn} {ob : Nat} {oc : Array Value} (h : Both w0 w (With A ob oc) B) (o : Nat) : w.cell? ⟨ob, o, none⟩ = oc[o]? := by
  obtain ⟨U, V, ⟨U1, _, _, _, _, h5⟩, _⟩ := h
  exact Lib.cell_of_heap h5 o
theorem with_drop {w0 w : World} {A B : Assn} {ob : Nat} {oc : Array Value} (h : Both w0 w (With A ob oc) B) (hA : ∀ {U1 U : Nat → Prop}, A w U1 → (∀ k, U1 k → U k) → A w U) : Both w0 w A B :=
  h.mapL (fun U h1 => by
    obtain ⟨U1, g1, g2, _⟩ := h1
    exact hA g1 g2)
theorem PCa.more {d b : Nat} {f : Int} {Y : D} {c : Ck.C} {w : World} {U1 U : Nat → Prop} (h : PCa d b f Y c w U1) (hU : ∀ k, U1 k → U k) : PCa d b f Y c w U := by
  obtain ⟨S, h1, h2, h3, h4, h5⟩ := h
  exact ⟨S, h1, h2, h3, fun k e => hU k (h4 k e), hU b h5⟩
/-- The operation is copied. -/
theorem with_made {w0 w : World} {A B : Assn} (hA : Solid A) (hB : Solid B) (h : Both w0 w A B) (oc : Array Value) : Both w0 (w.alloc (.cells oc 38)) (With A w.heap.size oc) B := by
  have hb : Below w.heap.size w (w.alloc (.cells oc 38)) := (Below.refl _ w).alloc (Nat.le_refl _) _
  have hs : (w.alloc (.cells oc 38)).heap.size = w.heap.size + 1 := by simp
  obtain ⟨U, V, h1, h2, h3, h4, h5, h6⟩ := h
  refine ⟨fun k => U k ∨ k = w.heap.size, V, ⟨U, hA.kept h1 (Kept.below (S := fun _ => False) hb) (fun _ _ e => e), fun k e => Or.inl e, fun e => Nat.lt_irrefl _ (h4 _ e).2, Or.inr rfl, heap_alloc_new w _⟩, hB.kept h2 (Kept.below (S := fun _ => False) hb) (fun _ _ e => e), fun k e e' => ?_, fun k e => ?_, fun k e => ⟨(h5 k e).1, by have := (h5 k e).2; omega⟩, h6.trans (hb.mono h6.size)⟩
  · rcases e with e | e
    · exact h3 k e e'
    · exact Nat.lt_irrefl _ (e ▸ (h5 k e').2)
  · rcases e with e | e
    · exact ⟨(h4 k e).1, by have := (h4 k e).2; omega⟩
    · subst e
      exact ⟨h6.size, by omega⟩

/-- Set, of the one and of the other. -/
theorem bset_p {w0 w : World} {d b : Nat} {f : Int} {Y : D} {c : Ck.C} {B : Assn} {ob : Nat} {oc : Array Value} (ht : Tab w0) (hB : Solid B) (h : Both w0 w (With (PCa d b f Y c) ob oc) B) (hf : In64 f) (s : List UInt8) {Z : D} {c' : Ck.C} {z : Int} (hz : Ck.setM Y f c s = (Z, c', z)) :
    Calls Tryd.prog 14 #[.pointer (some ⟨b, 0, none⟩), .string ⟨s.toArray⟩] w fun e w' => e = .returned (.int .i64 z) ∧ w'.cell? ⟨ob, 1, none⟩ = oc[1]? ∧ Hid (Both w0 w' (With (PCa d b f Z c') ob oc) B) := by
  refine (h.left hB (β := Unit) (R := fun _ e => e = .returned (.int .i64 z)) (A' := fun _ => With (PCa d b f Z c') ob oc) (fun U hU hb0 hb => with_op hU (fun U1 g1 g2 => by
    have := pc_set ht hb (fun k e => hb0 k (g2 k e)) g1 hf s
    rw [hz] at this
    exact this))).mono ?_
  rintro e w' ⟨_, he, g⟩
  exact ⟨he, with_cell g 1, g⟩
theorem bset_r {w0 w : World} {r b : Nat} {f : Int} {Y : D} {c : Ck.C} {A : Assn} {ob : Nat} {oc : Array Value} (hA : Solid A) (h : Both w0 w (With A ob oc) (RCa r b f Y c)) (hf : In64 f) (s : List UInt8) {Z : D} {c' : Ck.C} {z : Int} (hz : Ck.setM Y f c s = (Z, c', z)) :
    Calls Tryd.prog 15 #[.pointer (some ⟨b, 0, none⟩), .string ⟨s.toArray⟩] w fun e w' => e = .returned (.int .i64 z) ∧ w'.cell? ⟨ob, 1, none⟩ = oc[1]? ∧ Hid (Both w0 w' (With A ob oc) (RCa r b f Z c')) := by
  refine (h.right (With.solid hA ob oc) (β := Unit) (R := fun _ e => e = .returned (.int .i64 z)) (B' := fun _ => RCa r b f Z c') (fun U hU hb0 hb => by
    have := rc_set hU hf s
    rw [hz] at this
    exact this)).mono ?_
  rintro e w' ⟨_, he, g⟩
  exact ⟨he, with_cell g 1, g⟩
/-- A call of a disk alone. -/
theorem bop_p {w0 w : World} {d b : Nat} {f : Int} {Y Y' : D} {c : Ck.C} {B : Assn} {ob : Nat} {oc : Array Value} (hB : Solid B) (h : Both w0 w (With (PCa d b f Y c) ob oc) B) {g : FuncId} {args : Array Value} {rr : Ending}
    (hop : ∀ S, DiskIn w d S Y → (∀ k, S k → w0.heap.size ≤ k) → Below w0.heap.size w0 w → Calls Tryd.prog g args w fun e w' => e = rr ∧ DiskIn w' d (After S w) Y' ∧ Kept S w w') :
    Calls Tryd.prog g args w fun e w' => e = rr ∧ (w'.cell? ⟨ob, 2, none⟩ = oc[2]? ∧ w'.cell? ⟨ob, 3, none⟩ = oc[3]?) ∧ Hid (Both w0 w' (With (PCa d b f Y' c) ob oc) B) := by
  refine (h.left hB (β := Unit) (R := fun _ e => e = rr) (A' := fun _ => With (PCa d b f Y' c) ob oc) (fun U hU hb0 hb => with_op hU (fun U1 g1 g2 => pc_op g1 (fun S k1 k2 => hop S k1 (fun k e => hb0 k (g2 k (k2 k e))) hb)))).mono ?_
  rintro e w' ⟨_, he, g⟩
  exact ⟨he, ⟨with_cell g 2, with_cell g 3⟩, g⟩
theorem bop_r {w0 w : World} {r b : Nat} {f : Int} {Y Y' : D} {c : Ck.C} {A : Assn} (hA : Solid A) (h : Both w0 w A (RCa r b f Y c)) {g : FuncId} {args : Array Value} {rr : Ending}
    (hop : ∀ S, RD w r S Y → (∀ k, S k → w0.heap.size ≤ k) → Below w0.heap.size w0 w → Calls Tryd.prog g args w fun e w' => e = rr ∧ RD w' r (After S w) Y' ∧ Kept S w w') :
    Calls Tryd.prog g args w fun e w' => e = rr ∧ Hid (Both w0 w' A (RCa r b f Y' c)) := by
  refine (h.right hA (β := Unit) (R := fun _ e => e = rr) (B' := fun _ => RCa r b f Y' c) (fun U hU hb0 hb => rc_op hU (fun S k1 k2 => hop S k1 (fun k e => hb0 k (k2 k e)) hb))).mono ?_
  rintro e w' ⟨_, he, g⟩
  exact ⟨he, g⟩
/-- A call of the one disk or the other, no cell beside it. -/
theorem dop_p {w0 w : World} {d : Nat} {Y Y' : D} {B : Assn} (hB : Solid B) (h : Both w0 w (PDa d Y) B) {g : FuncId} {args : Array Value} {rr : Ending}
    (hop : ∀ S, DiskIn w d S Y → (∀ k, S k → w0.heap.size ≤ k) → Below w0.heap.size w0 w → Calls Tryd.prog g args w fun e w' => e = rr ∧ DiskIn w' d (After S w) Y' ∧ Kept S w w') :
    Calls Tryd.prog g args w fun e w' => e = rr ∧ Hid (Both w0 w' (PDa d Y') B) := by
  refine (h.left hB (β := Unit) (R := fun _ e => e = rr) (A' := fun _ => PDa d Y') (fun U hU hb0 hb => pd_op (hop U hU hb0 hb))).mono ?_
  rintro e w' ⟨_, he, g⟩
  exact ⟨he, g⟩
theorem dop_r {w0 w : World} {r : Nat} {Y Y' : D} {A : Assn} (hA : Solid A) (h : Both w0 w A (RDa r Y)) {g : FuncId} {args : Array Value} {rr : Ending}
    (hop : ∀ S, RD w r S Y → (∀ k, S k → w0.heap.size ≤ k) → Below w0.heap.size w0 w → Calls Tryd.prog g args w fun e w' => e = rr ∧ RD w' r (After S w) Y' ∧ Kept S w w') :
    Calls Tryd.prog g args w fun e w' => e = rr ∧ Hid (Both w0 w' A (RDa r Y')) := by
  refine (h.right hA (β := Unit) (R := fun _ e => e = rr) (B' := fun _ => RDa r Y') (fun U hU hb0 hb => rd_op (hop U hU hb0 hb))).mono ?_
  rintro e w' ⟨_, he, g⟩
  exact ⟨he, g⟩

set_option maxRecDepth 100000 in
/-- again, with the operation and the reference beside it. -/
theorem bagain {w0 w : World} {d b : Nat} {Y : D} {c : Ck.C} {B : Assn} {ob : Nat} {oc : Array Value} (ht : Tab w0) (hB : Solid B) (h : Both w0 w (With (PCa d b 3 Y c) ob oc) B) (v : Value) (l : List Int) (hk : KeepIn w0 v l) {c' : Ck.C} (ho : Ck.openM (Y.crash l).start 3 = (some c', 0)) :
    Calls Tryd.prog 20 #[.pointer (some ⟨d, 0, none⟩), v] w fun e w' => ∃ b', e = .returned (.tuple #[.pointer (some ⟨b', 0, none⟩), .int .i64 0]) ∧ w'.cell? ⟨ob, 3, none⟩ = oc[3]? ∧ Hid (Both w0 w' (With (PCa d b' 3 (Y.crash l).start c') ob oc) B) := by
  have hsrc := hk.src
  obtain ⟨a, cp, hv, _⟩ := hsrc
  have Q1 := Lib.hid (bop_p hB h (Y' := Y.crash l) (fun S k1 k2 hb => hk.crash hb S k1 k2))
  have Q2 := Lib.hid (fun w1 (h1 : Both w0 w1 (With (PCa d b 3 (Y.crash l) c) ob oc) B) => bop_p hB h1 (Y' := (Y.crash l).start) (fun S k1 _ _ => start_op S k1))
  have Q3 := Lib.hid (fun w1 (h1 : Both w0 w1 (With (PCa d b 3 (Y.crash l).start c) ob oc) B) => h1.left hB (β := Nat) (R := fun b' e => e = .returned (.tuple #[.pointer (some ⟨b', 0, none⟩), .int .i64 0])) (A' := fun b' => With (PCa d b' 3 (Y.crash l).start c') ob oc) (fun U hU _ hb => with_op hU (fun U1 g1 g2 => pd_open ht hb (PCa.pd U1 g1) in3 ho)))
  subst hv
  clear h hk ho
  go_enter Tryd.func20, Tryd.ntmps20
  go_wp2_with (first | (go_at_call 25; refine Q1.out.mono ?_; rintro e w1 ⟨rfl, _, h1⟩) | (go_at_call 26; refine (Q2.out _ h1.out).mono ?_; rintro e w2 ⟨rfl, _, h2⟩) | (go_at_call 12; refine (Q3.out _ h2.out).mono ?_; rintro e w3 ⟨b', rfl, h3⟩))
  go_ret2
  exact ⟨b', rfl, with_cell h3.out 3, h3⟩
end Go.Proofs.YtninopllfbiccaaDoor
