/-
  JournalLasts: what the law holds in a round: the disk, the journal, the lists that are sure, that may be, that come next, the operation.
-/
import Derived.Test.YtljgfnglknpfaaaGreatDoorJLaw
namespace Go.Proofs.YtljgfnglknpfaaaGreatDoor
set_option maxRecDepth 100000
open Go Go.RowKit Go.Sort Dk

/-- The law's own blocks. -/
def FL (sv mv nv : Value) (ob : Nat) : Nat → Prop := fun i => sv.ownBlock = some i ∨ mv.ownBlock = some i ∨ nv.ownBlock = some i ∨ i = ob
def F2 (sv mv : Value) : Nat → Prop := fun i => sv.ownBlock = some i ∨ mv.ownBlock = some i
abbrev Own6 (w0 w : World) (v : Value) (S : List (List UInt8)) : Prop := w.ownsRow w0.heap.size 9 1 v S.length (strsV S)
structure LM (w0 w : World) (sv mv nv : Value) (S M N : List (List UInt8)) (ob : Nat) (oc : Array Value) : Prop where
  s : Own6 w0 w sv S
  m : Own6 w0 w mv M
  n : Own6 w0 w nv N
  o : w.heap[ob]? = some (.cells oc 34 (0, 0))
theorem LM.held {w0 w w' : World} {sv mv nv : Value} {S M N : List (List UInt8)} {ob : Nat} {oc : Array Value} (h : LM w0 w sv mv nv S M N ob oc) (hk : Held (FL sv mv nv ob) w w') : LM w0 w' sv mv nv S M N ob oc :=
  ⟨own_kept h.s hk (fun _ e e' => e' (Or.inl e)), own_kept h.m hk (fun _ e e' => e' (Or.inr (Or.inl e))), own_kept h.n hk (fun _ e e' => e' (Or.inr (Or.inr (Or.inl e)))), Kept.heap hk h.o (fun e => e (Or.inr (Or.inr (Or.inr rfl))))⟩
theorem LM.below {w0 w w' : World} {sv mv nv : Value} {S M N : List (List UInt8)} {ob : Nat} {oc : Array Value} (h : LM w0 w sv mv nv S M N ob oc) (hb : RowKit.Below w.heap.size w w') : LM w0 w' sv mv nv S M N ob oc := h.held (Kept.below hb)
theorem LM.cell {w0 w : World} {sv mv nv : Value} {S M N : List (List UInt8)} {ob : Nat} {oc : Array Value} (h : LM w0 w sv mv nv S M N ob oc) (o : Nat) : w.cell? ⟨ob, o, none⟩ = oc[o]? := Lib.cell_of_heap h.o o

/-- A journal that is open, and the law's memory. -/
def LX (w0 w : World) (d b : Nat) (X : D) (j : Jn.J) (sv mv nv : Value) (S M N : List (List UInt8)) (ob : Nat) (oc : Array Value) : Prop := JF w0 w d b 3 X j (FL sv mv nv ob) ∧ LM w0 w sv mv nv S M N ob oc
/-- A disk, and the law's memory. -/
def LY (w0 w : World) (d : Nat) (X : D) (sv mv nv : Value) (S M N : List (List UInt8)) (ob : Nat) (oc : Array Value) : Prop := DF w0 w d X (FL sv mv nv ob) ∧ LM w0 w sv mv nv S M N ob oc
theorem LX.toLY {w0 w : World} {d b : Nat} {X : D} {j : Jn.J} {sv mv nv : Value} {S M N : List (List UInt8)} {ob : Nat} {oc : Array Value} (h : LX w0 w d b X j sv mv nv S M N ob oc) : LY w0 w d X sv mv nv S M N ob oc := ⟨h.1.toDF, h.2⟩
theorem LX.base {w0 w : World} {d b : Nat} {X : D} {j : Jn.J} {sv mv nv : Value} {S M N : List (List UInt8)} {ob : Nat} {oc : Array Value} (h : LX w0 w d b X j sv mv nv S M N ob oc) : RowKit.Below w0.heap.size w0 w := h.1.base
theorem LX.below {w0 w w' : World} {d b : Nat} {X : D} {j : Jn.J} {sv mv nv : Value} {S M N : List (List UInt8)} {ob : Nat} {oc : Array Value} (h : LX w0 w d b X j sv mv nv S M N ob oc) (hb : RowKit.Below w.heap.size w w') : LX w0 w' d b X j sv mv nv S M N ob oc := ⟨h.1.below hb (fun _ e => Or.inl e), h.2.below hb⟩
/-- A list that was made becomes the next one. -/
theorem LX.next {w0 w w' : World} {d b : Nat} {X : D} {j : Jn.J} {sv mv nv nv' : Value} {S M N N' : List (List UInt8)} {ob : Nat} {oc : Array Value} (h : LX w0 w d b X j sv mv nv S M N ob oc) (hb : RowKit.Below w.heap.size w w') (hn : w'.ownsRow w.heap.size 9 1 nv' N'.length (strsV N')) : LX w0 w' d b X j sv mv nv' S M N' ob oc := by
  have h2 := h.2.below hb
  refine ⟨h.1.below hb (fun i e => ?_), h2.s, h2.m, own_low hn h.base.size, h2.o⟩
  rcases e with e | e | e | e
  · exact Or.inl (Or.inl e)
  · exact Or.inl (Or.inr (Or.inl e))
  · exact Or.inr (hn.lt i e)
  · exact Or.inl (Or.inr (Or.inr (Or.inr e)))
/-- A list that was made becomes the sure one. -/
theorem LX.sure {w0 w w' : World} {d b : Nat} {X : D} {j : Jn.J} {sv mv nv sv' : Value} {S M N S' : List (List UInt8)} {ob : Nat} {oc : Array Value} (h : LX w0 w d b X j sv mv nv S M N ob oc) (hb : RowKit.Below w.heap.size w w') (hn : w'.ownsRow w.heap.size 9 1 sv' S'.length (strsV S')) : LX w0 w' d b X j sv' mv nv S' M N ob oc := by
  have h2 := h.2.below hb
  refine ⟨h.1.below hb (fun i e => ?_), own_low hn h.base.size, h2.m, h2.n, h2.o⟩
  rcases e with e | e
  · exact Or.inr (hn.lt i e)
  · exact Or.inl (Or.inr e)
theorem lx_append {w0 w : World} {d b : Nat} {X : D} {j : Jn.J} {sv mv nv : Value} {S M N : List (List UInt8)} {ob : Nat} {oc : Array Value} (ht : Tab w0) (hg : Good w0) (h : LX w0 w d b X j sv mv nv S M N ob oc) (hj : (Jn.form j.l).length ≤ 1048576) (v : Value) (s : List (List UInt8)) (ha : SrcV w0 1 v s.length (strsV s)) (hx : ∀ x ∈ s, x.length ≤ 1000000000) (hs : s.length ≤ 9223372036854775807) :
    Calls Tryz.prog 12 #[.pointer (some ⟨b, 0, none⟩), v] w fun e w' => e = .returned (.int .i64 (Jn.appendJ X ((3 : Nat) : Int) j s).2.2) ∧ Hid (LX w0 w' d b (Jn.appendJ X ((3 : Nat) : Int) j s).1 (Jn.appendJ X ((3 : Nat) : Int) j s).2.1 sv mv nv S M N ob oc) :=
  (jappend_c ht hg h.1 (by omega) (fun _ => hj) v s ⟨ha.on h.base, (ArgIn.came ha _).low⟩ hx hs).mono fun _ _ ⟨he, g⟩ => ⟨he, g.out.1, h.2.held g.out.2⟩
theorem lx_cut {w0 w : World} {d b : Nat} {X : D} {j : Jn.J} {sv mv nv : Value} {S M N : List (List UInt8)} {ob : Nat} {oc : Array Value} (ht : Tab w0) (hg : Good w0) (h : LX w0 w d b X j sv mv nv S M N ob oc) (hj : (Jn.form j.l).length ≤ 1048576) (n : Int) :
    Calls Tryz.prog 13 #[.pointer (some ⟨b, 0, none⟩), .int .i64 n] w fun e w' => e = .returned (.int .i64 (Jn.cutJ X ((3 : Nat) : Int) j n).2.2) ∧ Hid (LX w0 w' d b (Jn.cutJ X ((3 : Nat) : Int) j n).1 (Jn.cutJ X ((3 : Nat) : Int) j n).2.1 sv mv nv S M N ob oc) :=
  (jcut_c ht hg h.1 (by omega) (fun _ => hj) n).mono fun _ _ ⟨he, g⟩ => ⟨he, g.out.1, h.2.held g.out.2⟩
theorem lx_all {w0 w : World} {d b : Nat} {X : D} {j : Jn.J} {sv mv nv : Value} {S M N : List (List UInt8)} {ob : Nat} {oc : Array Value} (h : LX w0 w d b X j sv mv nv S M N ob oc) (hj : (Jn.form j.l).length ≤ 1048576) {L : List (List UInt8)} (hL : j.l = L) :
    Calls Tryz.prog 16 #[.pointer (some ⟨b, 0, none⟩)] w fun e w' => ∃ a c, e = .returned (.slice a L.length c) ∧ Hid (w'.ownsRow w.heap.size 9 1 (.slice a L.length c) L.length (strsV L) ∧ RowKit.Below w.heap.size w w') := by
  have hl := (Jn.form_len j.l).1
  refine (jall_c h.1 (by omega)).mono ?_
  rintro e w' ⟨v, rfl, hown, hb⟩
  rw [hL] at hown
  obtain ⟨a, c, rfl, _⟩ := own_shape (own_base hown)
  exact ⟨a, c, rfl, hown, hb⟩
/-- 'SameTexts(j.All(), v)', of a list that the law keeps. -/
theorem lx_same {w0 w w1 : World} {d b : Nat} {X : D} {j : Jn.J} {sv mv nv v : Value} {S M N L K : List (List UInt8)} {ob : Nat} {oc : Array Value} {a : Option Addr} {c : Nat} (h : LX w0 w d b X j sv mv nv S M N ob oc) (hv : Own6 w0 w v K) (hK : K.length ≤ 9223372036854775807) (h1 : Hid (w1.ownsRow w.heap.size 9 1 (.slice a L.length c) L.length (strsV L) ∧ RowKit.Below w.heap.size w w1)) :
    Calls Tryz.prog 15 #[.slice a L.length c, v] w1 fun e w' => e = .returned (.bool (decide (L = K))) ∧ Hid (LX w0 w' d b X j sv mv nv S M N ob oc) := by
  refine (sameT_c L K _ _ w1 (SrcV.own (own_base h1.out.1)) ((SrcV.own (own_base hv)).on h1.out.2) hK).mono ?_
  rintro e w' ⟨rfl, hb⟩
  exact ⟨rfl, h.below (h1.out.2.trans (hb.mono h1.out.2.size))⟩
theorem lx_len {w0 w : World} {d b : Nat} {X : D} {j : Jn.J} {sv mv nv : Value} {S M N : List (List UInt8)} {ob : Nat} {oc : Array Value} (h : LX w0 w d b X j sv mv nv S M N ob oc) {L : List (List UInt8)} (hL : j.l = L) :
    Calls Tryz.prog 17 #[.pointer (some ⟨b, 0, none⟩)] w fun e w' => e = .returned (.int .i64 (L.length : Int)) ∧ w' = w := by
  rw [← hL]
  exact jlen_c h.1
theorem ly_op {w0 w : World} {d : Nat} {X X' : D} {sv mv nv : Value} {S M N : List (List UInt8)} {ob : Nat} {oc : Array Value} (h : LY w0 w d X sv mv nv S M N ob oc) {g : FuncId} {args : Array Value} {r : Ending}
    (hop : ∀ T, DiskIn w d T X → (∀ k, T k → w0.heap.size ≤ k) → Calls Tryz.prog g args w fun e w' => e = r ∧ DiskIn w' d (After T w) X' ∧ Kept T w w') : Calls Tryz.prog g args w fun e w' => e = r ∧ Hid (LY w0 w' d X' sv mv nv S M N ob oc) :=
  (h.1.op hop).mono fun _ _ ⟨he, g⟩ => ⟨he, g.out.1, h.2.held g.out.2⟩
theorem lx_op {w0 w : World} {d b : Nat} {X X' : D} {j : Jn.J} {sv mv nv : Value} {S M N : List (List UInt8)} {ob : Nat} {oc : Array Value} (h : LX w0 w d b X j sv mv nv S M N ob oc) {g : FuncId} {args : Array Value} {r : Ending}
    (hop : ∀ T, DiskIn w d T X → (∀ k, T k → w0.heap.size ≤ k) → Calls Tryz.prog g args w fun e w' => e = r ∧ DiskIn w' d (After T w) X' ∧ Kept T w w') : Calls Tryz.prog g args w fun e w' => e = r ∧ Hid (LX w0 w' d b X' j sv mv nv S M N ob oc) :=
  (h.1.op hop).mono fun _ _ ⟨he, g⟩ => ⟨he, g.out.1, h.2.held g.out.2⟩
theorem ly_open {w0 w : World} {d : Nat} {X E : D} {j : Jn.J} {sv mv nv : Value} {S M N : List (List UInt8)} {ob : Nat} {oc : Array Value} (ht : Tab w0) (hg : Good w0) (h : LY w0 w d X sv mv nv S M N ob oc) (ho : Jn.openJ X ((3 : Nat) : Int) = (E, some j, 0)) :
    Calls Tryz.prog 9 #[.pointer (some ⟨d, 0, none⟩), .int .i64 3] w fun e w' => ∃ b, e = .returned (.tuple #[.pointer (some ⟨b, 0, none⟩), .int .i64 0]) ∧ Hid (LX w0 w' d b E j sv mv nv S M N ob oc) := by
  have q := jopen_c ht hg h.1 3 (by omega)
  rw [show Jn.openJ X 3 = (E, some j, 0) from ho] at q
  refine q.mono ?_
  rintro r w' ⟨hk, ⟨j', b, e1, rfl, g⟩ | ⟨z, hz, e1, _⟩⟩
  · injection e1 with e1 _
    injection e1 with e1
    subst e1
    exact ⟨b, rfl, g, h.2.held hk⟩
  · injection e1 with e1 _
    cases e1
theorem ly_fail {w0 w : World} {d : Nat} {X E : D} {z : Int} {sv mv nv : Value} {S M N : List (List UInt8)} {ob : Nat} {oc : Array Value} (ht : Tab w0) (hg : Good w0) (h : LY w0 w d X sv mv nv S M N ob oc) (ho : Jn.openJ X ((3 : Nat) : Int) = (E, none, z)) :
    Calls Tryz.prog 9 #[.pointer (some ⟨d, 0, none⟩), .int .i64 3] w fun e w' => e = .returned (.tuple #[.pointer none, .int .i64 z]) ∧ Hid (LY w0 w' d E sv mv nv S M N ob oc) := by
  have q := jopen_c ht hg h.1 3 (by omega)
  rw [show Jn.openJ X 3 = (E, none, z) from ho] at q
  refine q.mono ?_
  rintro r w' ⟨hk, ⟨j', b, e1, _⟩ | ⟨z', hz, e1, rfl, g⟩⟩
  · injection e1 with e1 _
    cases e1
  · injection e1 with _ e1
    subst e1
    exact ⟨rfl, g, h.2.held hk⟩

/-- At the head of a round. -/
structure LH (w0 w : World) (d : Nat) (jv sv mv : Value) (S M : List (List UInt8)) (fl : Bool) : Prop where
  ex : ∃ X, (jv = .pointer none ∧ DF w0 w d X (F2 sv mv) ∧ Jn.Rnd X 3 S M fl none) ∨ ∃ b j, jv = .pointer (some ⟨b, 0, none⟩) ∧ JF w0 w d b 3 X j (F2 sv mv) ∧ Jn.Rnd X 3 S M fl (some j)
  s : Own6 w0 w sv S
  m : Own6 w0 w mv M
  ls : (Jn.form S).length ≤ 1048576
  lm : M.length ≤ 2000000
theorem LH.base {w0 w : World} {d : Nat} {jv sv mv : Value} {S M : List (List UInt8)} {fl : Bool} (h : LH w0 w d jv sv mv S M fl) : RowKit.Below w0.heap.size w0 w := by
  obtain ⟨X, ⟨_, h1, _⟩ | ⟨b, j, _, h1, _⟩⟩ := h.ex
  · exact h1.base
  · exact h1.base
theorem Own6.nil (w0 w : World) : Own6 w0 w (.slice none 0 0) [] := ⟨rfl, Or.inl ⟨rfl, rfl⟩⟩
/-- The operation is made. -/
theorem LM.made {w0 w : World} {sv mv : Value} {S M : List (List UInt8)} (hs : Own6 w0 w sv S) (hm : Own6 w0 w mv M) (oc : Array Value) : LM w0 (w.alloc (.cells oc 34)) sv mv (.slice none 0 0) S M [] w.heap.size oc := by
  have hb : RowKit.Below w.heap.size w (w.alloc (.cells oc 34)) := (Below.refl _ w).alloc (Nat.le_refl _) _
  exact ⟨own_kept (S := fun _ => False) hs (Kept.below hb) (fun _ _ e => e), own_kept (S := fun _ => False) hm (Kept.below hb) (fun _ _ e => e), Own6.nil _ _, heap_alloc_new w _⟩
theorem FL.made {sv mv : Value} {w : World} {oc : Array Value} : ∀ i, FL sv mv (.slice none 0 0) w.heap.size i → F2 sv mv i ∨ (w.heap.size ≤ i ∧ i < (w.alloc (.cells oc 34)).heap.size) := fun i e => by
  rcases e with e | e | e | e
  · exact Or.inl (Or.inl e)
  · exact Or.inl (Or.inr e)
  · cases e
  · subst e; exact Or.inr ⟨Nat.le_refl _, by simp⟩
theorem lx_made {w0 w : World} {d b : Nat} {X : D} {j : Jn.J} {sv mv : Value} {S M : List (List UInt8)} (h : JF w0 w d b 3 X j (F2 sv mv)) (hs : Own6 w0 w sv S) (hm : Own6 w0 w mv M) (oc : Array Value) : LX w0 (w.alloc (.cells oc 34)) d b X j sv mv (.slice none 0 0) S M [] w.heap.size oc :=
  ⟨h.below ((Below.refl _ w).alloc (Nat.le_refl _) _) FL.made, LM.made hs hm oc⟩
theorem ly_made {w0 w : World} {d : Nat} {X : D} {sv mv : Value} {S M : List (List UInt8)} (h : DF w0 w d X (F2 sv mv)) (hs : Own6 w0 w sv S) (hm : Own6 w0 w mv M) (oc : Array Value) : LY w0 (w.alloc (.cells oc 34)) d X sv mv (.slice none 0 0) S M [] w.heap.size oc :=
  ⟨h.below ((Below.refl _ w).alloc (Nat.le_refl _) _) FL.made, LM.made hs hm oc⟩
/-- The round's end. -/
theorem LX.head {w0 w : World} {d b : Nat} {X : D} {j : Jn.J} {sv mv nv : Value} {S M N : List (List UInt8)} {ob : Nat} {oc : Array Value} {fl : Bool} (h : LX w0 w d b X j sv mv nv S M N ob oc) (hr : Jn.Rnd X 3 S M fl (some j)) (h1 : (Jn.form S).length ≤ 1048576) (h2 : M.length ≤ 2000000) : LH w0 w d (.pointer (some ⟨b, 0, none⟩)) sv mv S M fl :=
  ⟨⟨X, Or.inr ⟨b, j, rfl, h.1.fewer (fun _ e => e.elim Or.inl (fun e => Or.inr (Or.inl e))), hr⟩⟩, h.2.s, h.2.m, h1, h2⟩
theorem LX.headN {w0 w : World} {d b : Nat} {X : D} {j : Jn.J} {sv mv nv : Value} {S M N : List (List UInt8)} {ob : Nat} {oc : Array Value} {fl : Bool} (h : LX w0 w d b X j sv mv nv S M N ob oc) (hr : Jn.Rnd X 3 N M fl (some j)) (h1 : (Jn.form N).length ≤ 1048576) (h2 : M.length ≤ 2000000) : LH w0 w d (.pointer (some ⟨b, 0, none⟩)) nv mv N M fl :=
  ⟨⟨X, Or.inr ⟨b, j, rfl, h.1.fewer (fun _ e => e.elim (fun e => Or.inr (Or.inr (Or.inl e))) (fun e => Or.inr (Or.inl e))), hr⟩⟩, h.2.n, h.2.m, h1, h2⟩
theorem LX.headM {w0 w : World} {d b : Nat} {X : D} {j : Jn.J} {sv mv nv : Value} {S M N : List (List UInt8)} {ob : Nat} {oc : Array Value} {fl : Bool} (h : LX w0 w d b X j sv mv nv S M N ob oc) (hr : Jn.Rnd X 3 S N fl (some j)) (h1 : (Jn.form S).length ≤ 1048576) (h2 : N.length ≤ 2000000) : LH w0 w d (.pointer (some ⟨b, 0, none⟩)) sv nv S N fl :=
  ⟨⟨X, Or.inr ⟨b, j, rfl, h.1.fewer (fun _ e => e.elim Or.inl (fun e => Or.inr (Or.inr (Or.inl e)))), hr⟩⟩, h.2.s, h.2.n, h1, h2⟩
theorem LY.head {w0 w : World} {d : Nat} {X : D} {sv mv nv : Value} {S M N : List (List UInt8)} {ob : Nat} {oc : Array Value} {fl : Bool} (h : LY w0 w d X sv mv nv S M N ob oc) (hr : Jn.Rnd X 3 S M fl none) (h1 : (Jn.form S).length ≤ 1048576) (h2 : M.length ≤ 2000000) : LH w0 w d (.pointer none) sv mv S M fl :=
  ⟨⟨X, Or.inl ⟨rfl, h.1.fewer (fun _ e => e.elim Or.inl (fun e => Or.inr (Or.inl e))), hr⟩⟩, h.2.s, h.2.m, h1, h2⟩
/-- The list of an open journal is not too long. -/
theorem rnd_list {X : D} {S M : List (List UInt8)} {fl : Bool} {j : Jn.J} (h : Jn.Rnd X 3 S M fl (some j)) : j.l = S := by
  cases h with
  | some _ _ h _ => exact h

/-- 'append([]string{}, s...)' -/
theorem fresh6 (w : World) {A : Option Addr} {c N : Nat} {s : List (List UInt8)} (hN : N = s.length) (hs : SrcV (w.alloc (.cells #[] 9)) 1 (.slice A N c) s.length (strsV s)) (hl : N ≤ 1048576) :
    ∃ na nc w2, (Builtin.append_ #[32, 32] 32 #[.slice (some ⟨w.heap.size, 0, none⟩) 0 0, .slice A N c]).run Tryz.prog (w.alloc (.cells #[] 9)) = .ok (.slice na N nc) w2 ∧ w2.ownsRow w.heap.size 9 1 (.slice na N nc) N (strsV s) ∧ RowKit.Below w.heap.size w w2 := by
  subst hN
  obtain ⟨i0, hi, hz0, hz1, hz2⟩ := info_parts infoStr5
  have hown : (w.alloc (.cells #[] 9)).ownsRow w.heap.size 9 1 (.slice (some ⟨w.heap.size, 0, none⟩) 0 0) 0 [] := World.ownsRow_made w #[] 0 (Nat.le_refl _) (Nat.zero_le _) rfl
  obtain ⟨a', c', h1, h2, h3, h4⟩ := hs
  injection h1 with e1 e2 e3
  subst e1 e3
  obtain ⟨v', w2, r1, r2, r3, r4⟩ := run_append_any_own (P := Tryz.prog) (w.alloc (.cells #[] 9)) w.heap.size 32 32 9 i0 (.string ⟨#[]⟩) 1 16 Tryz.underlying32 hi hz0 hz1 hz2 rfl (by decide) _ 0 [] hown
    A s.length c (strsV s) h2 (fun h0 => by
      cases A with
      | none => have := h3 rfl; omega
      | some ad => exact ⟨ad, rfl, h4 ad rfl⟩) (strsV_one s) (by unfold maxLen; omega) (by omega) (by simp)
  rw [Nat.zero_add, List.nil_append] at r2
  obtain ⟨na, nc, rfl, _⟩ := own_shape (own_base r2)
  exact ⟨na, nc, w2, r1, r2, ((Below.refl _ w).alloc (Nat.le_refl _) _).grown r3 (by simp) (fun k hk => by have := (hown.lt k hk).1; omega)⟩
/-- 'append(t, s...)', t just made. -/
theorem grow6 (w w1 : World) {na : Option Addr} {nc N : Nat} {B : List (List UInt8)} (hN : N = B.length) (hown : w1.ownsRow w.heap.size 9 1 (.slice na N nc) N (strsV B)) (hb : RowKit.Below w.heap.size w w1) {va : Option Addr} {vc : Nat} {s : List (List UInt8)} (hv : SrcV w1 1 (.slice va s.length vc) s.length (strsV s)) (hlen : N + s.length ≤ 2000000) :
    ∃ na' nc' M w2, M = N + s.length ∧ (Builtin.append_ #[32, 32] 32 #[.slice na N nc, .slice va s.length vc]).run Tryz.prog w1 = .ok (.slice na' M nc') w2 ∧ w2.ownsRow w.heap.size 9 1 (.slice na' M nc') (B ++ s).length (strsV (B ++ s)) ∧ RowKit.Below w.heap.size w w2 := by
  subst hN
  obtain ⟨i0, hi, hz0, hz1, hz2⟩ := info_parts infoStr5
  obtain ⟨a', c', h1, h2, h3, h4⟩ := hv
  injection h1 with e1 e2 e3
  subst e1 e3
  obtain ⟨v', w2, r1, r2, r3, r4⟩ := run_append_any_own (P := Tryz.prog) w1 w.heap.size 32 32 9 i0 (.string ⟨#[]⟩) 1 16 Tryz.underlying32 hi hz0 hz1 hz2 rfl (by decide) (.slice na B.length nc) B.length (strsV B) hown
    va s.length vc (strsV s) h2 (fun h0 => by
      cases va with
      | none => have := h3 rfl; omega
      | some ad => exact ⟨ad, rfl, h4 ad rfl⟩) (strsV_one s) (by unfold maxLen; omega) (by omega) hb.size
  have e : strsV (B ++ s) = strsV B ++ strsV s := by simp [strsV]
  obtain ⟨na', nc', rfl, _⟩ := own_shape (own_base r2)
  refine ⟨na', nc', B.length + s.length, w2, rfl, r1, ?_, hb.grown r3 hb.size (fun k hk => (hown.lt k hk).1)⟩
  rw [e, List.length_append]
  exact r2
theorem lx_sameT {w0 w w1 : World} {d b : Nat} {X : D} {j : Jn.J} {sv mv nv v : Value} {S M N L : List (List UInt8)} {ob : Nat} {oc : Array Value} {a : Option Addr} {c : Nat} (h : LX w0 w d b X j sv mv nv S M N ob oc) (hv : Own6 w0 w v L) (hK : L.length ≤ 9223372036854775807) (h1 : Hid (w1.ownsRow w.heap.size 9 1 (.slice a L.length c) L.length (strsV L) ∧ RowKit.Below w.heap.size w w1)) :
    Calls Tryz.prog 15 #[.slice a L.length c, v] w1 fun e w' => e = .returned (.bool true) ∧ Hid (LX w0 w' d b X j sv mv nv S M N ob oc) := by
  refine (lx_same h hv hK h1).mono ?_
  rintro e w' ⟨rfl, g⟩
  rw [decide_eq_true (rfl : L = L)]
  exact ⟨rfl, g⟩
theorem lx_sameF {w0 w w1 : World} {d b : Nat} {X : D} {j : Jn.J} {sv mv nv v : Value} {S M N L K : List (List UInt8)} {ob : Nat} {oc : Array Value} {a : Option Addr} {c : Nat} (h : LX w0 w d b X j sv mv nv S M N ob oc) (hv : Own6 w0 w v K) (hK : K.length ≤ 9223372036854775807) (hne : L ≠ K) (h1 : Hid (w1.ownsRow w.heap.size 9 1 (.slice a L.length c) L.length (strsV L) ∧ RowKit.Below w.heap.size w w1)) :
    Calls Tryz.prog 15 #[.slice a L.length c, v] w1 fun e w' => e = .returned (.bool false) ∧ Hid (LX w0 w' d b X j sv mv nv S M N ob oc) := by
  refine (lx_same h hv hK h1).mono ?_
  rintro e w' ⟨rfl, g⟩
  rw [decide_eq_false hne]
  exact ⟨rfl, g⟩
theorem diskyT (z : Int) (hz : z = 9 ∨ z = 10) (w : World) : Calls Tryz.prog 14 #[.int .i64 z] w fun e w' => e = .returned (.bool true) ∧ w' = w := by
  refine (disky_c z w).mono ?_
  rintro e w' ⟨rfl, h⟩
  rw [decide_eq_true hz]
  exact ⟨rfl, h⟩
theorem diskyF (z : Int) (hz : ¬ (z = 9 ∨ z = 10)) (w : World) : Calls Tryz.prog 14 #[.int .i64 z] w fun e w' => e = .returned (.bool false) ∧ w' = w := by
  refine (disky_c z w).mono ?_
  rintro e w' ⟨rfl, h⟩
  rw [decide_eq_false hz]
  exact ⟨rfl, h⟩
/-- How an Append ends. -/
theorem append_ends {X : D} {S M : List (List UInt8)} {fl : Bool} {j : Jn.J} (h : Jn.Rnd X 3 S M fl (some j)) (s : List (List UInt8)) :
    ∃ X' j' z, Jn.appendJ X ((3 : Nat) : Int) j s = (X', j', z) ∧ ((z = 0 ∧ fl = false ∧ (Jn.form (S ++ s)).length ≤ 1048576 ∧ j'.l = S ++ s ∧ ∀ mb, Jn.Rnd X' 3 (S ++ s) mb false (some j')) ∨ ((z = 9 ∨ z = 10) ∧ j'.l = S ∧ Jn.Rnd X' 3 S (S ++ s) true (some j')) ∨ ((z = 6 ∨ z = 7) ∧ X' = X ∧ j' = j)) := by
  have hr := Jn.rnd_append h (by omega) s
  have hlen : (Jn.appendJ X ((3 : Nat) : Int) j s).2.2 = 0 → (Jn.form (S ++ s)).length ≤ 1048576 := fun hz => by
    cases h with
    | some _ g1 g2 g3 =>
      obtain ⟨k1, k2, k3⟩ := (Jn.append_done (s := s) g1 (by omega)).good hz
      have := (k1.held (by omega) k3).2.2
      rw [k2, g2] at this
      exact this
  obtain ⟨r, hR⟩ : ∃ r, Jn.appendJ X ((3 : Nat) : Int) j s = r := ⟨_, rfl⟩
  rw [hR] at hr hlen
  obtain ⟨X', j', z⟩ := r
  refine ⟨X', j', z, hR, ?_⟩
  rcases hr with ⟨e1, e2, e3⟩ | ⟨e1, e2⟩ | ⟨e1, e2, e3⟩
  · exact Or.inl ⟨e1, e2, hlen e1, rnd_list (e3 []), e3⟩
  · exact Or.inr (Or.inl ⟨e1, rnd_list e2, e2⟩)
  · exact Or.inr (Or.inr ⟨e1, e2, e3⟩)
/-- How a Cut ends. -/
theorem cut_ends {X : D} {S M : List (List UInt8)} {fl : Bool} {j : Jn.J} (h : Jn.Rnd X 3 S M fl (some j)) (hS : (Jn.form S).length ≤ 1048576) (n : Int) (K : Nat) (hK : max 0 (min n (S.length : Int)) = (K : Int)) :
    ∃ X' j' z, Jn.cutJ X ((3 : Nat) : Int) j n = (X', j', z) ∧ ((z = 0 ∧ fl = false ∧ (Jn.form (S.take K)).length ≤ 1048576 ∧ j'.l = S.take K ∧ ∀ mb, Jn.Rnd X' 3 (S.take K) mb false (some j')) ∨ ((z = 9 ∨ z = 10) ∧ j'.l = S ∧ Jn.Rnd X' 3 S (S.take K) true (some j')) ∨ ((z = 1 ∨ z = 7) ∧ X' = X ∧ j' = j)) := by
  have hr := Jn.rnd_cut h (by omega) n
  obtain ⟨r, hR⟩ : ∃ r, Jn.cutJ X ((3 : Nat) : Int) j n = r := ⟨_, rfl⟩
  rw [hR] at hr
  obtain ⟨X', j', z⟩ := r
  refine ⟨X', j', z, hR, ?_⟩
  have hk : 0 ≤ n ∧ n ≤ (S.length : Int) → n.toNat = K := fun hn => by omega
  rcases hr with ⟨e0, e1, e2, e3⟩ | ⟨e0, e1, e2⟩ | ⟨e1, e2, e3⟩
  · rw [hk e0] at e3
    refine Or.inl ⟨e1, e2, ?_, rnd_list (e3 []), e3⟩
    have := Jn.form_take S K
    rw [this, List.length_append] at hS
    omega
  · rw [hk e0] at e2
    exact Or.inr (Or.inl ⟨e1, rnd_list e2, e2⟩)
  · exact Or.inr (Or.inr ⟨e1, e2, e3⟩)
/-- How an Open ends. -/
theorem open_ends {X : D} {c : Ck.C} {S M : List (List UInt8)} {fl : Bool} (h : Jn.Two X 3 c (Jn.May S M fl)) :
    (∃ E j, Jn.openJ X ((3 : Nat) : Int) = (E, some j, 0) ∧ (Jn.form j.l).length ≤ 1048576 ∧ (j.l = S ∨ (fl = true ∧ j.l = M)) ∧ ∀ mb, Jn.Rnd E 3 j.l mb false (some j)) ∨ ∃ E z, Jn.openJ X ((3 : Nat) : Int) = (E, none, z) ∧ (z = 9 ∨ z = 10) ∧ Jn.Rnd E 3 S M fl none := by
  have ho := Jn.open_done h (by omega)
  rcases Jn.rnd_open h (by omega) with ⟨E, j, e1, e2, e3⟩ | ⟨E, z, e1, e2, e3⟩
  · refine Or.inl ⟨E, j, e1, ?_, e2, e3⟩
    rw [e1] at ho
    cases ho with
    | good _ _ g1 g2 g3 g4 => exact (g4.held (by omega) g3).2.2
  · exact Or.inr ⟨E, z, e1, e2, e3⟩
/-- At last, with nothing lost. -/
theorem open_last {X : D} {c : Ck.C} {S M : List (List UInt8)} {fl : Bool} (h : Jn.Two X 3 c (Jn.May S M fl)) (hp : Jn.Plain X) :
    ∃ E j, Jn.openJ X ((3 : Nat) : Int) = (E, some j, 0) ∧ (Jn.form j.l).length ≤ 1048576 ∧ (j.l = S ∨ (fl = true ∧ j.l = M)) ∧ ∀ mb, Jn.Rnd E 3 j.l mb false (some j) := by
  rcases open_ends h with h' | ⟨E, z, e1, _, _⟩
  · exact h'
  · obtain ⟨E', j', e2, _⟩ := Jn.open_plain h (by omega) hp
    rw [e1] at e2
    injection e2 with _ e2
    injection e2 with e2
    cases e2
theorem SrcV.take6 {w : World} {a : Option Addr} {n c : Nat} {s : List (List UInt8)} (h : SrcV w 1 (.slice a n c) s.length (strsV s)) (k : Nat) (hk : k ≤ s.length) : SrcV w 1 (.slice a k c) (s.take k).length (strsV (s.take k)) := by
  obtain ⟨a', c', h1, h2, h3, h4⟩ := h
  injection h1 with e1 e2 e3
  subst e1 e3
  have hl : (s.take k).length = k := by rw [List.length_take]; omega
  rw [hl]
  refine ⟨_, _, rfl, by simp [strsV]; omega, fun e => by have := h3 e; omega, fun ad e j u hu => h4 ad e j u ?_⟩
  have hj := (List.getElem?_eq_some_iff.1 hu).1
  simp only [strsV, List.length_map, hl] at hj
  simp only [strsV, List.getElem?_map, List.getElem?_take_of_lt hj] at hu ⊢
  exact hu
end Go.Proofs.YtljgfnglknpfaaaGreatDoor
