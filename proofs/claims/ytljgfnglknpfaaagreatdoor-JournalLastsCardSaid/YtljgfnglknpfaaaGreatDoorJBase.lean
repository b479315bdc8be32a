/-
  A journal in a heap, beside blocks that the law keeps: its disk, its cell, its list; strings that a call is given.
-/
import Derived.Test.YtljgfnglknpfaaaGreatDoorCF
import Derived.Test.YtljgfnglknpfaaaGreatDoorJModel
import Derived.Test.YtljgfnglknpfaaaGreatDoorReadC
namespace Go.Proofs.YtljgfnglknpfaaaGreatDoor
set_option maxRecDepth 100000
open Go Go.RowKit Go.Maps Dk

/-- The blocks that are neither the disk's nor the cell's: the law's own, the journal's, its list's. -/
def InJ (F : Nat → Prop) (b : Nat) (lv : Value) : Nat → Prop := fun k => F k ∨ k = b ∨ lv.ownBlock = some k
/-- The journal's own block, and its list. -/
structure JBlk (w0 w : World) (b d cb : Nat) (f : Int) (lv : Value) (j : Jn.J) : Prop where
  blk : w.heap[b]? = some (.cells #[.pointer (some ⟨d, 0, none⟩), .int .i64 f, .pointer (some ⟨cb, 0, none⟩), lv, .int .i64 ((Jn.form j.l).length : Int), .bool j.bad] 66 (0, 0))
  own : w.ownsRow w0.heap.size 9 1 lv j.l.length (strsV j.l)
  low : w0.heap.size ≤ b
  apart : lv.ownBlock ≠ some b
theorem JBlk.kept {w0 w w' : World} {b d cb : Nat} {f : Int} {lv : Value} {j : Jn.J} {S : Nat → Prop} (h : JBlk w0 w b d cb f lv j) (hk : Kept S w w') (hb : ¬ S b) (hl : ∀ k, lv.ownBlock = some k → ¬ S k) : JBlk w0 w' b d cb f lv j :=
  ⟨hk.heap h.blk hb, own_kept h.own hk hl, h.low, h.apart⟩
theorem JBlk.same {w0 w : World} {b d cb : Nat} {f : Int} {lv : Value} {j : Jn.J} (h : JBlk w0 w b d cb f lv j) (c' : Ck.C) : JBlk w0 w b d cb f lv ⟨c', j.l, j.bad⟩ := ⟨h.blk, h.own, h.low, h.apart⟩
theorem JBlk.lt {w0 w : World} {b d cb : Nat} {f : Int} {lv : Value} {j : Jn.J} (h : JBlk w0 w b d cb f lv j) : b < w.heap.size := (Array.getElem?_eq_some_iff.1 h.blk).1
theorem JBlk.c0 {w0 w : World} {b d cb : Nat} {f : Int} {lv : Value} {j : Jn.J} (h : JBlk w0 w b d cb f lv j) : w.cell? ⟨b, 0, none⟩ = some (.pointer (some ⟨d, 0, none⟩)) := by rw [Lib.cell_of_heap h.blk]; rfl
theorem JBlk.c1 {w0 w : World} {b d cb : Nat} {f : Int} {lv : Value} {j : Jn.J} (h : JBlk w0 w b d cb f lv j) : w.cell? ⟨b, 1, none⟩ = some (.int .i64 f) := by rw [Lib.cell_of_heap h.blk]; rfl
theorem JBlk.c2 {w0 w : World} {b d cb : Nat} {f : Int} {lv : Value} {j : Jn.J} (h : JBlk w0 w b d cb f lv j) : w.cell? ⟨b, 2, none⟩ = some (.pointer (some ⟨cb, 0, none⟩)) := by rw [Lib.cell_of_heap h.blk]; rfl
theorem JBlk.c3 {w0 w : World} {b d cb : Nat} {f : Int} {lv : Value} {j : Jn.J} (h : JBlk w0 w b d cb f lv j) : w.cell? ⟨b, 3, none⟩ = some lv := by rw [Lib.cell_of_heap h.blk]; rfl
theorem JBlk.c4 {w0 w : World} {b d cb : Nat} {f : Int} {lv : Value} {j : Jn.J} (h : JBlk w0 w b d cb f lv j) : w.cell? ⟨b, 4, none⟩ = some (.int .i64 ((Jn.form j.l).length : Int)) := by rw [Lib.cell_of_heap h.blk]; rfl
theorem JBlk.c5 {w0 w : World} {b d cb : Nat} {f : Int} {lv : Value} {j : Jn.J} (h : JBlk w0 w b d cb f lv j) : w.cell? ⟨b, 5, none⟩ = some (.bool j.bad) := by rw [Lib.cell_of_heap h.blk]; rfl
theorem JBlk.z {w0 w : World} {b d cb : Nat} {f : Int} {lv : Value} {j : Jn.J} (h : JBlk w0 w b d cb f lv j) (o : Nat) : w.frozen? ⟨b, o, none⟩ = false := Lib.frozen_of_heap h.blk o

/-- A journal with its parts. -/
structure JF' (w0 w : World) (d b cb : Nat) (f : Int) (X : D) (lv : Value) (j : Jn.J) (F : Nat → Prop) : Prop where
  cf : CF w0 w d cb (f + 1) X j.c (InJ F b lv)
  jb : JBlk w0 w b d cb f lv j
  out : ∀ k, F k → k ≠ b ∧ lv.ownBlock ≠ some k
/-- A journal. -/
def JF (w0 w : World) (d b : Nat) (f : Int) (X : D) (j : Jn.J) (F : Nat → Prop) : Prop := ∃ cb lv, JF' w0 w d b cb f X lv j F
theorem JF'.base {w0 w : World} {d b cb : Nat} {f : Int} {X : D} {lv : Value} {j : Jn.J} {F : Nat → Prop} (h : JF' w0 w d b cb f X lv j F) : Below w0.heap.size w0 w := h.cf.base
theorem JF.base {w0 w : World} {d b : Nat} {f : Int} {X : D} {j : Jn.J} {F : Nat → Prop} (h : JF w0 w d b f X j F) : Below w0.heap.size w0 w := by obtain ⟨cb, lv, h⟩ := h; exact h.base
theorem JF'.toDF {w0 w : World} {d b cb : Nat} {f : Int} {X : D} {lv : Value} {j : Jn.J} {F : Nat → Prop} (h : JF' w0 w d b cb f X lv j F) : DF w0 w d X F := by
  obtain ⟨S, h1, h4, h6, h7⟩ := h.cf.toDF
  exact ⟨S, h1, h4, h6, fun k e => h7 k (Or.inl e)⟩
theorem JF.toDF {w0 w : World} {d b : Nat} {f : Int} {X : D} {j : Jn.J} {F : Nat → Prop} (h : JF w0 w d b f X j F) : DF w0 w d X F := by obtain ⟨cb, lv, h⟩ := h; exact h.toDF
theorem DF.base {w0 w : World} {d : Nat} {X : D} {F : Nat → Prop} (h : DF w0 w d X F) : Below w0.heap.size w0 w := by obtain ⟨S, _, _, h6, _⟩ := h; exact h6
theorem DF.inv {w0 w : World} {d : Nat} {X : D} {F : Nat → Prop} (h : DF w0 w d X F) : X.Inv := by obtain ⟨S, h1, _⟩ := h; exact h1.inv
theorem DF.fewer {w0 w : World} {d : Nat} {X : D} {F G : Nat → Prop} (h : DF w0 w d X F) (hG : ∀ k, G k → F k) : DF w0 w d X G := by
  obtain ⟨S, h1, h4, h6, h7⟩ := h
  exact ⟨S, h1, h4, h6, fun k e => h7 k (hG k e)⟩
theorem DF.below {w0 w w' : World} {d : Nat} {X : D} {F G : Nat → Prop} (h : DF w0 w d X F) (hb : Below w.heap.size w w') (hG : ∀ k, G k → F k ∨ (w.heap.size ≤ k ∧ k < w'.heap.size)) : DF w0 w' d X G := by
  obtain ⟨S, h1, h4, h6, h7⟩ := h
  refine ⟨_, h1.new' hb, fun k e => h4 k e.1, h6.trans (hb.mono h6.size), fun k e => ?_⟩
  rcases hG k e with e | ⟨e1, e2⟩
  · have := h7 k e
    exact ⟨fun e' => this.1 e'.1, Nat.lt_of_lt_of_le this.2 hb.size⟩
  · exact ⟨fun e' => absurd e'.2 (Nat.not_lt.2 e1), e2⟩
theorem DF.turn {w0 w w' : World} {d : Nat} {X : D} {F G T : Nat → Prop} (h : DF w0 w d X F) (hk : Kept T w w') (hT : ∀ k, k < w.heap.size → T k → F k) (hTl : ∀ k, T k → w0.heap.size ≤ k) (hG : ∀ k, G k → F k ∨ (w.heap.size ≤ k ∧ k < w'.heap.size)) : DF w0 w' d X G := by
  obtain ⟨S, h1, h4, h6, h7⟩ := h
  refine ⟨fun k => S k ∧ k < w.heap.size, (h1.mono (fun _ hk hs => ⟨hs, hk⟩)).kept hk (fun k e e' => (h7 k (hT k e.2 e')).1 e.1), fun k e => h4 k e.1, h6.trans (hk.toBelow h6.size hTl), fun k e => ?_⟩
  rcases hG k e with e | ⟨e1, e2⟩
  · have := h7 k e
    exact ⟨fun e' => this.1 e'.1, Nat.lt_of_lt_of_le this.2 hk.size⟩
  · exact ⟨fun e' => absurd e'.2 (Nat.not_lt.2 e1), e2⟩
theorem DD.toDF {w0 w : World} {d : Nat} {X : D} (h : DD w0 w d X) : DF w0 w d X (fun _ => False) := ⟨_, h.1, fun _ e => e, h.2, fun _ e => e.elim⟩

theorem Held.refl (F : Nat → Prop) (w : World) : Held F w w := Kept.refl _ _
theorem Held.below {F : Nat → Prop} {w w' : World} (h : Below w.heap.size w w') : Held F w w' := Kept.below h
theorem Held.fewer {F G : Nat → Prop} {w w' : World} (h : Held F w w') (hG : ∀ k, G k → F k) : Held G w w' := Kept.mono h (fun k _ e e' => e (hG k e'))

theorem JF'.after {w0 w w' : World} {d b cb : Nat} {f : Int} {X X' : D} {lv : Value} {j : Jn.J} {F : Nat → Prop} (h : JF' w0 w d b cb f X lv j F) {c' : Ck.C} (h1 : CF w0 w' d cb (f + 1) X' c' (InJ F b lv)) (h2 : Held (InJ F b lv) w w') :
    JF' w0 w' d b cb f X' lv ⟨c', j.l, j.bad⟩ F ∧ Held F w w' :=
  ⟨⟨h1, (h.jb.same c').kept h2 (fun e => e (Or.inr (Or.inl rfl))) (fun _ e e' => e' (Or.inr (Or.inr e))), h.out⟩, Held.fewer h2 (fun _ e => Or.inl e)⟩
theorem JF'.below {w0 w w' : World} {d b cb : Nat} {f : Int} {X : D} {lv : Value} {j : Jn.J} {F G : Nat → Prop} (h : JF' w0 w d b cb f X lv j F) (hb : Below w.heap.size w w') (hG : ∀ k, G k → F k ∨ (w.heap.size ≤ k ∧ k < w'.heap.size)) : JF' w0 w' d b cb f X lv j G := by
  have hbl := h.jb.lt
  have hk : Kept (fun _ => False) w w' := Kept.below hb
  refine ⟨h.cf.below hb (fun k e => ?_), h.jb.kept hk (fun e => e) (fun _ _ e => e), fun k e => ?_⟩
  · rcases e with e | e
    · rcases hG k e with e | e
      · exact Or.inl (Or.inl e)
      · exact Or.inr e
    · exact Or.inl (Or.inr e)
  · rcases hG k e with e | ⟨e1, _⟩
    · exact h.out k e
    · exact ⟨by omega, fun e' => by have := (h.jb.own.lt k e').2; omega⟩
theorem JF'.fewer {w0 w : World} {d b cb : Nat} {f : Int} {X : D} {lv : Value} {j : Jn.J} {F G : Nat → Prop} (h : JF' w0 w d b cb f X lv j F) (hG : ∀ k, G k → F k) : JF' w0 w d b cb f X lv j G :=
  ⟨h.cf.fewer (fun k e => e.imp (hG k) id), h.jb, fun k e => h.out k (hG k e)⟩
/-- The law's own blocks turned. -/
theorem JF'.turn {w0 w w' : World} {d b cb : Nat} {f : Int} {X : D} {lv : Value} {j : Jn.J} {F G T : Nat → Prop} (h : JF' w0 w d b cb f X lv j F) (hk : Kept T w w') (hT : ∀ k, k < w.heap.size → T k → F k) (hTl : ∀ k, T k → w0.heap.size ≤ k) (hG : ∀ k, G k → F k ∨ (w.heap.size ≤ k ∧ k < w'.heap.size)) : JF' w0 w' d b cb f X lv j G := by
  have hbl := h.jb.lt
  refine ⟨h.cf.turn hk (fun k e1 e2 => Or.inl (hT k e1 e2)) hTl (fun k e => ?_), h.jb.kept hk (fun e => (h.out b (hT b hbl e)).1 rfl) (fun k e e' => (h.out k (hT k (h.jb.own.lt k e).2 e')).2 e), fun k e => ?_⟩
  · rcases e with e | e
    · rcases hG k e with e | e
      · exact Or.inl (Or.inl e)
      · exact Or.inr e
    · exact Or.inl (Or.inr e)
  · rcases hG k e with e | ⟨e1, _⟩
    · exact h.out k e
    · exact ⟨by omega, fun e' => by have := (h.jb.own.lt k e').2; omega⟩
theorem JF.below {w0 w w' : World} {d b : Nat} {f : Int} {X : D} {j : Jn.J} {F G : Nat → Prop} (h : JF w0 w d b f X j F) (hb : Below w.heap.size w w') (hG : ∀ k, G k → F k ∨ (w.heap.size ≤ k ∧ k < w'.heap.size)) : JF w0 w' d b f X j G := by
  obtain ⟨cb, lv, h⟩ := h; exact ⟨cb, lv, h.below hb hG⟩
theorem JF.fewer {w0 w : World} {d b : Nat} {f : Int} {X : D} {j : Jn.J} {F G : Nat → Prop} (h : JF w0 w d b f X j F) (hG : ∀ k, G k → F k) : JF w0 w d b f X j G := by
  obtain ⟨cb, lv, h⟩ := h; exact ⟨cb, lv, h.fewer hG⟩
theorem JF.turn {w0 w w' : World} {d b : Nat} {f : Int} {X : D} {j : Jn.J} {F G T : Nat → Prop} (h : JF w0 w d b f X j F) (hk : Kept T w w') (hT : ∀ k, k < w.heap.size → T k → F k) (hTl : ∀ k, T k → w0.heap.size ≤ k) (hG : ∀ k, G k → F k ∨ (w.heap.size ≤ k ∧ k < w'.heap.size)) : JF w0 w' d b f X j G := by
  obtain ⟨cb, lv, h⟩ := h; exact ⟨cb, lv, h.turn hk hT hTl hG⟩
theorem JF.inv {w0 w : World} {d b : Nat} {f : Int} {X : D} {j : Jn.J} {F : Nat → Prop} (h : JF w0 w d b f X j F) : X.Inv := h.toDF.inv

/-- A call of the disk. -/
theorem JF'.op {w0 w : World} {d b cb : Nat} {f : Int} {X X' : D} {lv : Value} {j : Jn.J} {F : Nat → Prop} (h : JF' w0 w d b cb f X lv j F) {g : FuncId} {args : Array Value} {r : Ending}
    (hop : ∀ S, DiskIn w d S X → (∀ k, S k → w0.heap.size ≤ k) → Calls Tryz.prog g args w fun e w' => e = r ∧ DiskIn w' d (After S w) X' ∧ Kept S w w') : Calls Tryz.prog g args w fun e w' => e = r ∧ Hid (JF' w0 w' d b cb f X' lv j F ∧ Held F w w') := by
  refine (h.cf.op hop).mono ?_
  rintro e w' ⟨rfl, g⟩
  exact ⟨rfl, h.after g.out.1 g.out.2⟩
theorem JF.op {w0 w : World} {d b : Nat} {f : Int} {X X' : D} {j : Jn.J} {F : Nat → Prop} (h : JF w0 w d b f X j F) {g : FuncId} {args : Array Value} {r : Ending}
    (hop : ∀ S, DiskIn w d S X → (∀ k, S k → w0.heap.size ≤ k) → Calls Tryz.prog g args w fun e w' => e = r ∧ DiskIn w' d (After S w) X' ∧ Kept S w w') : Calls Tryz.prog g args w fun e w' => e = r ∧ Hid (JF w0 w' d b f X' j F ∧ Held F w w') := by
  obtain ⟨cb, lv, h⟩ := h
  refine (h.op hop).mono ?_
  rintro e w' ⟨rfl, g⟩
  exact ⟨rfl, ⟨cb, lv, g.out.1⟩, g.out.2⟩
/-- The flag is set. -/
theorem JF'.mark {w0 w : World} {d b cb : Nat} {f : Int} {X : D} {lv : Value} {j : Jn.J} {F : Nat → Prop} (h : JF' w0 w d b cb f X lv j F) (x : Bool) :
    JF' w0 (w.setCell ⟨b, 5, none⟩ (.bool x)) d b cb f X lv ⟨j.c, j.l, x⟩ F ∧ Held F w (w.setCell ⟨b, 5, none⟩ (.bool x)) := by
  have hk := Kept.set b 5 w (.bool x)
  refine ⟨⟨h.cf.turn hk (fun k _ e => Or.inr (Or.inl e)) (fun k e => by rw [e]; exact h.jb.low) (fun k e => Or.inl e), ⟨cells6_set h.jb.blk 5 _ (by omega), own_kept h.jb.own hk (fun k e e' => h.jb.apart (by rw [e, e'])), h.jb.low, h.jb.apart⟩, h.out⟩, hk.mono (fun k _ e e' => (h.out k e').1 e)⟩

/-! ### Strings that a call is given -/
structure ArgIn (w0 w : World) (F : Nat → Prop) (v : Value) (s : List (List UInt8)) : Prop where
  src : SrcV w 1 v s.length (strsV s)
  low : s ≠ [] → ∀ a n c, v = .slice (some a) n c → a.block < w0.heap.size ∨ F a.block
theorem ArgIn.on {w0 w w' : World} {F : Nat → Prop} {v : Value} {s : List (List UInt8)} (h : ArgIn w0 w F v s) (hb : Below w0.heap.size w0 w) (hb' : Below w0.heap.size w0 w') (hk : Held F w w') : ArgIn w0 w' F v s := by
  refine ⟨?_, h.low⟩
  have hlow := h.low
  obtain ⟨a, c, h1, h2, h3, h4⟩ := h.src
  refine ⟨a, c, h1, h2, h3, fun ad e j u hu => ?_⟩
  have hc := h4 ad e j u hu
  have hne : s ≠ [] := by rintro rfl; simp [strsV] at hu
  have hbk : (ad.add j).block = ad.block := by cases ad; simp [Addr.add]; split <;> rfl
  rcases hlow hne ad _ _ (by rw [h1, e]) with hl | hl
  · have : w'.heap[(ad.add j).block]? = w.heap[(ad.add j).block]? := by rw [hbk, hb'.block _ hl, hb.block _ hl]
    exact (World.cell?_of_block this).trans hc
  · exact Kept.cell hk hc (by rw [hbk]; exact fun e => e hl)
theorem ArgIn.came {w0 : World} {v : Value} {s : List (List UInt8)} (h : SrcV w0 1 v s.length (strsV s)) (F : Nat → Prop) : ArgIn w0 w0 F v s := by
  refine ⟨h, fun hne a n c hv => ?_⟩
  obtain ⟨a', c', h1, h2, h3, h4⟩ := h
  rw [h1] at hv
  injection hv with e1 e2 e3
  subst e1
  cases s with
  | nil => exact absurd rfl hne
  | cons x s =>
    have := h4 a rfl 0 (.string ⟨x.toArray⟩) (by simp [strsV])
    have := Lib.lt_of_cell this
    cases a
    simpa [Addr.add] using Or.inl this
theorem ArgIn.own {w0 w : World} {F : Nat → Prop} {v : Value} {s : List (List UInt8)} (h : Strs w v s) (hF : ∀ k, v.ownBlock = some k → F k) : ArgIn w0 w F v s :=
  ⟨SrcV.own h, fun _ a n c hv => Or.inr (hF _ (by rw [hv]; rfl))⟩
theorem ArgIn.more {w0 w : World} {F G : Nat → Prop} {v : Value} {s : List (List UInt8)} (h : ArgIn w0 w F v s) (hG : ∀ k, F k → G k) : ArgIn w0 w G v s :=
  ⟨h.src, fun hne a n c hv => (h.low hne a n c hv).imp id (hG _)⟩
/-- One of the strings. -/
theorem SrcV.str {w : World} {a : Option Addr} {n c : Nat} {s : List (List UInt8)} (h : SrcV w 1 (.slice a n c) s.length (strsV s)) {k : Nat} {x : List UInt8} (hx : s[k]? = some x) : ∃ g off, a = some ⟨g, off, none⟩ ∧ w.cell? ⟨g, off + k, none⟩ = some (.string ⟨x.toArray⟩) := by
  obtain ⟨a', c', h1, h2, h3, h4⟩ := h
  injection h1 with e1 e2 e3
  subst e1
  cases a with
  | none =>
    exfalso
    have h0 := h3 rfl
    have := (List.getElem?_eq_some_iff.1 hx).1
    omega
  | some ad =>
    have hk := h4 ad rfl k (.string ⟨x.toArray⟩) (by simp [strsV, hx])
    have hs : 0 < s.length := by have := (List.getElem?_eq_some_iff.1 hx).1; omega
    have h0 := h4 ad rfl 0 (.string ⟨(s[0]).toArray⟩) (by simp [strsV, List.getElem?_eq_getElem hs])
    rw [show ad.add 0 = ad by simp [Addr.add]] at h0
    obtain ⟨g, off, rfl⟩ := cell_plainD h0
    exact ⟨g, off, rfl, by simpa [Lib.add_plain] using hk⟩
end Go.Proofs.YtljgfnglknpfaaaGreatDoor
