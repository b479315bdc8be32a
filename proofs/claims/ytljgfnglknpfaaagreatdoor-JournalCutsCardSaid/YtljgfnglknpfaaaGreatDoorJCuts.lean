/-
  JournalCuts: two journals on one disk.
-/
import Derived.Test.YtljgfnglknpfaaaGreatDoorJLaw
namespace Go.Proofs.YtljgfnglknpfaaaGreatDoor
set_option maxRecDepth 100000
open Go Go.RowKit Go.Sort Dk

/-- A journal's blocks. -/
def JB (b cb : Nat) (lv : Value) : Nat → Prop := fun i => i = b ∨ i = cb ∨ lv.ownBlock = some i
/-- What is asked of the second journal's blocks. -/
structure Side (w0 w : World) (d c cc : Nat) (g : Int) (kv : Value) (k : Jn.J) (F : Nat → Prop) : Prop where
  cell : CellAt w cc d (g + 1) k.c
  jb : JBlk w0 w c d cc g kv k
  ne : c ≠ cc
  kne : kv.ownBlock ≠ some cc
  low : w0.heap.size ≤ cc
  out : ∀ i, F i → i ≠ c ∧ i ≠ cc ∧ kv.ownBlock ≠ some i
theorem Side.kept {w0 w w' : World} {d c cc : Nat} {g : Int} {kv : Value} {k : Jn.J} {F G : Nat → Prop} (h : Side w0 w d c cc g kv k F) (hk : Held G w w') (hG : ∀ i, JB c cc kv i → G i) : Side w0 w' d c cc g kv k F :=
  ⟨h.cell.kept hk (fun e => e (hG _ (Or.inr (Or.inl rfl)))), h.jb.kept hk (fun e => e (hG _ (Or.inl rfl))) (fun i e e' => e' (hG i (Or.inr (Or.inr e)))), h.ne, h.kne, h.low, h.out⟩
/-- Two journals. -/
def JJ (w0 w : World) (d b c : Nat) (f g : Int) (X : D) (j k : Jn.J) (F : Nat → Prop) : Prop :=
  ∃ cc kv, JF w0 w d b f X j (fun i => F i ∨ JB c cc kv i) ∧ Side w0 w d c cc g kv k F
theorem JJ.swap {w0 w : World} {d b c : Nat} {f g : Int} {X : D} {j k : Jn.J} {F : Nat → Prop} (h : JJ w0 w d b c f g X j k F) : JJ w0 w d c b g f X k j F := by
  obtain ⟨cc, kv, ⟨cb, lv, h1⟩, h2⟩ := h
  obtain ⟨S, s1, s2, s3, s4, s5, s6, s7⟩ := h1.cf
  have hcb := s2.lt
  have fc := s7 c (Or.inl (Or.inr (Or.inl rfl)))
  have fcc := s7 cc (Or.inl (Or.inr (Or.inr (Or.inl rfl))))
  have fb := s7 b (Or.inr (Or.inl rfl))
  have oc := h1.out c (Or.inr (Or.inl rfl))
  have occ := h1.out cc (Or.inr (Or.inr (Or.inl rfl)))
  have okv : ∀ i, kv.ownBlock = some i → i ≠ b ∧ lv.ownBlock ≠ some i := fun i e => h1.out i (Or.inr (Or.inr (Or.inr e)))
  have flv : ∀ i, lv.ownBlock = some i → ¬ S i ∧ i ≠ cb ∧ i < w.heap.size := fun i e => s7 i (Or.inr (Or.inr e))
  have fkv : ∀ i, kv.ownBlock = some i → ¬ S i ∧ i ≠ cb ∧ i < w.heap.size := fun i e => s7 i (Or.inl (Or.inr (Or.inr (Or.inr e))))
  refine ⟨cb, lv, ⟨cc, kv, ⟨S, s1, h2.cell, fcc.1, s4, h2.low, s6, ?_⟩, h2.jb, ?_⟩, ⟨s2, h1.jb, fb.2.1, fun e => (flv _ e).2.1 rfl, s5, fun i e => ⟨(h1.out i (Or.inl e)).1, (s7 i (Or.inl (Or.inl e))).2.1, (h1.out i (Or.inl e)).2⟩⟩⟩
  · intro i e
    rcases e with (e | e | e | e) | e | e
    · have := s7 i (Or.inl (Or.inl e))
      exact ⟨this.1, (h2.out i e).2.1, this.2.2⟩
    · subst e
      exact ⟨fb.1, fun e => occ.1 e.symm, fb.2.2⟩
    · subst e
      exact ⟨s3, fun e => fcc.2.1 e.symm, hcb⟩
    · have := flv i e
      exact ⟨this.1, fun e' => occ.2 (by rw [← e']; exact e), this.2.2⟩
    · subst e
      exact ⟨fc.1, h2.ne, fc.2.2⟩
    · have := fkv i e
      exact ⟨this.1, fun e' => h2.kne (by rw [← e']; exact e), this.2.2⟩
  · intro i e
    rcases e with e | e | e | e
    · exact ⟨(h2.out i e).1, (h2.out i e).2.2⟩
    · subst e
      exact ⟨fun e => oc.1 e.symm, fun e => (okv _ e).1 rfl⟩
    · subst e
      exact ⟨fun e => fc.2.1 e.symm, fun e => (fkv _ e).2.1 rfl⟩
    · exact ⟨fun e' => oc.2 (by rw [← e']; exact e), fun e' => (okv i e').2 e⟩
theorem JJ.base {w0 w : World} {d b c : Nat} {f g : Int} {X : D} {j k : Jn.J} {F : Nat → Prop} (h : JJ w0 w d b c f g X j k F) : RowKit.Below w0.heap.size w0 w := by
  obtain ⟨cc, kv, h1, _⟩ := h
  exact h1.base
theorem JJ.fst {w0 w : World} {d b c : Nat} {f g : Int} {X : D} {j k : Jn.J} {F : Nat → Prop} (h : JJ w0 w d b c f g X j k F) : JF w0 w d b f X j F := by
  obtain ⟨cc, kv, h1, _⟩ := h
  exact h1.fewer (fun _ e => Or.inl e)
theorem JJ.step {w0 w : World} {d b c : Nat} {f g : Int} {X X' : D} {j j' k : Jn.J} {F : Nat → Prop} (h : JJ w0 w d b c f g X j k F) {fn : FuncId} {args : Array Value} {r : Ending}
    (hop : ∀ G : Nat → Prop, (∀ i, F i → G i) → JF w0 w d b f X j G → Calls Tryz.prog fn args w fun e w' => e = r ∧ Hid (JF w0 w' d b f X' j' G ∧ Held G w w')) :
    Calls Tryz.prog fn args w fun e w' => e = r ∧ Hid (JJ w0 w' d b c f g X' j' k F ∧ Held F w w') := by
  obtain ⟨cc, kv, h1, h2⟩ := h
  refine (hop _ (fun _ e => Or.inl e) h1).mono ?_
  rintro e w' ⟨rfl, q⟩
  exact ⟨rfl, ⟨cc, kv, q.out.1, h2.kept q.out.2 (fun _ e => Or.inr e)⟩, Held.fewer q.out.2 (fun _ e => Or.inl e)⟩
theorem JJ.below {w0 w w' : World} {d b c : Nat} {f g : Int} {X : D} {j k : Jn.J} {F G : Nat → Prop} (h : JJ w0 w d b c f g X j k F) (hb : RowKit.Below w.heap.size w w') (hG : ∀ i, G i → F i ∨ (w.heap.size ≤ i ∧ i < w'.heap.size)) : JJ w0 w' d b c f g X j k G := by
  obtain ⟨cc, kv, h1, h2⟩ := h
  have hk : Kept (fun _ => False) w w' := Kept.below hb
  have hcc := h2.cell.lt
  have hc := h2.jb.lt
  refine ⟨cc, kv, h1.below hb (fun i e => ?_), ⟨h2.cell.kept hk (fun e => e), h2.jb.kept hk (fun e => e) (fun _ _ e => e), h2.ne, h2.kne, h2.low, fun i e => ?_⟩⟩
  · rcases e with e | e
    · exact (hG i e).imp Or.inl id
    · exact Or.inl (Or.inr e)
  · rcases hG i e with e | ⟨e1, _⟩
    · exact h2.out i e
    · exact ⟨by omega, by omega, fun e' => by have := (h2.jb.own.lt i e').2; omega⟩
theorem JJ.fewer {w0 w : World} {d b c : Nat} {f g : Int} {X : D} {j k : Jn.J} {F G : Nat → Prop} (h : JJ w0 w d b c f g X j k F) (hG : ∀ i, G i → F i) : JJ w0 w d b c f g X j k G := by
  obtain ⟨cc, kv, h1, h2⟩ := h
  exact ⟨cc, kv, h1.fewer (fun i e => e.imp (hG i) id), ⟨h2.cell, h2.jb, h2.ne, h2.kne, h2.low, fun i e => h2.out i (hG i e)⟩⟩
theorem JJ.turn {w0 w w' : World} {d b c : Nat} {f g : Int} {X : D} {j k : Jn.J} {F G T : Nat → Prop} (h : JJ w0 w d b c f g X j k F) (hk : Kept T w w') (hT : ∀ i, i < w.heap.size → T i → F i) (hTl : ∀ i, T i → w0.heap.size ≤ i) (hG : ∀ i, G i → F i ∨ (w.heap.size ≤ i ∧ i < w'.heap.size)) : JJ w0 w' d b c f g X j k G := by
  obtain ⟨cc, kv, h1, h2⟩ := h
  have hcc := h2.cell.lt
  have hc := h2.jb.lt
  refine ⟨cc, kv, h1.turn hk (fun i e1 e2 => Or.inl (hT i e1 e2)) hTl (fun i e => ?_), ⟨h2.cell.kept hk (fun e => (h2.out cc (hT cc hcc e)).2.1 rfl), h2.jb.kept hk (fun e => (h2.out c (hT c hc e)).1 rfl) (fun i e e' => (h2.out i (hT i (h2.jb.own.lt i e).2 e')).2.2 e), h2.ne, h2.kne, h2.low, fun i e => ?_⟩⟩
  · rcases e with e | e
    · exact (hG i e).imp Or.inl id
    · exact Or.inl (Or.inr e)
  · rcases hG i e with e | ⟨e1, _⟩
    · exact h2.out i e
    · exact ⟨by omega, by omega, fun e' => by have := (h2.jb.own.lt i e').2; omega⟩

/-- Two journals on a machine that nothing is scheduled for. -/
def PP (w0 w : World) (d b c f g : Nat) (l m : List (List UInt8)) (F : Nat → Prop) : Prop := ∃ X j k, JJ w0 w d b c f g X j k F ∧ PJ X f j l ∧ PJ X g k m
theorem PP.swap {w0 w : World} {d b c f g : Nat} {l m : List (List UInt8)} {F : Nat → Prop} (h : PP w0 w d b c f g l m F) : PP w0 w d c b g f m l F := by
  obtain ⟨X, j, k, h1, h2, h3⟩ := h
  exact ⟨X, k, j, h1.swap, h3, h2⟩
theorem PP.fst {w0 w : World} {d b c f g : Nat} {l m : List (List UInt8)} {F : Nat → Prop} (h : PP w0 w d b c f g l m F) : PL w0 w d b f l F := by
  obtain ⟨X, j, k, h1, h2, _⟩ := h
  exact ⟨X, j, h1.fst, h2⟩
theorem PP.base {w0 w : World} {d b c f g : Nat} {l m : List (List UInt8)} {F : Nat → Prop} (h : PP w0 w d b c f g l m F) : RowKit.Below w0.heap.size w0 w := h.fst.base
theorem PP.below {w0 w w' : World} {d b c f g : Nat} {l m : List (List UInt8)} {F G : Nat → Prop} (h : PP w0 w d b c f g l m F) (hb : RowKit.Below w.heap.size w w') (hG : ∀ i, G i → F i ∨ (w.heap.size ≤ i ∧ i < w'.heap.size)) : PP w0 w' d b c f g l m G := by
  obtain ⟨X, j, k, h1, h2⟩ := h
  exact ⟨X, j, k, h1.below hb hG, h2⟩
theorem PP.fewer {w0 w : World} {d b c f g : Nat} {l m : List (List UInt8)} {F G : Nat → Prop} (h : PP w0 w d b c f g l m F) (hG : ∀ i, G i → F i) : PP w0 w d b c f g l m G := by
  obtain ⟨X, j, k, h1, h2⟩ := h
  exact ⟨X, j, k, h1.fewer hG, h2⟩
theorem PP.turn {w0 w w' : World} {d b c f g : Nat} {l m : List (List UInt8)} {F G T : Nat → Prop} (h : PP w0 w d b c f g l m F) (hk : Kept T w w') (hT : ∀ i, i < w.heap.size → T i → F i) (hTl : ∀ i, T i → w0.heap.size ≤ i) (hG : ∀ i, G i → F i ∨ (w.heap.size ≤ i ∧ i < w'.heap.size)) : PP w0 w' d b c f g l m G := by
  obtain ⟨X, j, k, h1, h2⟩ := h
  exact ⟨X, j, k, h1.turn hk hT hTl hG, h2⟩
/-- Files that are different. -/
structure Apart (f g : Nat) : Prop where
  lf : f < 15
  lg : g < 15
  ne : g ≠ f ∧ g ≠ f + 1 ∧ g + 1 ≠ f
theorem Apart.symm {f g : Nat} (h : Apart f g) : Apart g f := ⟨h.lg, h.lf, by have := h.ne; omega⟩
theorem pp_append {w0 w : World} {d b c f g : Nat} {l m : List (List UInt8)} {F : Nat → Prop} (ht : Tab w0) (hg : Good w0) (h : PP w0 w d b c f g l m F) (hA : Apart f g) (v : Value) (s : List (List UInt8)) (ha : ArgIn w0 w F v s) (hx : ∀ x ∈ s, x.length ≤ 1000000000) (hs : s.length ≤ 9223372036854775807) (hl : (Jn.form (l ++ s)).length ≤ 1048576) :
    Calls Tryz.prog 12 #[.pointer (some ⟨b, 0, none⟩), v] w fun e w' => e = .returned (.int .i64 0) ∧ Hid (PP w0 w' d b c f g (l ++ s) m F ∧ Held F w w') := by
  obtain ⟨X, j, k, h1, h2, h3⟩ := h
  obtain ⟨X', j', e1, e2⟩ := h2.append hA.lf hl
  have hne := hA.ne
  have hI := h3.st.two.inv
  have c0 := Jn.append_calm (i := g) (j := j) (s := s) hI hA.lf (by have := hA.lg; omega) hne.1 hne.2.1
  have c1 := Jn.append_calm (i := g + 1) (j := j) (s := s) hI hA.lf (by have := hA.lg; omega) hne.2.2 (by omega)
  rw [e1] at c0 c1
  refine (h1.step (X' := X') (j' := j') (r := .returned (.int .i64 0)) fun G hG hJ => ?_).mono ?_
  · have q := jappend_c ht hg hJ (by have := hA.lf; omega) (fun _ => by rw [h2.list]; exact h2.len hA.lf) v s (ha.more hG) hx hs
    rw [e1] at q
    exact q
  · rintro e w' ⟨rfl, q⟩
    exact ⟨rfl, ⟨X', j', k, q.out.1, e2, ⟨e2.plain, h3.st.calm c0 c1, h3.list, h3.bad⟩⟩, q.out.2⟩
theorem pp_full {w0 w : World} {d b c f g : Nat} {l m : List (List UInt8)} {F : Nat → Prop} (ht : Tab w0) (hg : Good w0) (h : PP w0 w d b c f g l m F) (hA : Apart f g) (v : Value) (s : List (List UInt8)) (ha : ArgIn w0 w F v s) (hx : ∀ x ∈ s, x.length ≤ 1000000000) (hs : s.length ≤ 9223372036854775807) (hne : s ≠ []) (hl : 1048576 < (Jn.form (l ++ s)).length) :
    Calls Tryz.prog 12 #[.pointer (some ⟨b, 0, none⟩), v] w fun e w' => e = .returned (.int .i64 6) ∧ Hid (PP w0 w' d b c f g l m F ∧ Held F w w') := by
  obtain ⟨X, j, k, h1, h2, h3⟩ := h
  have e1 : Jn.appendJ X f j s = (X, j, 6) := by
    unfold Jn.appendJ
    rw [h2.bad, if_neg (by simp), if_neg hne, if_pos (by rw [h2.list]; exact hl)]
  refine (h1.step (X' := X) (j' := j) (r := .returned (.int .i64 6)) fun G hG hJ => ?_).mono ?_
  · have q := jappend_c ht hg hJ (by have := hA.lf; omega) (fun _ => by rw [h2.list]; exact h2.len hA.lf) v s (ha.more hG) hx hs
    rw [e1] at q
    exact q
  · rintro e w' ⟨rfl, q⟩
    exact ⟨rfl, ⟨X, j, k, q.out.1, h2, h3⟩, q.out.2⟩
theorem pp_cut {w0 w : World} {d b c f g : Nat} {l m : List (List UInt8)} {F : Nat → Prop} (ht : Tab w0) (hg : Good w0) (h : PP w0 w d b c f g l m F) (hA : Apart f g) (n : Int) (hn : 0 ≤ n ∧ n ≤ l.length) :
    Calls Tryz.prog 13 #[.pointer (some ⟨b, 0, none⟩), .int .i64 n] w fun e w' => e = .returned (.int .i64 0) ∧ Hid (PP w0 w' d b c f g (l.take n.toNat) m F ∧ Held F w w') := by
  obtain ⟨X, j, k, h1, h2, h3⟩ := h
  obtain ⟨X', j', e1, e2⟩ := h2.cut hA.lf hn
  have hne := hA.ne
  have hI := h3.st.two.inv
  have hl := h2.len hA.lf
  have c0 := Jn.cut_calm (i := g) (j := j) (n := n) hI hA.lf (by have := hA.lg; omega) hne.2.1 (by rw [h2.list]; exact hl)
  have c1 := Jn.cut_calm (i := g + 1) (j := j) (n := n) hI hA.lf (by have := hA.lg; omega) (by omega) (by rw [h2.list]; exact hl)
  rw [e1] at c0 c1
  refine (h1.step (X' := X') (j' := j') (r := .returned (.int .i64 0)) fun G hG hJ => ?_).mono ?_
  · have q := jcut_c ht hg hJ (by have := hA.lf; omega) (fun _ => by rw [h2.list]; exact hl) n
    rw [e1] at q
    exact q
  · rintro e w' ⟨rfl, q⟩
    exact ⟨rfl, ⟨X', j', k, q.out.1, e2, ⟨e2.plain, h3.st.calm c0 c1, h3.list, h3.bad⟩⟩, q.out.2⟩
theorem pp_cutout {w0 w : World} {d b c f g : Nat} {l m : List (List UInt8)} {F : Nat → Prop} (ht : Tab w0) (hg : Good w0) (h : PP w0 w d b c f g l m F) (hA : Apart f g) (n : Int) (hn : n < 0 ∨ (l.length : Int) < n) :
    Calls Tryz.prog 13 #[.pointer (some ⟨b, 0, none⟩), .int .i64 n] w fun e w' => e = .returned (.int .i64 1) ∧ Hid (PP w0 w' d b c f g l m F ∧ Held F w w') := by
  obtain ⟨X, j, k, h1, h2, h3⟩ := h
  have e1 : Jn.cutJ X f j n = (X, j, 1) := by
    unfold Jn.cutJ
    rw [h2.bad, if_neg (by simp), if_pos (by rw [h2.list]; exact hn)]
  refine (h1.step (X' := X) (j' := j) (r := .returned (.int .i64 1)) fun G hG hJ => ?_).mono ?_
  · have q := jcut_c ht hg hJ (by have := hA.lf; omega) (fun _ => by rw [h2.list]; exact h2.len hA.lf) n
    rw [e1] at q
    exact q
  · rintro e w' ⟨rfl, q⟩
    exact ⟨rfl, ⟨X, j, k, q.out.1, h2, h3⟩, q.out.2⟩
theorem pp_append_lit {w0 w : World} {d b c f g : Nat} {l m : List (List UInt8)} {F : Nat → Prop} (ht : Tab w0) (hg : Good w0) (h : PP w0 w d b c f g l m F) (hA : Apart f g) (s : List (List UInt8)) (hx : ∀ x ∈ s, x.length ≤ 1000000000) (hs : s.length ≤ 9223372036854775807) (hl : (Jn.form (l ++ s)).length ≤ 1048576) :
    Calls Tryz.prog 12 #[.pointer (some ⟨b, 0, none⟩), .slice (some ⟨w.heap.size, 0, none⟩) s.length s.length] (w.alloc (.cells (strsV s).toArray 9)) fun e w' => e = .returned (.int .i64 0) ∧ Hid (PP w0 w' d b c f g (l ++ s) m F ∧ Held F w w') := by
  have hb : RowKit.Below w.heap.size w (w.alloc (.cells (strsV s).toArray 9)) := (Below.refl _ w).alloc (Nat.le_refl _) _
  have h' := h.below (G := fun k => F k ∨ k = w.heap.size) hb (fun k e => e.imp id (fun e => ⟨Nat.le_of_eq e.symm, by subst e; simp⟩))
  refine (pp_append ht hg h' hA _ s (arg_lit s (Or.inr rfl)) hx hs hl).mono ?_
  rintro e w' ⟨rfl, q⟩
  exact ⟨rfl, q.out.1.fewer (fun _ e => Or.inl e), (Held.below hb).trans (Held.fewer q.out.2 (fun _ e => Or.inl e))⟩
theorem pp_full_lit {w0 w : World} {d b c f g : Nat} {l m : List (List UInt8)} {F : Nat → Prop} (ht : Tab w0) (hg : Good w0) (h : PP w0 w d b c f g l m F) (hA : Apart f g) (s : List (List UInt8)) (hx : ∀ x ∈ s, x.length ≤ 1000000000) (hs : s.length ≤ 9223372036854775807) (hne : s ≠ []) (hl : 1048576 < (Jn.form (l ++ s)).length) :
    Calls Tryz.prog 12 #[.pointer (some ⟨b, 0, none⟩), .slice (some ⟨w.heap.size, 0, none⟩) s.length s.length] (w.alloc (.cells (strsV s).toArray 9)) fun e w' => e = .returned (.int .i64 6) ∧ Hid (PP w0 w' d b c f g l m F ∧ Held F w w') := by
  have hb : RowKit.Below w.heap.size w (w.alloc (.cells (strsV s).toArray 9)) := (Below.refl _ w).alloc (Nat.le_refl _) _
  have h' := h.below (G := fun k => F k ∨ k = w.heap.size) hb (fun k e => e.imp id (fun e => ⟨Nat.le_of_eq e.symm, by subst e; simp⟩))
  refine (pp_full ht hg h' hA _ s (arg_lit s (Or.inr rfl)) hx hs hne hl).mono ?_
  rintro e w' ⟨rfl, q⟩
  exact ⟨rfl, q.out.1.fewer (fun _ e => Or.inl e), (Held.below hb).trans (Held.fewer q.out.2 (fun _ e => Or.inl e))⟩
/-- The second journal is opened. -/
theorem pp_open {w0 w : World} {d b f g : Nat} {l : List (List UInt8)} (ht : Tab w0) (hg : Good w0) (h : ∃ X j, JF w0 w d b f X j (fun _ => False) ∧ PJ X f j l ∧ Jn.Two X g ⟨0, [], false⟩ (fun m => m = [])) (hA : Apart f g) :
    Calls Tryz.prog 9 #[.pointer (some ⟨d, 0, none⟩), .int .i64 (g : Int)] w fun e w' => ∃ c, e = .returned (.tuple #[.pointer (some ⟨c, 0, none⟩), .int .i64 0]) ∧ Hid (PP w0 w' d b c f g l [] (fun _ => False)) := by
  obtain ⟨X, j, ⟨cb, lv, h1⟩, h2, h3⟩ := h
  obtain ⟨E, k, ho, hp, hW, hb, hst⟩ := Jn.open_plain h3 hA.lg h2.plain
  have hne := hA.ne
  have hI := h2.st.two.inv
  have c0 := Jn.open_calm (i := f) (f := g) hI hA.lg (by have := hA.lf; omega) (by omega) (by omega)
  have c1 := Jn.open_calm (i := f + 1) (f := g) hI hA.lg (by have := hA.lf; omega) (by omega) (by omega)
  rw [ho] at c0 c1
  have hDF : DF w0 w d X (JB b cb lv) := by
    obtain ⟨S, s1, s2, s3, s4, s5, s6, s7⟩ := h1.cf
    refine ⟨S, s1, s4, s6, fun i e => ?_⟩
    rcases e with e | e | e
    · have := s7 i (Or.inr (Or.inl e)); exact ⟨this.1, this.2.2⟩
    · subst e; exact ⟨s3, s2.lt⟩
    · have := s7 i (Or.inr (Or.inr e)); exact ⟨this.1, this.2.2⟩
  have hs : Side w0 w d b cb f lv j (fun _ => False) := by
    obtain ⟨S, s1, s2, s3, s4, s5, s6, s7⟩ := h1.cf
    exact ⟨s2, h1.jb, (s7 b (Or.inr (Or.inl rfl))).2.1, fun e => (s7 cb (Or.inr (Or.inr e))).2.1 rfl, s5, fun _ e => e.elim⟩
  have q := jopen_c ht hg hDF (g : Int) (by have := hA.lg; omega)
  rw [ho] at q
  refine q.mono ?_
  rintro e w' ⟨hk, ⟨k', c, e1, rfl, q⟩ | ⟨z, hz, e1, _⟩⟩
  · injection e1 with e1 _
    injection e1 with e1
    subst e1
    have hj : JJ w0 w' d c b g f E k j (fun _ => False) := ⟨cb, lv, q.fewer (fun _ e => e.elim (fun e => e.elim) id), hs.kept hk (fun _ e => e)⟩
    refine ⟨c, rfl, E, j, k, hj.swap, ⟨hp, h2.st.calm c0 c1, h2.list, h2.bad⟩, ⟨hp, ?_, hW, hb⟩⟩
    rw [hW] at hst
    exact hst
  · injection e1 with e1 _
    cases e1
theorem pl_open2 {w0 w : World} {d f g : Nat} (ht : Tab w0) (hg : Good w0) (h : DF w0 w d D.new (fun _ => False)) (hA : Apart f g) :
    Calls Tryz.prog 9 #[.pointer (some ⟨d, 0, none⟩), .int .i64 (f : Int)] w fun e w' => ∃ b, e = .returned (.tuple #[.pointer (some ⟨b, 0, none⟩), .int .i64 0]) ∧ Hid (∃ X j, JF w0 w' d b f X j (fun _ => False) ∧ PJ X f j [] ∧ Jn.Two X g ⟨0, [], false⟩ (fun m => m = [])) := by
  obtain ⟨X, j, e1, e2⟩ := PJ.new hA.lf
  have hne := hA.ne
  have h2 : Jn.Two D.new g ⟨0, [], false⟩ (fun m => m = []) := Jn.Two.new
  have c0 := Jn.open_calm (i := g) (f := f) h2.inv hA.lf (by have := hA.lg; omega) hne.1 hne.2.1
  have c1 := Jn.open_calm (i := g + 1) (f := f) h2.inv hA.lf (by have := hA.lg; omega) hne.2.2 (by omega)
  rw [e1] at c0 c1
  have q := jopen_c ht hg h (f : Int) (by have := hA.lf; omega)
  rw [e1] at q
  refine q.mono ?_
  rintro e w' ⟨hk, ⟨j', b, q1, rfl, q2⟩ | ⟨z, hz, q1, _⟩⟩
  · injection q1 with q1 _
    injection q1 with q1
    subst q1
    exact ⟨b, rfl, X, j, q2, e2, h2.calm c0 c1⟩
  · injection q1 with q1 _
    cases q1

theorem arg_came {w0 w : World} {v : Value} {s : List (List UInt8)} (h : SrcV w0 1 v s.length (strsV s)) (hb : RowKit.Below w0.heap.size w0 w) (F : Nat → Prop) : ArgIn w0 w F v s := ⟨h.on hb, (ArgIn.came h F).low⟩
theorem SrcV.take {w : World} {a : Option Addr} {n c : Nat} {s : List (List UInt8)} (h : SrcV w 1 (.slice a n c) s.length (strsV s)) (k : Nat) (hk : k ≤ s.length) : SrcV w 1 (.slice a k c) (s.take k).length (strsV (s.take k)) := by
  obtain ⟨a', c', h1, h2, h3, h4⟩ := h
  injection h1 with e1 e2 e3
  subst e1 e3
  have hl : (s.take k).length = k := by rw [List.length_take]; omega
  rw [hl]
  refine ⟨_, _, rfl, by simp [strsV]; omega, fun e => by have := h3 e; omega, fun ad e j u hu => h4 ad e j u ?_⟩
  have hj := (List.getElem?_eq_some_iff.1 hu).1
  simp only [strsV, List.length_map, hl] at hj
  simp only [strsV, List.getElem?_map, List.getElem?_take_of_lt hj] at hu ⊢
  exact hu
/-- 'append([]string{}, s...)' -/
theorem fresh_append (w : World) {A : Option Addr} {c N : Nat} {s : List (List UInt8)} (hN : N = s.length) (hs : SrcV (w.alloc (.cells #[] 9)) 1 (.slice A N c) s.length (strsV s)) (hl : N ≤ 1048576) :
    ∃ na nc w2, (Builtin.append_ #[32, 32] 32 #[.slice (some ⟨w.heap.size, 0, none⟩) 0 0, .slice A N c]).run Tryz.prog (w.alloc (.cells #[] 9)) = .ok (.slice na N nc) w2 ∧ N ≤ nc ∧ w2.ownsRow w.heap.size 9 1 (.slice na N nc) N (strsV s) ∧ RowKit.Below w.heap.size w w2 := by
  subst hN
  obtain ⟨i0, hi, hz0, hz1, hz2⟩ := info_parts infoStr5
  have hown : (w.alloc (.cells #[] 9)).ownsRow w.heap.size 9 1 (.slice (some ⟨w.heap.size, 0, none⟩) 0 0) 0 [] := World.ownsRow_made w #[] 0 (Nat.le_refl _) (Nat.zero_le _) rfl
  obtain ⟨a', c', h1, h2, h3, h4⟩ := hs
  injection h1 with e1 e2 e3
  subst e1 e3
  obtain ⟨v', w2, r1, r2, r3, r4⟩ := run_append_any_own (P := Tryz.prog) (w.alloc (.cells #[] 9)) w.heap.size 32 32 9 i0 (.string ⟨#[]⟩) 1 16 Tryz.underlying32 hi hz0 hz1 hz2 rfl (by decide) _ 0 [] hown
    A s.length c (strsV s) h2 (fun h0 => by
      cases A with
      | none => have := h3 rfl; omega
      | some ad => exact ⟨ad, rfl, h4 ad rfl⟩) (strsV_one s) (by unfold maxLen; omega) (by omega) (by simp)
  rw [Nat.zero_add, List.nil_append] at r2
  obtain ⟨na, nc, rfl, hc, _⟩ := own_shape (own_base r2)
  exact ⟨na, nc, w2, r1, hc, r2, ((Below.refl _ w).alloc (Nat.le_refl _) _).grown r3 (by simp) (fun k hk => by have := (hown.lt k hk).1; omega)⟩
/-- 'append(want, s...)' -/
theorem want_runP {w0 w : World} {d b c f g : Nat} {l m : List (List UInt8)} {na : Option Addr} {nc N : Nat} {B : List (List UInt8)} (hN : N = B.length) (h : PP w0 w d b c f g l m (fun k => (Value.slice na N nc).ownBlock = some k)) (hown : w.ownsRow w0.heap.size 9 1 (.slice na N nc) N (strsV B)) {va : Option Addr} {vc : Nat} {s : List (List UInt8)} (hv : SrcV w 1 (.slice va s.length vc) s.length (strsV s)) (hlen : N + s.length ≤ 1048576) :
    ∃ na' nc' M w2, M = N + s.length ∧ (Builtin.append_ #[32, 32] 32 #[.slice na N nc, .slice va s.length vc]).run Tryz.prog w = .ok (.slice na' M nc') w2 ∧ w2.ownsRow w0.heap.size 9 1 (.slice na' M nc') M (strsV (B ++ s)) ∧ PP w0 w2 d b c f g l m (fun k => (Value.slice na' M nc').ownBlock = some k) := by
  subst hN
  obtain ⟨i0, hi, hz0, hz1, hz2⟩ := info_parts infoStr5
  obtain ⟨a', c', h1, h2, h3, h4⟩ := hv
  injection h1 with e1 e2 e3
  subst e1 e3
  obtain ⟨v', w2, r1, r2, r3, r4⟩ := run_append_any_own (P := Tryz.prog) w w0.heap.size 32 32 9 i0 (.string ⟨#[]⟩) 1 16 Tryz.underlying32 hi hz0 hz1 hz2 rfl (by decide) (.slice na B.length nc) B.length (strsV B) hown
    va s.length vc (strsV s) h2 (fun h0 => by
      cases va with
      | none => have := h3 rfl; omega
      | some ad => exact ⟨ad, rfl, h4 ad rfl⟩) (strsV_one s) (by unfold maxLen; omega) (by omega) h.base.size
  have e : strsV (B ++ s) = strsV B ++ strsV s := by simp [strsV]
  have hk : Kept (fun k => (Value.slice na B.length nc).ownBlock = some k) w w2 := Kept.grown r3 (fun _ e => e)
  have hj := h.turn (G := fun k => v'.ownBlock = some k) hk (fun k _ e => e) (fun k e => (hown.lt k e).1) (fun k e => by
    rcases r4 with r4 | r4
    · rw [r4] at e; exact Or.inl e
    · rw [r4] at e
      injection e with e
      subst e
      exact Or.inr ⟨Nat.le_refl _, (r2.lt _ r4).2⟩)
  obtain ⟨na', nc', rfl, _⟩ := own_shape (own_base r2)
  refine ⟨na', nc', B.length + s.length, w2, rfl, r1, ?_, hj⟩
  rw [e]
  exact r2
/-- Such two journals, and a list that the law keeps. -/
def PW (w0 w : World) (d b c f g : Nat) (l m : List (List UInt8)) (wv : Value) (N : Nat) (W : List (List UInt8)) : Prop := PP w0 w d b c f g l m (fun k => wv.ownBlock = some k) ∧ w.ownsRow w0.heap.size 9 1 wv N (strsV W)
theorem PW.below {w0 w w' : World} {d b c f g N : Nat} {l m W : List (List UInt8)} {wv : Value} (h : PW w0 w d b c f g l m wv N W) (hb : RowKit.Below w.heap.size w w') : PW w0 w' d b c f g l m wv N W :=
  ⟨h.1.below hb (fun _ e => Or.inl e), own_kept (S := fun _ => False) h.2 (Kept.below hb) (fun _ _ e => e)⟩
theorem PW.held {w0 w w' : World} {d b c f g N : Nat} {l m l' m' W : List (List UInt8)} {wv : Value} (h : PW w0 w d b c f g l m wv N W) (h1 : PP w0 w' d b c f g l' m' (fun k => wv.ownBlock = some k)) (h2 : Held (fun k => wv.ownBlock = some k) w w') : PW w0 w' d b c f g l' m' wv N W :=
  ⟨h1, own_kept h.2 h2 (fun _ e e' => e' e)⟩

/-- The string of 2^20 bytes. -/
theorem mega_str : ∃ (O : Obj) (Z : List UInt8), Z.length = 1048576 ∧ (∀ W : World, (Instr.makeSlice 47 (.int .i64 1048576) (.int .i64 1048576)).run Tryz.prog W = .ok (.slice (some ⟨W.heap.size, 0, none⟩) 1048576 1048576) (W.alloc O)) ∧
    (∀ W : World, (convert 47 9 (.slice (some ⟨W.heap.size, 0, none⟩) 1048576 1048576)).run Tryz.prog (W.alloc O) = .ok (.string ⟨Z.toArray⟩) (W.alloc O)) := by
  obtain ⟨n, hn⟩ : ∃ n : Nat, n = 1048576 := ⟨_, rfl⟩
  have hi : (1048576 : Int) = (n : Int) := by omega
  rw [← hn, hi]
  refine ⟨.cells (madeCells #[.int .u8 0] n) 5, List.replicate n 0, by simp, fun W => run_make_row' (P := Tryz.prog) 47 5 (.int .u8 0) 1 Tryz.underlying47 infoU8 rfl .i64 .i64 n (by omega) (by omega) W, fun W => ?_⟩
  have h := conv_src (some ⟨W.heap.size, 0, none⟩) n (List.replicate n 0) (W.alloc (.cells (madeCells #[.int .u8 0] n) 5)) (fun _ => ⟨W.heap.size, 0, rfl, fun j u hu => by
    rw [bytesV_zero] at hu
    have hj := (List.getElem?_eq_some_iff.1 hu).1
    rw [List.length_replicate] at hj
    rw [List.getElem?_replicate, if_pos hj] at hu
    have := (World.rowIs_made W (.int .u8 0) n 5).cell hj
    rw [Nat.zero_add, this]
    exact hu⟩)
  rw [List.length_replicate] at h
  exact h
theorem pp_mega {w0 w : World} {d b c f g : Nat} {l m : List (List UInt8)} {F : Nat → Prop} (ht : Tab w0) (hg : Good w0) (h : PP w0 w d b c f g l m F) (hA : Apart f g) (O : Obj) (Z : List UInt8) (hZ : Z.length = 1048576) :
    Calls Tryz.prog 12 #[.pointer (some ⟨b, 0, none⟩), .slice (some ⟨w.heap.size + 1, 0, none⟩) 1 1] ((w.alloc O).alloc (.cells #[.string ⟨Z.toArray⟩] 9)) fun e w' => e = .returned (.int .i64 6) ∧ Hid (PP w0 w' d b c f g l m F ∧ Held F w w') := by
  have hb : RowKit.Below w.heap.size w (w.alloc O) := (Below.refl _ w).alloc (Nat.le_refl _) O
  have hlen : 1048576 < (Jn.form (l ++ [Z])).length := by
    have h1 := Jn.eText_len Z
    have h2 : (Jn.form (l ++ [Z])).length = (Jn.form l).length + (Wire.eText Z).length := by rw [Jn.form_append, List.length_append]; simp [Jn.form]
    omega
  have hu : Z.length ≤ 1000000000 := by omega
  clear hZ
  have hsz : (w.alloc O).heap.size = w.heap.size + 1 := by simp
  have q := pp_full_lit ht hg (h.below hb (fun _ e => Or.inl e)) hA [Z] (fun x hx => by rw [List.mem_singleton.1 hx]; exact hu) (by simp) (List.cons_ne_nil _ _) hlen
  rw [hsz] at q
  refine q.mono ?_
  rintro e w' ⟨rfl, r⟩
  exact ⟨rfl, r.out.1, (Held.below hb).trans r.out.2⟩
end Go.Proofs.YtljgfnglknpfaaaGreatDoor
