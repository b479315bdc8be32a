/-
  CellLasts: what the law holds in the midst of a round: the disk, the cell, the operation, the strings that the value may be.
-/
import Derived.Test.YtninopllfbiccaaDoorCFrame
namespace Go.Proofs.YtninopllfbiccaaDoor
set_option maxRecDepth 100000
open Go Go.RowKit Go.Maps Dk

def StrsB (w0 w : World) (v : Value) (M : List (List UInt8)) : Prop := w.ownsRow w0.heap.size 9 1 v M.length (strsV M)
def own1 (mv : Value) (ob : Nat) : Nat → Prop := fun k => mv.ownBlock = some k ∨ k = ob
structure Mid (w0 w : World) (d b : Nat) (X : D) (c : Ck.C) (mv : Value) (M : List (List UInt8)) (ob : Nat) (oc : Array Value) (P : Nat → List UInt8 → Prop) : Prop where
  cf : CF w0 w d b 3 X c (own1 mv ob)
  st : Ck.St X 3 c P
  strs : StrsB w0 w mv M
  op : w.heap[ob]? = some (.cells oc 38 (0, 0))
  obl : w0.heap.size ≤ ob
/-- At the head of a round. -/
structure RL (w0 w : World) (d b : Nat) (mv : Value) (M : List (List UInt8)) (P : Nat → List UInt8 → Prop) : Prop where
  ex : ∃ X c, CF w0 w d b 3 X c (fun k => mv.ownBlock = some k) ∧ Ck.St X 3 c P
  strs : StrsB w0 w mv M
theorem StrsB.kept {w0 w w' : World} {v : Value} {M : List (List UInt8)} {T : Nat → Prop} (h : StrsB w0 w v M) (hk : Kept T w w') (hn : ∀ k, v.ownBlock = some k → ¬ T k) : StrsB w0 w' v M := own_kept h hk hn
theorem StrsB.strs {w0 w : World} {v : Value} {M : List (List UInt8)} (h : StrsB w0 w v M) : Strs w v M := own_base h
theorem StrsB.nil (w0 w : World) : StrsB w0 w (.slice none 0 0) [] := ⟨rfl, Or.inl ⟨rfl, rfl⟩⟩
theorem RL.base {w0 w : World} {d b : Nat} {mv : Value} {M : List (List UInt8)} {P : Nat → List UInt8 → Prop} (h : RL w0 w d b mv M P) : Below w0.heap.size w0 w := by
  obtain ⟨⟨X, c, h1, _⟩, _⟩ := h
  exact h1.base
theorem RL.mono {w0 w : World} {d b : Nat} {mv : Value} {M : List (List UInt8)} {P Q : Nat → List UInt8 → Prop} (h : RL w0 w d b mv M P) (hPQ : ∀ k v, P k v → Q k v) : RL w0 w d b mv M Q := by
  obtain ⟨⟨X, c, h1, h2⟩, h3⟩ := h
  exact ⟨⟨X, c, h1, h2.mono hPQ⟩, h3⟩
theorem RL.mid {w0 w : World} {d b : Nat} {mv : Value} {M : List (List UInt8)} {P : Nat → List UInt8 → Prop} (h : RL w0 w d b mv M P) (oc : Array Value) : ∃ X c, Mid w0 (w.alloc (.cells oc 38)) d b X c mv M w.heap.size oc P := by
  obtain ⟨⟨X, c, h1, h2⟩, h3⟩ := h
  have hb : Below w.heap.size w (w.alloc (.cells oc 38)) := (Below.refl _ w).alloc (Nat.le_refl _) _
  refine ⟨X, c, h1.below hb (fun k e => ?_), h2, h3.kept (Kept.below (S := fun _ => False) hb) (fun _ _ e => e), heap_alloc_new w _, h1.base.size⟩
  rcases e with e | e
  · exact Or.inl e
  · exact Or.inr (by subst e; simp)
theorem Mid.after {w0 w w' : World} {d b b' : Nat} {X X' : D} {c c' : Ck.C} {mv : Value} {M : List (List UInt8)} {ob : Nat} {oc : Array Value} {P Q : Nat → List UInt8 → Prop} (h : Mid w0 w d b X c mv M ob oc P) (h1 : CF w0 w' d b' 3 X' c' (own1 mv ob)) (h2 : Held (own1 mv ob) w w') (h3 : Ck.St X' 3 c' Q) : Mid w0 w' d b' X' c' mv M ob oc Q :=
  ⟨h1, h3, h.strs.kept h2 (fun _ e e' => e' (Or.inl e)), h2.heap h.op (fun e => e (Or.inr rfl)), h.obl⟩
theorem Mid.rl {w0 w : World} {d b : Nat} {X : D} {c : Ck.C} {mv : Value} {M : List (List UInt8)} {ob : Nat} {oc : Array Value} {P : Nat → List UInt8 → Prop} (h : Mid w0 w d b X c mv M ob oc P) : RL w0 w d b mv M P :=
  ⟨⟨X, c, h.cf.fewer (fun _ e => Or.inl e), h.st⟩, h.strs⟩
theorem Mid.mono {w0 w : World} {d b : Nat} {X : D} {c : Ck.C} {mv : Value} {M : List (List UInt8)} {ob : Nat} {oc : Array Value} {P Q : Nat → List UInt8 → Prop} (h : Mid w0 w d b X c mv M ob oc P) (hPQ : ∀ k v, P k v → Q k v) : Mid w0 w d b X c mv M ob oc Q :=
  ⟨h.cf, h.st.mono hPQ, h.strs, h.op, h.obl⟩
theorem Mid.nil {w0 w : World} {d b : Nat} {X : D} {c : Ck.C} {mv : Value} {M : List (List UInt8)} {ob : Nat} {oc : Array Value} {P : Nat → List UInt8 → Prop} (h : Mid w0 w d b X c mv M ob oc P) : Mid w0 w d b X c (.slice none 0 0) [] ob oc P :=
  ⟨h.cf.fewer (fun _ e => e.elim (fun e => by cases e) Or.inr), h.st, StrsB.nil _ _, h.op, h.obl⟩
theorem Mid.cell {w0 w : World} {d b : Nat} {X : D} {c : Ck.C} {mv : Value} {M : List (List UInt8)} {ob : Nat} {oc : Array Value} {P : Nat → List UInt8 → Prop} (h : Mid w0 w d b X c mv M ob oc P) (o : Nat) : w.cell? ⟨ob, o, none⟩ = oc[o]? := Lib.cell_of_heap h.op o

theorem mid_set {w0 w : World} {d b : Nat} {X : D} {c : Ck.C} {mv : Value} {M : List (List UInt8)} {ob : Nat} {oc : Array Value} {P : Nat → List UInt8 → Prop} (ht : Tab w0) (h : Mid w0 w d b X c mv M ob oc P) (s : List UInt8) (hs : s.length ≤ 65536) :
    ∃ (r : Int) (X' : D) (c' : Ck.C), (r = 0 → Ck.St X' 3 c' (fun k v => k ≠ 0 ∧ v = s)) ∧ Calls Tryd.prog 14 #[.pointer (some ⟨b, 0, none⟩), .string ⟨s.toArray⟩] w fun e w' => e = .returned (.int .i64 r) ∧ w'.cell? ⟨ob, 1, none⟩ = oc[1]? ∧ Hid (Mid w0 w' d b X' c' mv M ob oc (fun k v => P k v ∨ (k ≠ 0 ∧ v = s))) := by
  have hd := Ck.setM_done h.st (by omega) hs
  refine ⟨(Ck.setM X 3 c s).2.2, (Ck.setM X 3 c s).1, (Ck.setM X 3 c s).2.1, fun hr => (hd.good hr).1, (cf_set ht h.cf in3 s).mono ?_⟩
  rintro e w' ⟨rfl, g⟩
  have hm := h.after g.out.1 g.out.2 hd.st
  exact ⟨rfl, hm.cell 1, hm⟩
theorem mid_lose {w0 w : World} {d b : Nat} {X : D} {c : Ck.C} {mv : Value} {M : List (List UInt8)} {ob : Nat} {oc : Array Value} {P : Nat → List UInt8 → Prop} (h : Mid w0 w d b X c mv M ob oc P) (n : Int) (hn : n ≤ 9223372036854775807) :
    Calls Tryd.prog 16 #[.pointer (some ⟨d, 0, none⟩), .int .i64 n] w fun e w' => e = .returned (.tuple #[]) ∧ Hid (RL w0 w' d b mv M P) := by
  refine (h.cf.op (fun S g _ => lose_op n hn S g)).mono ?_
  rintro e w' ⟨rfl, g⟩
  exact ⟨rfl, (h.after g.out.1 g.out.2 (h.st.lose n)).rl⟩
theorem mid_arm {w0 w : World} {d b : Nat} {X : D} {c : Ck.C} {mv : Value} {M : List (List UInt8)} {ob : Nat} {oc : Array Value} {P : Nat → List UInt8 → Prop} (h : Mid w0 w d b X c mv M ob oc P) (n : Int) (hn : n ≤ 9223372036854775807) (v : Value) (l : List Int) (hk : KeepIn w0 v l) :
    Calls Tryd.prog 18 #[.pointer (some ⟨d, 0, none⟩), .int .i64 n, v] w fun e w' => e = .returned (.tuple #[]) ∧ Hid (RL w0 w' d b mv M P) := by
  refine (h.cf.op (hk.arm h.cf.base n hn)).mono ?_
  rintro e w' ⟨rfl, g⟩
  exact ⟨rfl, (h.after g.out.1 g.out.2 (h.st.arm n l)).rl⟩
theorem mid_again {w0 w : World} {d b : Nat} {X : D} {c : Ck.C} {mv : Value} {M : List (List UInt8)} {ob : Nat} {oc : Array Value} {P : Nat → List UInt8 → Prop} (ht : Tab w0) (h : Mid w0 w d b X c mv M ob oc P) (v : Value) (l : List Int) (hk : KeepIn w0 v l) :
    ∃ (k : Nat) (s : List UInt8) (X' : D), P k s ∧ (k = 0 → s = []) ∧ Calls Tryd.prog 20 #[.pointer (some ⟨d, 0, none⟩), v] w fun e w' => ∃ b', e = .returned (.tuple #[.pointer (some ⟨b', 0, none⟩), .int .i64 0]) ∧ Hid (Mid w0 w' d b' X' ⟨k, s, false⟩ mv M ob oc (fun k' v' => k' = k ∧ v' = s)) := by
  obtain ⟨k, s, e1, e2, e3, e4⟩ := h.st.again (by omega) l
  refine ⟨k, s, (X.crash l).start, e2, e3, (cf_again ht h.cf.toDF v l hk e1).mono ?_⟩
  rintro e w' ⟨b', rfl, g⟩
  exact ⟨b', rfl, h.after g.out.1 g.out.2 e4⟩
theorem mid_get {w0 w : World} {d b : Nat} {X : D} {k : Nat} {s : List UInt8} {u : Bool} {mv : Value} {M : List (List UInt8)} {ob : Nat} {oc : Array Value} {P : Nat → List UInt8 → Prop} (h : Mid w0 w d b X ⟨k, s, u⟩ mv M ob oc P) :
    Calls Tryd.prog 23 #[.pointer (some ⟨b, 0, none⟩)] w fun e w' => e = .returned (.tuple #[.string ⟨s.toArray⟩, .bool (k != 0)]) ∧ Hid (Mid w0 w' d b X ⟨k, s, u⟩ mv M ob oc P) := by
  refine (cf_get h.cf).mono ?_
  rintro e w' ⟨rfl, g⟩
  exact ⟨rfl, h.after g.out.1 g.out.2 h.st⟩
theorem mid_has {w0 w : World} {d b : Nat} {X : D} {c : Ck.C} {mv : Value} {M : List (List UInt8)} {ob : Nat} {oc : Array Value} {P : Nat → List UInt8 → Prop} (h : Mid w0 w d b X c mv M ob oc P) (hM : M.length ≤ 1000) (s : List UInt8) (hs : s ∈ M) :
    Calls Tryd.prog 33 #[mv, .string ⟨s.toArray⟩] w fun e w' => e = .returned (.bool true) ∧ w' = w := by
  refine (has_c mv M hM s w h.strs.strs).mono ?_
  rintro e w' ⟨rfl, hw⟩
  rw [decide_eq_true hs]
  exact ⟨rfl, hw⟩
/-- '[]string{s}'. -/
theorem mid_fresh {w0 w : World} {d b : Nat} {X : D} {c : Ck.C} {mv : Value} {M : List (List UInt8)} {ob : Nat} {oc : Array Value} {P : Nat → List UInt8 → Prop} (h : Mid w0 w d b X c mv M ob oc P) (s : List UInt8) :
    RL w0 (w.alloc (.cells #[.string ⟨s.toArray⟩] 9)) d b (.slice (some ⟨w.heap.size, 0, none⟩) 1 1) [s] P := by
  have hb : Below w.heap.size w (w.alloc (.cells #[.string ⟨s.toArray⟩] 9)) := (Below.refl _ w).alloc (Nat.le_refl _) _
  refine ⟨⟨X, c, h.cf.below hb (fun k e => ?_), h.st⟩, rfl, Or.inr ⟨w.heap.size, 1, #[.string ⟨s.toArray⟩], rfl, h.cf.base.size, heap_alloc_new w _, Nat.le_refl _, by decide, rfl, rfl⟩⟩
  simp [Value.ownBlock] at e
  subst e
  exact Or.inr (by simp)
/-- 'append(may, s)'. -/
theorem mid_append {w0 w : World} {d b : Nat} {X : D} {c : Ck.C} {mv : Value} {M : List (List UInt8)} {ob : Nat} {oc : Array Value} {P : Nat → List UInt8 → Prop} (h : Mid w0 w d b X c mv M ob oc P) (hM : M.length ≤ 1000) (s : List UInt8) :
    ∃ v' w', (Builtin.append_ #[51, 51] 51 #[mv, .slice (some ⟨w.heap.size, 0, none⟩) 1 1]).run Tryd.prog (w.alloc (.cells #[.string ⟨s.toArray⟩] 9)) = .ok v' w' ∧ RL w0 w' d b v' (M ++ [s]) P := by
  obtain ⟨i0, hi, hz0, hz1, hz2⟩ := info_parts infoStr5
  have hb : Below w.heap.size w (w.alloc (.cells #[.string ⟨s.toArray⟩] 9)) := (Below.refl _ w).alloc (Nat.le_refl _) _
  have hown : StrsB w0 (w.alloc (.cells #[.string ⟨s.toArray⟩] 9)) mv M := h.strs.kept (Kept.below (S := fun _ => False) hb) (fun _ _ e => e)
  obtain ⟨v', w', h1, h2, h3, h4⟩ := run_append_any_own (P := Tryd.prog) (w.alloc (.cells #[.string ⟨s.toArray⟩] 9)) w0.heap.size 51 51 9 i0 (.string ⟨#[]⟩) 1 16 Tryd.underlying51 hi hz0 hz1 hz2 rfl (by decide) mv M.length (strsV M) hown
    (some ⟨w.heap.size, 0, none⟩) 1 1 [.string ⟨s.toArray⟩] rfl (fun _ => ⟨_, rfl, fun j u hu => by
      rw [Lib.add_plain, Nat.zero_add, Lib.cell_of_heap (heap_alloc_new w _)]
      cases j with
      | zero => simpa using hu
      | succ j => simp at hu⟩) (fun u hu => by
      obtain rfl : u = .string ⟨s.toArray⟩ := by simpa using hu
      rfl) (by unfold maxLen; omega) (by omega) (Nat.le_trans h.cf.base.size hb.size)
  have hk : Kept (fun k => mv.ownBlock = some k) (w.alloc (.cells #[.string ⟨s.toArray⟩] 9)) w' := Kept.grown h3 (fun _ e => e)
  have hF : CF w0 (w.alloc (.cells #[.string ⟨s.toArray⟩] 9)) d b 3 X c (own1 mv ob) := h.cf.below hb (fun _ e => Or.inl e)
  refine ⟨v', w', h1, ⟨X, c, hF.turn hk (fun k _ e => Or.inl e) (fun k e => (hown.lt k e).1) (fun k e => ?_), h.st⟩, ?_⟩
  · rcases h4 with e4 | e4
    · rw [e4] at e; exact Or.inl (Or.inl e)
    · rw [e4] at e
      injection e with e
      subst e
      exact Or.inr ⟨Nat.le_refl _, (h2.lt _ e4).2⟩
  · show w'.ownsRow _ _ _ _ _ _
    have : strsV (M ++ [s]) = strsV M ++ [.string ⟨s.toArray⟩] := by simp [strsV]
    rw [this, List.length_append]
    exact h2
end Go.Proofs.YtninopllfbiccaaDoor
