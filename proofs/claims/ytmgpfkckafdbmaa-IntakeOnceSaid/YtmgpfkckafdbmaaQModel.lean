/-
  The table of producers of chapter 10 as functions on lists: what a record comes to, what is stored, what a fence does; and what always holds of it. Nothing of the program stands here. No condition.
-/
namespace Go.Proofs.Ytmgpfkckafdbmaa
namespace Pq

/-- A producer of a table: its number, its epoch, the number that comes next, the last positions. -/
structure P where
  id : Int
  ep : Int
  nx : Int
  last : List Int
deriving DecidableEq
def inB (n : Int) : Prop := 0 ≤ n ∧ n ≤ 1099511627776
instance (n : Int) : Decidable (inB n) := inferInstanceAs (Decidable (_ ∧ _))
def inA (n : Int) : Prop := 0 ≤ n ∧ n ≤ 1099511627775
instance (n : Int) : Decidable (inA n) := inferInstanceAs (Decidable (_ ∧ _))
/-- Positions that ascend from behind a number. -/
def Asc : Int → List Int → Prop
  | _, [] => True
  | m, x :: l => m < x ∧ inB x ∧ Asc x l
structure OkP (p : P) : Prop where
  ep : inB p.ep
  nx : inB p.nx
  len : (p.last.length : Int) = min p.nx 20
  asc : Asc (-1) p.last
def Tab : Int → List P → Prop
  | _, [] => True
  | m, p :: s => m < p.id ∧ inB p.id ∧ OkP p ∧ Tab p.id s
def Right (s : List P) : Prop := s.length ≤ 50 ∧ Tab (-1) s
def find : List P → Int → Option P
  | [], _ => none
  | p :: s, a => if p.id = a then some p else find s a
def get (s : List P) (a : Int) : P := (find s a).getD ⟨a, 0, 0, []⟩
def set : List P → P → List P
  | [], p => [p]
  | q :: s, p => if p.id < q.id then p :: q :: s else if q.id = p.id then p :: s else q :: set s p
def look (s : List P) (a e q : Int) : Int × Int :=
  if ¬ (inA a ∧ inA e ∧ inA q) then (0, 1)
  else if e < (get s a).ep then (0, 18)
  else if (get s a).ep < e then (0, 25)
  else if (get s a).nx < q then (0, 19)
  else if find s a = none ∧ 50 ≤ s.length then (0, 6)
  else if q = (get s a).nx then (0, 0)
  else if (get s a).last.length < ((get s a).nx - q).toNat then (-1, 5)
  else ((get s a).last.getD ((get s a).last.length - ((get s a).nx - q).toNat) 0, 5)
/-- The last twenty. -/
def keep (l : List Int) : List Int := l.drop (l.length - 20)
def below (l : List Int) (pos : Int) : Prop := ∀ x, l.getLast? = some x → x < pos
instance (l : List Int) (pos : Int) : Decidable (below l pos) := by
  unfold below
  cases h : l.getLast? with
  | none => exact isTrue (fun x e => by cases e)
  | some y =>
    by_cases q : y < pos
    · exact isTrue (fun x e => by injection e with e; rw [← e]; exact q)
    · exact isFalse (fun k => q (k y rfl))
def more (p : P) (pos : Int) : P := ⟨p.id, p.ep, p.nx + 1, keep (p.last ++ [pos])⟩
def put (s : List P) (a e q pos : Int) : List P :=
  if (look s a e q).2 = 0 ∧ inB pos ∧ below (get s a).last pos then set s (more (get s a) pos) else s
def fence (s : List P) (a : Int) : Option (List P × Int) × Int :=
  if ¬ inA a ∨ (get s a).ep = 1099511627776 then (none, 1)
  else if find s a = none ∧ 50 ≤ s.length then (none, 6)
  else (some (set s ⟨a, (get s a).ep + 1, 0, []⟩, (get s a).ep + 1), 0)

/-! ### Tables -/
theorem find_id : ∀ {s : List P} {a : Int} {p : P}, find s a = some p → p.id = a ∧ p ∈ s
  | [], _, _, h => by cases h
  | q :: s, a, p, h => by
    unfold find at h
    split at h
    · next k =>
      injection h with h
      subst h
      exact ⟨k, List.mem_cons_self ..⟩
    · obtain ⟨h1, h2⟩ := find_id h
      exact ⟨h1, List.mem_cons_of_mem _ h2⟩
theorem get_id (s : List P) (a : Int) : (get s a).id = a := by
  unfold get
  cases h : find s a with
  | none => rfl
  | some p => exact (find_id h).1
theorem find_set_same : ∀ (s : List P) (p : P), find (set s p) p.id = some p
  | [], p => by unfold set find; rw [if_pos rfl]
  | q :: s, p => by
    unfold set
    split
    · unfold find
      rw [if_pos rfl]
    · split
      · unfold find
        rw [if_pos rfl]
      · next h1 h2 =>
        unfold find
        rw [if_neg h2]
        exact find_set_same s p
theorem find_set_ne : ∀ (s : List P) (p : P) {a : Int}, a ≠ p.id → find (set s p) a = find s a
  | [], p, a, h => by
    unfold set find
    rw [if_neg (fun e => h e.symm)]
    rfl
  | q :: s, p, a, h => by
    unfold set
    split
    · conv => lhs; unfold find
      rw [if_neg (fun e => h e.symm)]
    · split
      · next h1 h2 =>
        unfold find
        rw [if_neg (fun e => h e.symm), if_neg (fun e => h (by rw [← e, h2]))]
      · unfold find
        split
        · rfl
        · exact find_set_ne s p h
theorem get_set_same (s : List P) (p : P) : get (set s p) p.id = p := by unfold get; rw [find_set_same]; rfl
theorem get_set_ne (s : List P) (p : P) {a : Int} (h : a ≠ p.id) : get (set s p) a = get s a := by unfold get; rw [find_set_ne s p h]
theorem Tab.low : ∀ {m m' : Int} {s : List P}, Tab m s → m' ≤ m → Tab m' s
  | _, _, [], _, _ => trivial
  | _, _, _ :: _, h, hm => ⟨Int.lt_of_le_of_lt hm h.1, h.2⟩
theorem set_tab : ∀ {m : Int} {s : List P} {p : P}, Tab m s → m < p.id → inB p.id → OkP p → Tab m (set s p)
  | m, [], p, _, h1, h2, h3 => ⟨h1, h2, h3, trivial⟩
  | m, q :: s, p, h, h1, h2, h3 => by
    obtain ⟨g1, g2, g3, g4⟩ := h
    unfold set
    split
    · next k => exact ⟨h1, h2, h3, k, g2, g3, g4⟩
    · split
      · next k1 k2 => exact ⟨h1, h2, h3, by rw [← k2]; exact g4⟩
      · next k1 k2 => exact ⟨g1, g2, g3, set_tab g4 (by omega) h2 h3⟩
theorem Tab.mem : ∀ {m : Int} {s : List P} {p : P}, Tab m s → p ∈ s → m < p.id ∧ inB p.id ∧ OkP p
  | m, q :: s, p, h, hp => by
    obtain ⟨g1, g2, g3, g4⟩ := h
    rcases List.mem_cons.1 hp with e | e
    · rw [e]
      exact ⟨g1, g2, g3⟩
    · obtain ⟨k1, k2, k3⟩ := Tab.mem g4 e
      exact ⟨Int.lt_trans g1 k1, k2, k3⟩
theorem find_low : ∀ {m : Int} {s : List P} {a : Int}, Tab m s → a ≤ m → find s a = none
  | _, [], _, _, _ => rfl
  | m, q :: s, a, h, ha => by
    obtain ⟨g1, g2, g3, g4⟩ := h
    unfold find
    rw [if_neg (by omega)]
    exact find_low g4 (by omega)
theorem set_len : ∀ {m : Int} {s : List P} {p : P}, Tab m s → (set s p).length = if find s p.id = none then s.length + 1 else s.length
  | m, [], p, _ => by unfold set find; simp
  | m, q :: s, p, h => by
    obtain ⟨g1, g2, g3, g4⟩ := h
    unfold set
    split
    · next k =>
      have : find (q :: s) p.id = none := by
        unfold find
        rw [if_neg (by omega)]
        exact find_low g4 (by omega)
      rw [if_pos this]
      simp
    · split
      · next k1 k2 =>
        have : find (q :: s) p.id = some q := by unfold find; rw [if_pos k2]
        rw [this, if_neg (by simp)]
        simp
      · next k1 k2 =>
        have : find (q :: s) p.id = find s p.id := by
          conv => lhs; unfold find
          rw [if_neg k2]
        rw [this, List.length_cons, set_len g4]
        split <;> simp
theorem okP_new (a : Int) {e : Int} (h : inB e) : OkP ⟨a, e, 0, []⟩ := ⟨h, ⟨Int.le_refl _, by show (0 : Int) ≤ _; omega⟩, rfl, trivial⟩
theorem right_get {s : List P} (h : Right s) (a : Int) : OkP (get s a) := by
  unfold get
  cases k : find s a with
  | none => exact okP_new a ⟨by omega, by omega⟩
  | some p => exact (Tab.mem h.2 (find_id k).2).2.2
theorem right_set {s : List P} (h : Right s) {p : P} (h1 : inB p.id) (h2 : OkP p) (h3 : ¬ (find s p.id = none ∧ 50 ≤ s.length)) : Right (set s p) := by
  refine ⟨?_, set_tab h.2 (by have := h1.1; omega) h1 h2⟩
  rw [set_len h.2]
  have := h.1
  split
  · next k =>
    have : ¬ 50 ≤ s.length := fun q => h3 ⟨k, q⟩
    omega
  · exact this

/-! ### Positions -/
theorem Asc.low : ∀ {m m' : Int} {l : List Int}, Asc m l → m' ≤ m → Asc m' l
  | _, _, [], _, _ => trivial
  | _, _, _ :: _, h, hm => ⟨Int.lt_of_le_of_lt hm h.1, h.2⟩
theorem Asc.app : ∀ {m : Int} {l : List Int} {x : Int}, Asc m l → m < x → below l x → inB x → Asc m (l ++ [x])
  | _, [], _, _, h1, _, h3 => ⟨h1, h3, trivial⟩
  | m, y :: l, x, h, h1, h2, h3 => by
    obtain ⟨g1, g2, g3⟩ := h
    cases l with
    | nil => exact ⟨g1, g2, h2 y rfl, h3, trivial⟩
    | cons z l =>
      have hb : below (z :: l) x := fun u hu => h2 u (by rw [List.getLast?_cons_cons]; exact hu)
      refine ⟨g1, g2, Asc.app g3 ?_ hb h3⟩
      have : ∀ {m : Int} {l : List Int} {u : Int}, Asc m l → l.getLast? = some u → m < u := by
        intro m l
        induction l generalizing m with
        | nil => intro u _ h; cases h
        | cons v l ih =>
          intro u h hu
          cases l with
          | nil =>
            injection hu with hu
            rw [← hu]
            exact h.1
          | cons w l =>
            rw [List.getLast?_cons_cons] at hu
            exact Int.lt_trans h.1 (ih h.2.2 hu)
      obtain ⟨u, hu⟩ : ∃ u, (z :: l).getLast? = some u := ⟨_, List.getLast?_eq_some_getLast (by simp)⟩
      exact Int.lt_trans (this g3 hu) (hb u hu)
theorem Asc.drop : ∀ {m : Int} {l : List Int}, Asc m l → ∀ n : Nat, Asc m (l.drop n)
  | _, _, h, 0 => h
  | _, [], _, _ + 1 => trivial
  | _, _ :: _, h, n + 1 => Asc.low (Asc.drop h.2.2 n) (Int.le_of_lt h.1)
theorem keep_len (l : List Int) : (keep l).length = min l.length 20 := by unfold keep; rw [List.length_drop]; omega
theorem right_more {s : List P} (h : Right s) {a pos : Int} (h1 : inB pos) (h2 : below (get s a).last pos) (h3 : (get s a).nx < 1099511627776) : OkP (more (get s a) pos) := by
  obtain ⟨g1, g2, g3, g4⟩ := right_get h a
  refine ⟨g1, ?_, ?_, (g4.app (by have := h1.1; omega) h2 h1).drop _⟩
  · unfold inB at g2 ⊢
    unfold more
    exact ⟨by show 0 ≤ _ + 1; omega, by show _ + 1 ≤ _; omega⟩
  · show ((keep ((get s a).last ++ [pos])).length : Int) = min ((get s a).nx + 1) 20
    rw [keep_len, List.length_append, List.length_singleton]
    have := g2.1
    omega

/-! ### What a record comes to -/
theorem look_ok {s : List P} {a e q : Int} (h : (look s a e q).2 = 0) : inA a ∧ inA e ∧ inA q ∧ e = (get s a).ep ∧ q = (get s a).nx ∧ ¬ (find s a = none ∧ 50 ≤ s.length) ∧ look s a e q = (0, 0) := by
  unfold look at h ⊢
  split at h
  · cases h
  · next k1 =>
    have k1 : inA a ∧ inA e ∧ inA q := Decidable.not_not.1 k1
    rw [if_neg (fun f => f k1)]
    split at h
    · cases h
    · next k2 =>
      rw [if_neg k2]
      split at h
      · cases h
      · next k3 =>
        rw [if_neg k3]
        split at h
        · cases h
        · next k4 =>
          rw [if_neg k4]
          split at h
          · cases h
          · next k5 =>
            rw [if_neg k5]
            split at h
            · next k6 =>
              rw [if_pos k6]
              exact ⟨k1.1, k1.2.1, k1.2.2, by omega, k6, k5, rfl⟩
            · split at h <;> cases h
theorem put_right {s : List P} (h : Right s) (a e q pos : Int) : Right (put s a e q pos) := by
  unfold put
  split
  · next k =>
    obtain ⟨h1, h2, h3, _, h5, h6, _⟩ := look_ok k.1
    have hid : (more (get s a) pos).id = a := get_id s a
    exact right_set h (by rw [hid]; unfold inA at h1; unfold inB; omega) (right_more h k.2.1 k.2.2 (by rw [← h5]; unfold inA at h3; omega)) (by rw [hid]; exact h6)
  · exact h
theorem fence_ok {s t : List P} {a ep z : Int} (h : fence s a = (some (t, ep), z)) : inA a ∧ (get s a).ep ≠ 1099511627776 ∧ ¬ (find s a = none ∧ 50 ≤ s.length) ∧ t = set s ⟨a, (get s a).ep + 1, 0, []⟩ ∧ ep = (get s a).ep + 1 ∧ z = 0 := by
  unfold fence at h
  split at h
  · injection h with h; cases h
  · next k1 =>
    split at h
    · injection h with h; cases h
    · next k2 =>
      injection h with h1 h2
      injection h1 with h1
      injection h1 with h1 h3
      have k3 : inA a := Decidable.not_not.1 (fun f => k1 (Or.inl f))
      exact ⟨k3, fun f => k1 (Or.inr f), k2, h1.symm, h3.symm, h2.symm⟩
theorem fence_right {s t : List P} {a ep z : Int} (h : Right s) (hf : fence s a = (some (t, ep), z)) : Right t := by
  obtain ⟨h1, h2, h3, h4, _, _⟩ := fence_ok hf
  rw [h4]
  refine right_set h (by unfold inA at h1; unfold inB; show 0 ≤ a ∧ a ≤ _; omega) (okP_new a ?_) h3
  obtain ⟨g1, _, _, _⟩ := right_get h a
  unfold inB at g1 ⊢
  omega
/-- What one producer does changes nothing for others. -/
theorem look_same {s t : List P} {a e q : Int} (h1 : find t a = find s a) (h2 : t.length < 50) (h3 : s.length < 50) : look t a e q = look s a e q := by
  have hg : get t a = get s a := by unfold get; rw [h1]
  unfold look
  rw [hg, h1]
  have e1 : (find s a = none ∧ 50 ≤ t.length) = (find s a = none ∧ 50 ≤ s.length) := by
    apply propext
    constructor <;> (rintro ⟨_, q⟩; omega)
  simp only [e1]
theorem find_put {s : List P} {a b e q pos : Int} (h : a ≠ b) : find (put s b e q pos) a = find s a := by
  unfold put
  split
  · exact find_set_ne s _ (by rw [show (more (get s b) pos).id = b from get_id s b]; exact h)
  · rfl
theorem put_len {s : List P} (h : Right s) (a e q pos : Int) : (put s a e q pos).length ≤ s.length + 1 := by
  unfold put
  split
  · rw [set_len h.2]
    split <;> omega
  · omega
end Pq
end Go.Proofs.Ytmgpfkckafdbmaa
