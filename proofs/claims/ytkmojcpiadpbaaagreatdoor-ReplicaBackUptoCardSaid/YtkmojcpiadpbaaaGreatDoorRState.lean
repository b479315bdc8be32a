/-
  A replicated log of three replicas, with what has happened so far written beside it: who led in each term and what its log was, who voted for whom, what was acknowledged.
  What holds of such a state; how such a state may go on.
-/
namespace Go.Proofs.YtkmojcpiadpbaaaGreatDoor
namespace Rp

/-- An entry. -/
structure Rec where
  t : Int
  d : List UInt8
deriving DecidableEq
/-- The term of an entry, by its number; 0 for the number 0 and behind the end. -/
def tAt (l : List Rec) (n : Nat) : Int := if n = 0 then 0 else ((l[n - 1]?).map (·.t)).getD 0
def isId (i : Int) : Prop := 0 ≤ i ∧ i ≤ 2
def upd {α : Type} (f : Int → α) (i : Int) (x : α) : Int → α := fun j => if j = i then x else f j
theorem upd_same {α : Type} (f : Int → α) (i : Int) (x : α) : upd f i x i = x := if_pos rfl
theorem upd_ne {α : Type} (f : Int → α) {i j : Int} (x : α) (h : j ≠ i) : upd f i x j = f j := if_neg h
/-- Two lists have the same first n elements. -/
def Pre (L M : List Rec) (n : Nat) : Prop := n ≤ L.length ∧ n ≤ M.length ∧ L.take n = M.take n
theorem Pre.refl {L : List Rec} {n : Nat} (h : n ≤ L.length) : Pre L L n := ⟨h, h, rfl⟩
theorem Pre.symm {L M : List Rec} {n : Nat} (h : Pre L M n) : Pre M L n := ⟨h.2.1, h.1, h.2.2.symm⟩
theorem Pre.trans {L M K : List Rec} {n : Nat} (h : Pre L M n) (k : Pre M K n) : Pre L K n := ⟨h.1, k.2.1, h.2.2.trans k.2.2⟩
theorem Pre.mono {L M : List Rec} {n m : Nat} (h : Pre L M n) (hm : m ≤ n) : Pre L M m := by
  refine ⟨Nat.le_trans hm h.1, Nat.le_trans hm h.2.1, ?_⟩
  have := congrArg (List.take m) h.2.2
  rwa [List.take_take, List.take_take, Nat.min_eq_left hm] at this
theorem Pre.tAt {L M : List Rec} {n k : Nat} (h : Pre L M n) (hk : k ≤ n) : tAt L k = tAt M k := by
  unfold Rp.tAt
  split
  · rfl
  · next h0 =>
    have e1 : (L.take n)[k - 1]? = (M.take n)[k - 1]? := by rw [h.2.2]
    rw [List.getElem?_take_of_lt (by omega), List.getElem?_take_of_lt (by omega)] at e1
    rw [e1]
theorem Pre.of_prefix {M M' : List Rec} (h : M <+: M') : Pre M M' M.length := by
  obtain ⟨t, rfl⟩ := h
  exact ⟨Nat.le_refl _, by simp, by simp⟩
theorem Pre.grow {L M M' : List Rec} {n : Nat} (h : Pre L M n) (hg : M <+: M') : Pre L M' n := h.trans ((Pre.of_prefix hg).mono h.2.1)
theorem Pre.zero (L M : List Rec) : Pre L M 0 := ⟨Nat.zero_le _, Nat.zero_le _, by simp⟩
theorem tAt_grow {M M' : List Rec} {n : Nat} (hg : M <+: M') (hn : n ≤ M.length) : tAt M' n = tAt M n := (((Pre.of_prefix hg).mono hn).tAt (Nat.le_refl _)).symm

/-- The state, and what has happened. -/
structure St where
  term : Int → Int
  vote : Int → Int
  role : Int → Int
  log : Int → List Rec
  comm : Int → Nat
  votes : Int → Int → Bool
  mat : Int → Int → Nat
  nxt : Int → Int → Nat
  ldr : Int → Int
  ldl : Int → List Rec
  cl : Int → Int → List Rec
  V : Int → Int → Int
  acc : Int → Int → Nat
variable {s s' : St}
def has (s : St) (i T : Int) (n : Nat) : Prop := s.ldr T ≠ -1 ∧ ((i = s.ldr T ∧ n ≤ (s.ldl T).length) ∨ n ≤ s.acc i T)
/-- Two replicas have gone on to later terms without the entry: it is never committed. -/
def dead (s : St) (T : Int) (n : Nat) : Prop := ∃ a b, isId a ∧ isId b ∧ a ≠ b ∧ T < s.term a ∧ T < s.term b ∧ ¬ has s a T n ∧ ¬ has s b T n
def Comtd (s : St) (T : Int) (n : Nat) : Prop := s.ldr T ≠ -1 ∧ 1 ≤ n ∧ n ≤ (s.ldl T).length ∧ tAt (s.ldl T) n = T ∧ ∃ v, isId v ∧ v ≠ s.ldr T ∧ n ≤ s.acc v T
/-- A log that comes from the leaders of its terms. -/
def OkL (s : St) (L : List Rec) : Prop := ∀ k, 1 ≤ k → k ≤ L.length → 1 ≤ tAt L k ∧ s.ldr (tAt L k) ≠ -1 ∧ Pre L (s.ldl (tAt L k)) k ∧ ∀ j, 1 ≤ j → j ≤ k → tAt L j ≤ tAt L k

structure Inv (s : St) : Prop where
  t0 : ∀ i, 0 ≤ s.term i
  vId : ∀ i T, s.V i T ≠ -1 → isId i ∧ isId (s.V i T)
  vT : ∀ i T, s.V i T ≠ -1 → T ≤ s.term i
  vNow : ∀ i, isId i → s.V i (s.term i) = s.vote i
  vC : ∀ i T, s.V i T ≠ -1 → s.V (s.V i T) T = s.V i T
  vPos : ∀ i T, s.V i T ≠ -1 → 1 ≤ T
  lId : ∀ T, s.ldr T ≠ -1 → isId (s.ldr T)
  lQ : ∀ T, s.ldr T ≠ -1 → s.V (s.ldr T) T = s.ldr T ∧ ∃ v, v ≠ s.ldr T ∧ s.V v T = s.ldr T
  lGrow : ∀ T, s.ldr T ≠ -1 → s.cl T (s.ldr T) <+: s.ldl T
  lNew : ∀ T k, s.ldr T ≠ -1 → (s.cl T (s.ldr T)).length < k → k ≤ (s.ldl T).length → tAt (s.ldl T) k = T
  clT : ∀ T c k, isId c → s.V c T = c → 1 ≤ k → k ≤ (s.cl T c).length → tAt (s.cl T c) k < T
  logT : ∀ i k, isId i → 1 ≤ k → k ≤ (s.log i).length → tAt (s.log i) k ≤ s.term i
  okLog : ∀ i, isId i → OkL s (s.log i)
  okCl : ∀ T c, isId c → s.V c T = c → OkL s (s.cl T c)
  okLd : ∀ T, s.ldr T ≠ -1 → OkL s (s.ldl T)
  r1 : ∀ i, isId i → s.role i = 1 → s.V i (s.term i) = i ∧ s.cl (s.term i) i = s.log i ∧ s.ldr (s.term i) ≠ i ∧ ∀ v, s.votes i v = true → s.V v (s.term i) = i
  r2 : ∀ i, isId i → s.role i = 2 → s.ldr (s.term i) = i ∧ s.ldl (s.term i) = s.log i ∧ ∀ v, isId v → v ≠ i → s.mat i v ≤ s.acc v (s.term i) ∧ 1 ≤ s.nxt i v ∧ s.nxt i v ≤ (s.log i).length + 1
  accL : ∀ i T, s.acc i T ≠ 0 → s.ldr T ≠ -1 ∧ T ≤ s.term i ∧ s.acc i T ≤ (s.ldl T).length ∧ isId i
  an : ∀ i, isId i → Pre (s.log i) (s.ldl (s.term i)) (s.acc i (s.term i))
  hasP : ∀ i T n, 1 ≤ n → has s i T n → tAt (s.ldl T) n = T → Pre (s.log i) (s.ldl T) n ∨ dead s T n
  lc : ∀ T T' n, T < T' → s.ldr T ≠ -1 → s.ldr T' ≠ -1 → 1 ≤ n → n ≤ (s.ldl T).length → tAt (s.ldl T) n = T → Pre (s.cl T' (s.ldr T')) (s.ldl T) n ∨ dead s T n
  vt : ∀ v T' T n, T < T' → s.V v T' ≠ -1 → 1 ≤ n → has s v T n → tAt (s.ldl T) n = T → Pre (s.cl T' (s.V v T')) (s.ldl T) n ∨ dead s T n
  cm : ∀ i, isId i → s.comm i = 0 ∨ ∃ T n, Comtd s T n ∧ s.comm i ≤ n ∧ T ≤ s.term i ∧ Pre (s.log i) (s.ldl T) (s.comm i)

/-- What has happened stays so. -/
structure Ext (s s' : St) : Prop where
  term : ∀ i, s.term i ≤ s'.term i
  V : ∀ i T, s.V i T ≠ -1 → s'.V i T = s.V i T
  cl : ∀ T c, isId c → s.V c T = c → s'.cl T c = s.cl T c
  ldr : ∀ T, s.ldr T ≠ -1 → s'.ldr T = s.ldr T
  ldl : ∀ T, s.ldr T ≠ -1 → s.ldl T <+: s'.ldl T
  acc : ∀ i T, s.acc i T ≤ s'.acc i T
  frz : ∀ i T n, isId i → 1 ≤ n → T < s.term i → has s' i T n → has s i T n
theorem Ext.refl (s : St) : Ext s s := ⟨fun _ => Int.le_refl _, fun _ _ _ => rfl, fun _ _ _ _ => rfl, fun _ _ => rfl, fun _ _ => List.prefix_refl _, fun _ _ => Nat.le_refl _, fun _ _ _ _ _ _ h => h⟩
theorem has_pos {i T : Int} {n : Nat} (h : Inv s) (hn : 1 ≤ n) (hh : has s i T n) : s.ldr T ≠ -1 ∧ n ≤ (s.ldl T).length ∧ T ≤ s.term i ∧ isId i := by
  obtain ⟨h1, ⟨rfl, h2⟩ | h2⟩ := hh
  · have hq := (h.lQ T h1).1
    exact ⟨h1, h2, h.vT _ _ (by rw [hq]; exact h1), h.lId T h1⟩
  · obtain ⟨h3, h4, h5, h6⟩ := h.accL i T (by omega)
    exact ⟨h1, by omega, h4, h6⟩
theorem Ext.has {i T : Int} {n : Nat} (e : Ext s s') (hh : has s i T n) : has s' i T n := by
  obtain ⟨h1, h2⟩ := hh
  refine ⟨by rw [e.ldr T h1]; exact h1, ?_⟩
  rcases h2 with ⟨h2, h3⟩ | h2
  · exact Or.inl ⟨by rw [e.ldr T h1]; exact h2, Nat.le_trans h3 (e.ldl T h1).length_le⟩
  · exact Or.inr (Nat.le_trans h2 (e.acc i T))
theorem Ext.dead {T : Int} {n : Nat} (e : Ext s s') (hn : 1 ≤ n) (hh : dead s T n) : dead s' T n := by
  obtain ⟨a, b, h1, h2, h3, h4, h5, h6, h7⟩ := hh
  exact ⟨a, b, h1, h2, h3, Int.lt_of_lt_of_le h4 (e.term a), Int.lt_of_lt_of_le h5 (e.term b), fun h => h6 (e.frz a T n h1 hn h4 h), fun h => h7 (e.frz b T n h2 hn h5 h)⟩
theorem Ext.comtd {T : Int} {n : Nat} (e : Ext s s') (hh : Comtd s T n) : Comtd s' T n := by
  obtain ⟨h1, h2, h3, h4, v, h5, h6, h7⟩ := hh
  have hg := e.ldl T h1
  exact ⟨by rw [e.ldr T h1]; exact h1, h2, Nat.le_trans h3 hg.length_le, by rw [tAt_grow hg h3]; exact h4, v, h5, by rw [e.ldr T h1]; exact h6, Nat.le_trans h7 (e.acc v T)⟩
theorem Ext.okL {L : List Rec} (e : Ext s s') (h : OkL s L) : OkL s' L := by
  intro k h1 h2
  obtain ⟨h3, h4, h5, h6⟩ := h k h1 h2
  exact ⟨h3, by rw [e.ldr _ h4]; exact h4, h5.grow (e.ldl _ h4), h6⟩
theorem Ext.pod {L : List Rec} {T : Int} {n : Nat} (e : Ext s s') (h1 : s.ldr T ≠ -1) (hn : 1 ≤ n) (h : Pre L (s.ldl T) n ∨ Rp.dead s T n) : Pre L (s'.ldl T) n ∨ Rp.dead s' T n :=
  h.imp (fun h => h.grow (e.ldl T h1)) (e.dead hn)
/-- Two of three meet. -/
theorem meet {a b c d : Int} (ha : isId a) (hb : isId b) (hc : isId c) (hd : isId d) (h1 : a ≠ b) (h2 : c ≠ d) : a = c ∨ a = d ∨ b = c ∨ b = d := by
  unfold isId at *
  omega
theorem comtd_dead {T : Int} {n : Nat} (h : Inv s) (hc : Comtd s T n) : ¬ dead s T n := by
  obtain ⟨h1, h2, h3, h4, v, h5, h6, h7⟩ := hc
  rintro ⟨a, b, ha, hb, hab, _, _, na, nb⟩
  have hl : has s (s.ldr T) T n := ⟨h1, Or.inl ⟨rfl, h3⟩⟩
  have hv : has s v T n := ⟨h1, Or.inr h7⟩
  rcases meet ha hb (h.lId T h1) h5 hab (fun e => h6 e.symm) with e | e | e | e
  · subst e; exact na hl
  · subst e; exact na hv
  · subst e; exact nb hl
  · subst e; exact nb hv
/-- Two committed entries: one of the lists is the beginning of the other. -/
theorem comtd_two {T T' : Int} {n n' : Nat} (h : Inv s) (hc : Comtd s T n) (hc' : Comtd s T' n') (hT : T ≤ T') : Pre (s.ldl T') (s.ldl T) n ∨ (T = T') := by
  by_cases e : T = T'
  · exact Or.inr e
  · refine Or.inl ?_
    obtain ⟨h1, h2, h3, h4, _⟩ := id hc
    rcases h.lc T T' n (by omega) h1 hc'.1 h2 h3 h4 with k | k
    · exact (k.symm.grow (h.lGrow T' hc'.1)).symm
    · exact absurd k (comtd_dead h hc)
end Rp
end Go.Proofs.YtkmojcpiadpbaaaGreatDoor
