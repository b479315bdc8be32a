/-
  Messages as bytes: what is written, and what is read of any bytes, by the program and by the reference. Nothing of the program stands here.
-/
import Derived.Test.YtkmojcpiadpbaaaGreatDoorPlain
import Derived.Test.YtkmojcpiadpbaaaGreatDoorRModel
namespace Go.Proofs.YtkmojcpiadpbaaaGreatDoor.Wire
open Go Rp

def eRec (x : Rec) : List UInt8 := eInt x.t ++ eText x.d
def yesN (m : Msg) : Int := if m.yes = true then 1 else 0
def eHead (m : Msg) : List Int := [m.k, m.fr, m.dst, m.tm, m.ix, m.pv, m.cm, yesN m]
def eMsg (m : Msg) : List UInt8 := (eHead m).flatMap eInt ++ eNum (m.rs.length : Int) ++ m.rs.flatMap eRec
/-- A state of a reader: what is left, and whether it has failed. -/
structure RS where
  r : List UInt8
  f : Bool
def RS.ok (s : RS) : Prop := s.f = true → s.r = []
def rdI (s : RS) : Int × RS := match rInt 59 s.r with
  | some (n, r') => (n, ⟨r', s.f⟩)
  | none => (0, ⟨[], true⟩)
def rdN (s : RS) : Int × RS := match rNum 59 s.r with
  | some (n, r') => (n, ⟨r', s.f⟩)
  | none => (0, ⟨[], true⟩)
def rdT (s : RS) : List UInt8 × RS := match rText s.r with
  | some (t, r') => (t, ⟨r', s.f⟩)
  | none => ([], ⟨[], true⟩)
def rdRec (s : RS) : Rec × RS := (⟨(rdI s).1, (rdT (rdI s).2).1⟩, (rdT (rdI s).2).2)
theorem rdI_ok {s : RS} (h : s.ok) : (rdI s).2.ok := by
  unfold rdI
  split
  · next n r' e =>
    intro hf
    have := h hf
    rw [this] at e
    cases e
  · exact fun _ => rfl
theorem rdN_ok {s : RS} (h : s.ok) : (rdN s).2.ok := by
  unfold rdN
  split
  · next n r' e =>
    intro hf
    have := h hf
    rw [this] at e
    cases e
  · exact fun _ => rfl
theorem rdT_ok {s : RS} (h : s.ok) : (rdT s).2.ok := by
  unfold rdT
  split
  · next n r' e =>
    intro hf
    have := h hf
    rw [this] at e
    cases e
  · exact fun _ => rfl
theorem rdRec_ok {s : RS} (h : s.ok) : (rdRec s).2.ok := rdT_ok (rdI_ok h)
theorem rdI_le (s : RS) : (rdI s).2.r.length ≤ s.r.length := by
  unfold rdI
  split
  · next n r' e => exact Nat.le_of_lt (rInt_shorter (by decide) e)
  · exact Nat.zero_le _
theorem rdN_le (s : RS) : (rdN s).2.r.length ≤ s.r.length := by
  unfold rdN
  split
  · next n r' e => exact Nat.le_of_lt (rNum_shorter (by decide) e)
  · exact Nat.zero_le _
theorem rdT_le (s : RS) : (rdT s).2.r.length ≤ s.r.length := by
  unfold rdT
  split
  · next t r' e => exact Nat.le_of_lt (rText_shorter e)
  · exact Nat.zero_le _
/-- Reading makes what is left shorter, if there was something. -/
theorem rdRec_lt {s : RS} (h : 0 < s.r.length) : (rdRec s).2.r.length < s.r.length := by
  have h1 := rdT_le (rdI s).2
  have h2 : (rdI s).2.r.length < s.r.length := by
    unfold rdI
    split
    · next n r' e => exact rInt_shorter (by decide) e
    · exact h
  show (rdT (rdI s).2).2.r.length < _
  omega
/-- Not failed: what was read was written so. -/
theorem rdI_good {s : RS} (h : (rdI s).2.f = false) : s.f = false ∧ InR (rdI s).1 ∧ s.r = eInt (rdI s).1 ++ (rdI s).2.r := by
  unfold rdI at h ⊢
  split at h
  · next n r' e =>
    have := (rInt59_iff s.r n r').1 e
    exact ⟨h, this⟩
  · cases h
theorem rdI_eInt {n : Int} {r : List UInt8} {f : Bool} (h : InR n) : rdI ⟨eInt n ++ r, f⟩ = (n, ⟨r, f⟩) := by
  unfold rdI
  rw [show rInt 59 (⟨eInt n ++ r, f⟩ : RS).r = some (n, r) from (rInt59_iff _ n r).2 ⟨h, rfl⟩]
theorem rdN_good {s : RS} (h : (rdN s).2.f = false) : s.f = false ∧ 0 ≤ (rdN s).1 ∧ InR (rdN s).1 ∧ s.r = eNum (rdN s).1 ++ (rdN s).2.r := by
  unfold rdN at h ⊢
  split at h
  · next n r' e =>
    obtain ⟨h1, h2, h3⟩ := (rNum_iff 59 (by decide) s.r n r').1 e
    refine ⟨h, h1, h2, ?_⟩
    show s.r = eNum n ++ r'
    unfold eNum eInt
    rw [if_neg (by omega), h3, List.append_assoc]
    rfl
  · cases h
theorem rdN_eNum {n : Int} {r : List UInt8} {f : Bool} (h : InR n) (h0 : 0 ≤ n) : rdN ⟨eNum n ++ r, f⟩ = (n, ⟨r, f⟩) := by
  unfold rdN
  have e : rNum 59 (⟨eNum n ++ r, f⟩ : RS).r = some (n, r) := (rNum_iff 59 (by decide) _ n r).2 ⟨h0, h, by
    show eNum n ++ r = _
    unfold eNum eInt
    rw [if_neg (by omega), List.append_assoc]
    rfl⟩
  rw [e]
theorem rdT_good {s : RS} (h : (rdT s).2.f = false) : s.f = false ∧ InR (rdT s).1.length ∧ s.r = eText (rdT s).1 ++ (rdT s).2.r := by
  unfold rdT at h ⊢
  split at h
  · next t r' e =>
    have := (rText_iff s.r t r').1 e
    exact ⟨h, this⟩
  · cases h
theorem rdT_eText {t r : List UInt8} {f : Bool} (h : InR t.length) : rdT ⟨eText t ++ r, f⟩ = (t, ⟨r, f⟩) := by
  unfold rdT
  rw [show rText (⟨eText t ++ r, f⟩ : RS).r = some (t, r) from (rText_iff _ t r).2 ⟨h, rfl⟩]
def OkR (x : Rec) : Prop := InR x.t ∧ InR x.d.length
theorem rdRec_good {s : RS} (h : (rdRec s).2.f = false) : s.f = false ∧ OkR (rdRec s).1 ∧ s.r = eRec (rdRec s).1 ++ (rdRec s).2.r := by
  obtain ⟨a1, a2, a3⟩ := rdT_good (s := (rdI s).2) h
  obtain ⟨b1, b2, b3⟩ := rdI_good a1
  refine ⟨b1, ⟨b2, a2⟩, ?_⟩
  rw [b3, a3]
  show _ = (eInt _ ++ eText _) ++ _
  rw [List.append_assoc]
  rfl
theorem rdRec_eRec {x : Rec} {r : List UInt8} {f : Bool} (h : OkR x) : rdRec ⟨eRec x ++ r, f⟩ = (x, ⟨r, f⟩) := by
  unfold rdRec eRec
  rw [List.append_assoc, rdI_eInt h.1]
  show ((⟨x.t, (rdT ⟨eText x.d ++ r, f⟩).1⟩ : Rec), (rdT ⟨eText x.d ++ r, f⟩).2) = _
  rw [rdT_eText h.2]
/-- Entries are read as long as there is something left, n at most. -/
def rdMany : Nat → RS → List Rec × RS
  | 0, s => ([], s)
  | n + 1, s => if s.r.length = 0 then ([], s) else ((rdRec s).1 :: (rdMany n (rdRec s).2).1, (rdMany n (rdRec s).2).2)
theorem rdMany_good : ∀ (n : Nat) (s : RS), (rdMany n s).2.f = false → s.f = false ∧ (∀ x ∈ (rdMany n s).1, OkR x) ∧ s.r = (rdMany n s).1.flatMap eRec ++ (rdMany n s).2.r ∧ (rdMany n s).1.length ≤ n
  | 0, s, h => ⟨h, (fun x hx => by cases hx), rfl, Nat.le_refl _⟩
  | n + 1, s, h => by
    unfold rdMany at h ⊢
    split
    · next c =>
      rw [if_pos c] at h
      exact ⟨h, (fun x hx => by cases hx), rfl, Nat.zero_le _⟩
    · next c =>
      rw [if_neg c] at h
      obtain ⟨h1, h2, h3, h4⟩ := rdMany_good n (rdRec s).2 h
      obtain ⟨g1, g2, g3⟩ := rdRec_good h1
      refine ⟨g1, fun x hx => ?_, ?_, by simp; omega⟩
      · rcases List.mem_cons.1 hx with q | q
        · rw [q]; exact g2
        · exact h2 x q
      · show s.r = ((rdRec s).1 :: (rdMany n (rdRec s).2).1).flatMap eRec ++ _
        rw [List.flatMap_cons, List.append_assoc, ← h3]
        exact g3
theorem eRec_ne (x : Rec) : 0 < (eRec x).length := by
  unfold eRec eInt
  simp
  omega
theorem rdMany_all : ∀ (l : List Rec) (n : Nat), l.length ≤ n → (∀ x ∈ l, OkR x) → rdMany n ⟨l.flatMap eRec, false⟩ = (l, ⟨[], false⟩)
  | [], 0, _, _ => rfl
  | [], n + 1, _, _ => if_pos rfl
  | x :: l, 0, h, _ => by simp at h
  | x :: l, n + 1, h, hk => by
    unfold rdMany
    rw [if_neg (by have := eRec_ne x; rw [List.flatMap_cons, List.length_append]; omega), List.flatMap_cons, rdRec_eRec (hk x (List.mem_cons_self ..))]
    show (x :: (rdMany n ⟨l.flatMap eRec, false⟩).1, (rdMany n ⟨l.flatMap eRec, false⟩).2) = _
    rw [rdMany_all l n (by simp at h; omega) (fun y hy => hk y (List.mem_cons_of_mem _ hy))]
/-- Numbers, one after the other. -/
def rdInts : Nat → RS → List Int × RS
  | 0, s => ([], s)
  | n + 1, s => ((rdI s).1 :: (rdInts n (rdI s).2).1, (rdInts n (rdI s).2).2)
theorem rdInts_good : ∀ (n : Nat) (s : RS), (rdInts n s).2.f = false → s.f = false ∧ (∀ x ∈ (rdInts n s).1, InR x) ∧ s.r = (rdInts n s).1.flatMap eInt ++ (rdInts n s).2.r ∧ (rdInts n s).1.length = n
  | 0, s, h => ⟨h, (fun x hx => by cases hx), rfl, rfl⟩
  | n + 1, s, h => by
    unfold rdInts at h ⊢
    obtain ⟨h1, h2, h3, h4⟩ := rdInts_good n (rdI s).2 h
    obtain ⟨g1, g2, g3⟩ := rdI_good h1
    refine ⟨g1, fun x hx => ?_, ?_, by show (rdInts n (rdI s).2).1.length + 1 = n + 1; omega⟩
    · rcases List.mem_cons.1 hx with q | q
      · rw [q]; exact g2
      · exact h2 x q
    · show s.r = ((rdI s).1 :: (rdInts n (rdI s).2).1).flatMap eInt ++ _
      rw [List.flatMap_cons, List.append_assoc, ← h3]
      exact g3
theorem rdInts_ok : ∀ (n : Nat) (s : RS), s.ok → (rdInts n s).2.ok
  | 0, _, h => h
  | n + 1, s, h => rdInts_ok n (rdI s).2 (rdI_ok h)
theorem rdInts_all : ∀ (l : List Int) (r : List UInt8) (f : Bool), (∀ x ∈ l, InR x) → rdInts l.length ⟨l.flatMap eInt ++ r, f⟩ = (l, ⟨r, f⟩)
  | [], _, _, _ => rfl
  | x :: l, r, f, hk => by
    show rdInts (l.length + 1) _ = _
    unfold rdInts
    rw [List.flatMap_cons, List.append_assoc, rdI_eInt (hk x (List.mem_cons_self ..))]
    show (x :: (rdInts l.length ⟨l.flatMap eInt ++ r, f⟩).1, (rdInts l.length ⟨l.flatMap eInt ++ r, f⟩).2) = _
    rw [rdInts_all l r f (fun y hy => hk y (List.mem_cons_of_mem _ hy))]
theorem rdInts8 {s0 s1 s2 s3 s4 s5 s6 s7 s8 : RS} {n0 n1 n2 n3 n4 n5 n6 n7 : Int} (e0 : rdI s0 = (n0, s1)) (e1 : rdI s1 = (n1, s2)) (e2 : rdI s2 = (n2, s3)) (e3 : rdI s3 = (n3, s4)) (e4 : rdI s4 = (n4, s5)) (e5 : rdI s5 = (n5, s6)) (e6 : rdI s6 = (n6, s7)) (e7 : rdI s7 = (n7, s8)) :
    rdInts 8 s0 = ([n0, n1, n2, n3, n4, n5, n6, n7], s8) := by
  simp [rdInts, e0, e1, e2, e3, e4, e5, e6, e7]
/-- A message of eight numbers and entries. -/
def mkMsg (l : List Int) (rs : List Rec) : Msg := ⟨l.getD 0 0, l.getD 1 0, l.getD 2 0, l.getD 3 0, l.getD 4 0, l.getD 5 0, l.getD 6 0, decide (l.getD 7 0 = 1), rs⟩
theorem eight {l : List Int} (h : l.length = 8) : l = [l.getD 0 0, l.getD 1 0, l.getD 2 0, l.getD 3 0, l.getD 4 0, l.getD 5 0, l.getD 6 0, l.getD 7 0] := by
  match l, h with
  | [_, _, _, _, _, _, _, _], _ => rfl
/-- What the program reads. -/
def readP (s : List UInt8) : Option Msg :=
  let p := rdInts 8 ⟨s, false⟩
  let c := rdN p.2
  let m := rdMany (s.length + 1) c.2
  if m.2.f = false ∧ m.2.r = [] ∧ (0 ≤ p.1.getD 7 0 ∧ p.1.getD 7 0 ≤ 1) ∧ (m.1.length : Int) = c.1 then some (mkMsg p.1 m.1) else none
/-- What the reference reads. -/
def readQ (s : List UInt8) : Option Msg :=
  let p := rdInts 8 ⟨s, false⟩
  let c := rdN p.2
  let m := rdMany c.1.toNat c.2
  if m.2.f = false ∧ m.2.r = [] ∧ eMsg (mkMsg p.1 m.1) = s then some (mkMsg p.1 m.1) else none
def OkM (m : Msg) : Prop := (∀ x ∈ eHead m, InR x) ∧ InR m.rs.length ∧ ∀ x ∈ m.rs, OkR x
theorem yesN_in (m : Msg) : 0 ≤ yesN m ∧ yesN m ≤ 1 := by unfold yesN; split <;> omega
theorem mk_head (m : Msg) : mkMsg (eHead m) m.rs = m := by
  obtain ⟨k, fr, dst, tm, ix, pv, cm, yes, rs⟩ := m
  cases yes <;> rfl
theorem head_mk {l : List Int} {rs : List Rec} (h : l.length = 8) (h7 : 0 ≤ l.getD 7 0 ∧ l.getD 7 0 ≤ 1) : eHead (mkMsg l rs) = l := by
  have e : yesN (mkMsg l rs) = l.getD 7 0 := by
    unfold yesN mkMsg
    by_cases q : l.getD 7 0 = 1
    · simp only [q, decide_true, if_true]
    · simp only [q, decide_false]
      have : l.getD 7 0 = 0 := by omega
      rw [this]
      rfl
  have e8 := eight h
  show [_, _, _, _, _, _, _, yesN (mkMsg l rs)] = l
  rw [e]
  exact e8.symm
theorem flat_len (l : List Rec) : l.length ≤ (l.flatMap eRec).length := by
  induction l with
  | nil => exact Nat.le_refl _
  | cons x l ih => rw [List.flatMap_cons, List.length_append, List.length_cons]; have := eRec_ne x; omega
theorem head_len (m : Msg) : (eHead m).length = 8 := rfl
theorem eMsg_three (m : Msg) : eMsg m = (eHead m).flatMap eInt ++ (eNum (m.rs.length : Int) ++ m.rs.flatMap eRec) := List.append_assoc _ _ _
theorem read_eMsg {m : Msg} (h : OkM m) : rdInts 8 ⟨eMsg m, false⟩ = (eHead m, ⟨eNum (m.rs.length : Int) ++ m.rs.flatMap eRec, false⟩) ∧ rdN ⟨eNum (m.rs.length : Int) ++ m.rs.flatMap eRec, false⟩ = ((m.rs.length : Int), ⟨m.rs.flatMap eRec, false⟩) := by
  refine ⟨?_, rdN_eNum h.2.1 (by omega)⟩
  rw [eMsg_three]
  exact rdInts_all (eHead m) _ false h.1
theorem head7 (m : Msg) : (eHead m).getD 7 0 = yesN m := rfl
theorem readP_eMsg {m : Msg} (h : OkM m) : readP (eMsg m) = some m := by
  obtain ⟨h1, h2⟩ := read_eMsg h
  unfold readP
  simp only [h1, h2]
  rw [rdMany_all m.rs _ (by rw [eMsg_three, List.length_append, List.length_append]; have := flat_len m.rs; omega) h.2.2]
  rw [if_pos ⟨rfl, rfl, by rw [head7]; exact yesN_in m, rfl⟩, mk_head]
theorem readQ_eMsg {m : Msg} (h : OkM m) : readQ (eMsg m) = some m := by
  obtain ⟨h1, h2⟩ := read_eMsg h
  unfold readQ
  simp only [h1, h2]
  rw [rdMany_all m.rs _ (by omega) h.2.2]
  rw [if_pos ⟨rfl, rfl, by rw [mk_head]⟩, mk_head]
theorem read_parts {s : List UInt8} {n : Nat} {p : List Int × RS} {c : Int × RS} {m : List Rec × RS} (e1 : rdInts 8 ⟨s, false⟩ = p) (e2 : rdN p.2 = c) (e3 : rdMany n c.2 = m) (h1 : m.2.f = false) (h2 : m.2.r = []) :
    (∀ x ∈ p.1, InR x) ∧ p.1.length = 8 ∧ 0 ≤ c.1 ∧ InR c.1 ∧ (∀ x ∈ m.1, OkR x) ∧ m.1.length ≤ n ∧ s = p.1.flatMap eInt ++ (eNum c.1 ++ m.1.flatMap eRec) := by
  subst e3
  obtain ⟨a1, a2, a3, a4⟩ := rdMany_good n _ h1
  subst e2
  obtain ⟨b1, b2, b3, b4⟩ := rdN_good a1
  subst e1
  obtain ⟨_, c2, c3, c4⟩ := rdInts_good 8 _ b1
  refine ⟨c2, c4, b2, b3, a2, a4, ?_⟩
  rw [h2, List.append_nil] at a3
  rw [← a3, ← b4]
  exact c3
theorem readP_some {s : List UInt8} {m : Msg} (h : readP s = some m) : OkM m ∧ s = eMsg m := by
  unfold readP at h
  obtain ⟨p, e1⟩ : ∃ p, rdInts 8 ⟨s, false⟩ = p := ⟨_, rfl⟩
  obtain ⟨c, e2⟩ : ∃ c, rdN p.2 = c := ⟨_, rfl⟩
  obtain ⟨q, e3⟩ : ∃ q, rdMany (s.length + 1) c.2 = q := ⟨_, rfl⟩
  simp only [e1, e2, e3] at h
  split at h
  · next k =>
    obtain ⟨k1, k2, k3, k4⟩ := k
    obtain ⟨p1, p2, p3, p4, p5, _, p7⟩ := read_parts e1 e2 e3 k1 k2
    injection h with h
    have hh : eHead m = p.1 := by rw [← h]; exact head_mk p2 k3
    have hr : m.rs = q.1 := by rw [← h]; rfl
    refine ⟨⟨by rw [hh]; exact p1, by rw [hr, k4]; exact p4, by rw [hr]; exact p5⟩, ?_⟩
    rw [eMsg_three, hh, hr, k4]
    exact p7
  · cases h
theorem readQ_some {s : List UInt8} {m : Msg} (h : readQ s = some m) : OkM m ∧ s = eMsg m := by
  unfold readQ at h
  obtain ⟨p, e1⟩ : ∃ p, rdInts 8 ⟨s, false⟩ = p := ⟨_, rfl⟩
  obtain ⟨c, e2⟩ : ∃ c, rdN p.2 = c := ⟨_, rfl⟩
  obtain ⟨q, e3⟩ : ∃ q, rdMany c.1.toNat c.2 = q := ⟨_, rfl⟩
  simp only [e1, e2, e3] at h
  split at h
  · next k =>
    obtain ⟨k1, k2, k3⟩ := k
    obtain ⟨p1, p2, p3, p4, p5, p6, _⟩ := read_parts e1 e2 e3 k1 k2
    injection h with h
    rw [h] at k3
    have hr : m.rs = q.1 := by rw [← h]; rfl
    have hy := yesN_in m
    refine ⟨⟨fun x hx => ?_, by rw [hr]; unfold InR at *; omega, by rw [hr]; exact p5⟩, k3.symm⟩
    rw [eight p2] at p1
    have h7 : x = yesN m ∨ x ∈ p.1 := by
      have e8 := eight p2
      rw [← h] at hx ⊢
      rw [e8]
      unfold eHead mkMsg at hx
      simp only [List.mem_cons, List.not_mem_nil, or_false] at hx ⊢
      rcases hx with q | q | q | q | q | q | q | q
      · exact Or.inr (Or.inl q)
      · exact Or.inr (Or.inr (Or.inl q))
      · exact Or.inr (Or.inr (Or.inr (Or.inl q)))
      · exact Or.inr (Or.inr (Or.inr (Or.inr (Or.inl q))))
      · exact Or.inr (Or.inr (Or.inr (Or.inr (Or.inr (Or.inl q)))))
      · exact Or.inr (Or.inr (Or.inr (Or.inr (Or.inr (Or.inr (Or.inl q))))))
      · exact Or.inr (Or.inr (Or.inr (Or.inr (Or.inr (Or.inr (Or.inr (Or.inl q)))))))
      · exact Or.inl q
    rcases h7 with q | q
    · unfold InR; omega
    · rw [← eight p2] at p1
      exact p1 x q
  · cases h
theorem readPQ (s : List UInt8) : readP s = readQ s := by
  cases hp : readP s with
  | some m =>
    obtain ⟨h1, h2⟩ := readP_some hp
    rw [h2, readQ_eMsg h1]
  | none =>
    cases hq : readQ s with
    | none => rfl
    | some m =>
      obtain ⟨h1, h2⟩ := readQ_some hq
      rw [h2, readP_eMsg h1] at hp
      cases hp
end Go.Proofs.YtkmojcpiadpbaaaGreatDoor.Wire
