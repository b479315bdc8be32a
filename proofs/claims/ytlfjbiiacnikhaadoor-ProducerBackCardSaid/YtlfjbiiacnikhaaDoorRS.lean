/-
  Readers as states - what is left of the bytes, and whether something has failed -, as chapter 1 has them; lists and pairs of what they read: what is read is exactly what was written. Nothing of the program stands here.
-/
import Derived.Test.YtlfjbiiacnikhaaDoorPlain
namespace Go.Proofs.YtlfjbiiacnikhaaDoor.Wire
open Go

/-- A state of a reader: what is left, and whether it has failed. -/
structure RS where
  r : List UInt8
  f : Bool
def RS.ok (s : RS) : Prop := s.f = true → s.r = []
def rdI (s : RS) : Int × RS := match rInt 59 s.r with
  | some (n, r') => (n, ⟨r', s.f⟩)
  | none => (0, ⟨[], true⟩)
def rdN (s : RS) : Int × RS := match rNum 59 s.r with
  | some (n, r') => (n, ⟨r', s.f⟩)
  | none => (0, ⟨[], true⟩)
def rdT (s : RS) : List UInt8 × RS := match rText s.r with
  | some (t, r') => (t, ⟨r', s.f⟩)
  | none => ([], ⟨[], true⟩)
theorem rdI_ok {s : RS} (h : s.ok) : (rdI s).2.ok := by
  unfold rdI
  split
  · next n r' e =>
    intro hf
    have := h hf
    rw [this] at e
    cases e
  · exact fun _ => rfl
theorem rdN_ok {s : RS} (h : s.ok) : (rdN s).2.ok := by
  unfold rdN
  split
  · next n r' e =>
    intro hf
    have := h hf
    rw [this] at e
    cases e
  · exact fun _ => rfl
theorem rdT_ok {s : RS} (h : s.ok) : (rdT s).2.ok := by
  unfold rdT
  split
  · next n r' e =>
    intro hf
    have := h hf
    rw [this] at e
    cases e
  · exact fun _ => rfl
theorem rdI_le (s : RS) : (rdI s).2.r.length ≤ s.r.length := by
  unfold rdI
  split
  · next n r' e => exact Nat.le_of_lt (rInt_shorter (by decide) e)
  · exact Nat.zero_le _
theorem rdN_le (s : RS) : (rdN s).2.r.length ≤ s.r.length := by
  unfold rdN
  split
  · next n r' e => exact Nat.le_of_lt (rNum_shorter (by decide) e)
  · exact Nat.zero_le _
theorem rdT_le (s : RS) : (rdT s).2.r.length ≤ s.r.length := by
  unfold rdT
  split
  · next t r' e => exact Nat.le_of_lt (rText_shorter e)
  · exact Nat.zero_le _
/-- Not failed: what was read was written so. -/
theorem rdI_good {s : RS} (h : (rdI s).2.f = false) : s.f = false ∧ InR (rdI s).1 ∧ s.r = eInt (rdI s).1 ++ (rdI s).2.r := by
  unfold rdI at h ⊢
  split at h
  · next n r' e =>
    have := (rInt59_iff s.r n r').1 e
    exact ⟨h, this⟩
  · cases h
theorem rdI_eInt {n : Int} {r : List UInt8} {f : Bool} (h : InR n) : rdI ⟨eInt n ++ r, f⟩ = (n, ⟨r, f⟩) := by
  unfold rdI
  rw [show rInt 59 (⟨eInt n ++ r, f⟩ : RS).r = some (n, r) from (rInt59_iff _ n r).2 ⟨h, rfl⟩]
theorem rdN_good {s : RS} (h : (rdN s).2.f = false) : s.f = false ∧ 0 ≤ (rdN s).1 ∧ InR (rdN s).1 ∧ s.r = eNum (rdN s).1 ++ (rdN s).2.r := by
  unfold rdN at h ⊢
  split at h
  · next n r' e =>
    obtain ⟨h1, h2, h3⟩ := (rNum_iff 59 (by decide) s.r n r').1 e
    refine ⟨h, h1, h2, ?_⟩
    show s.r = eNum n ++ r'
    unfold eNum eInt
    rw [if_neg (by omega), h3, List.append_assoc]
    rfl
  · cases h
theorem rdN_eNum {n : Int} {r : List UInt8} {f : Bool} (h : InR n) (h0 : 0 ≤ n) : rdN ⟨eNum n ++ r, f⟩ = (n, ⟨r, f⟩) := by
  unfold rdN
  have e : rNum 59 (⟨eNum n ++ r, f⟩ : RS).r = some (n, r) := (rNum_iff 59 (by decide) _ n r).2 ⟨h0, h, by
    show eNum n ++ r = _
    unfold eNum eInt
    rw [if_neg (by omega), List.append_assoc]
    rfl⟩
  rw [e]
theorem rdT_good {s : RS} (h : (rdT s).2.f = false) : s.f = false ∧ InR (rdT s).1.length ∧ s.r = eText (rdT s).1 ++ (rdT s).2.r := by
  unfold rdT at h ⊢
  split at h
  · next t r' e =>
    have := (rText_iff s.r t r').1 e
    exact ⟨h, this⟩
  · cases h
theorem rdT_eText {t r : List UInt8} {f : Bool} (h : InR t.length) : rdT ⟨eText t ++ r, f⟩ = (t, ⟨r, f⟩) := by
  unfold rdT
  rw [show rText (⟨eText t ++ r, f⟩ : RS).r = some (t, r) from (rText_iff _ t r).2 ⟨h, rfl⟩]
/-- Numbers, one after the other. -/
def rdInts : Nat → RS → List Int × RS
  | 0, s => ([], s)
  | n + 1, s => ((rdI s).1 :: (rdInts n (rdI s).2).1, (rdInts n (rdI s).2).2)
theorem rdInts_good : ∀ (n : Nat) (s : RS), (rdInts n s).2.f = false → s.f = false ∧ (∀ x ∈ (rdInts n s).1, InR x) ∧ s.r = (rdInts n s).1.flatMap eInt ++ (rdInts n s).2.r ∧ (rdInts n s).1.length = n
  | 0, s, h => ⟨h, (fun x hx => by cases hx), rfl, rfl⟩
  | n + 1, s, h => by
    unfold rdInts at h ⊢
    obtain ⟨h1, h2, h3, h4⟩ := rdInts_good n (rdI s).2 h
    obtain ⟨g1, g2, g3⟩ := rdI_good h1
    refine ⟨g1, fun x hx => ?_, ?_, by show (rdInts n (rdI s).2).1.length + 1 = n + 1; omega⟩
    · rcases List.mem_cons.1 hx with q | q
      · rw [q]; exact g2
      · exact h2 x q
    · show s.r = ((rdI s).1 :: (rdInts n (rdI s).2).1).flatMap eInt ++ _
      rw [List.flatMap_cons, List.append_assoc, ← h3]
      exact g3
theorem rdInts_ok : ∀ (n : Nat) (s : RS), s.ok → (rdInts n s).2.ok
  | 0, _, h => h
  | n + 1, s, h => rdInts_ok n (rdI s).2 (rdI_ok h)
theorem rdInts_all : ∀ (l : List Int) (r : List UInt8) (f : Bool), (∀ x ∈ l, InR x) → rdInts l.length ⟨l.flatMap eInt ++ r, f⟩ = (l, ⟨r, f⟩)
  | [], _, _, _ => rfl
  | x :: l, r, f, hk => by
    show rdInts (l.length + 1) _ = _
    unfold rdInts
    rw [List.flatMap_cons, List.append_assoc, rdI_eInt (hk x (List.mem_cons_self ..))]
    show (x :: (rdInts l.length ⟨l.flatMap eInt ++ r, f⟩).1, (rdInts l.length ⟨l.flatMap eInt ++ r, f⟩).2) = _
    rw [rdInts_all l r f (fun y hy => hk y (List.mem_cons_of_mem _ hy))]
theorem rdInts8 {s0 s1 s2 s3 s4 s5 s6 s7 s8 : RS} {n0 n1 n2 n3 n4 n5 n6 n7 : Int} (e0 : rdI s0 = (n0, s1)) (e1 : rdI s1 = (n1, s2)) (e2 : rdI s2 = (n2, s3)) (e3 : rdI s3 = (n3, s4)) (e4 : rdI s4 = (n4, s5)) (e5 : rdI s5 = (n5, s6)) (e6 : rdI s6 = (n6, s7)) (e7 : rdI s7 = (n7, s8)) :
    rdInts 8 s0 = ([n0, n1, n2, n3, n4, n5, n6, n7], s8) := by
  simp [rdInts, e0, e1, e2, e3, e4, e5, e6, e7]
/-! ### Readers of any values -/
structure GoodRd {α : Type} (rd : RS → α × RS) (enc : α → List UInt8) (ok : α → Prop) : Prop where
  good : ∀ s, (rd s).2.f = false → s.f = false ∧ ok (rd s).1 ∧ s.r = enc (rd s).1 ++ (rd s).2.r
  back : ∀ x r f, ok x → rd ⟨enc x ++ r, f⟩ = (x, ⟨r, f⟩)
/-- So many of them. -/
def rdTimes {α : Type} (rd : RS → α × RS) : Nat → RS → List α × RS
  | 0, s => ([], s)
  | n + 1, s => ((rd s).1 :: (rdTimes rd n (rd s).2).1, (rdTimes rd n (rd s).2).2)
/-- As long as there is something left, n at most. -/
def rdWhile {α : Type} (rd : RS → α × RS) : Nat → RS → List α × RS
  | 0, s => ([], s)
  | n + 1, s => if s.r.length = 0 then ([], s) else ((rd s).1 :: (rdWhile rd n (rd s).2).1, (rdWhile rd n (rd s).2).2)
section
variable {α : Type} {rd : RS → α × RS} {enc : α → List UInt8} {ok : α → Prop}
theorem rdTimes_good (h : GoodRd rd enc ok) : ∀ (n : Nat) (s : RS), (rdTimes rd n s).2.f = false → s.f = false ∧ (∀ x ∈ (rdTimes rd n s).1, ok x) ∧ s.r = (rdTimes rd n s).1.flatMap enc ++ (rdTimes rd n s).2.r ∧ (rdTimes rd n s).1.length = n
  | 0, s, hf => ⟨hf, (fun x hx => by cases hx), rfl, rfl⟩
  | n + 1, s, hf => by
    unfold rdTimes at hf ⊢
    obtain ⟨h1, h2, h3, h4⟩ := rdTimes_good h n (rd s).2 hf
    obtain ⟨g1, g2, g3⟩ := h.good s h1
    refine ⟨g1, fun x hx => ?_, ?_, by simp; omega⟩
    · rcases List.mem_cons.1 hx with q | q
      · rw [q]; exact g2
      · exact h2 x q
    · show s.r = ((rd s).1 :: (rdTimes rd n (rd s).2).1).flatMap enc ++ _
      rw [List.flatMap_cons, List.append_assoc, ← h3]
      exact g3
theorem rdTimes_all (h : GoodRd rd enc ok) : ∀ (l : List α) (r : List UInt8) (f : Bool), (∀ x ∈ l, ok x) → rdTimes rd l.length ⟨l.flatMap enc ++ r, f⟩ = (l, ⟨r, f⟩)
  | [], r, f, _ => rfl
  | x :: l, r, f, hk => by
    show ((rd _).1 :: _, _) = _
    rw [List.flatMap_cons, List.append_assoc, h.back x _ f (hk x (List.mem_cons_self ..)), rdTimes_all h l r f (fun y hy => hk y (List.mem_cons_of_mem _ hy))]
theorem rdWhile_good (h : GoodRd rd enc ok) : ∀ (n : Nat) (s : RS), (rdWhile rd n s).2.f = false → s.f = false ∧ (∀ x ∈ (rdWhile rd n s).1, ok x) ∧ s.r = (rdWhile rd n s).1.flatMap enc ++ (rdWhile rd n s).2.r ∧ (rdWhile rd n s).1.length ≤ n
  | 0, s, hf => ⟨hf, (fun x hx => by cases hx), rfl, Nat.le_refl _⟩
  | n + 1, s, hf => by
    unfold rdWhile at hf ⊢
    split
    · next c =>
      rw [if_pos c] at hf
      exact ⟨hf, (fun x hx => by cases hx), rfl, Nat.zero_le _⟩
    · next c =>
      rw [if_neg c] at hf
      obtain ⟨h1, h2, h3, h4⟩ := rdWhile_good h n (rd s).2 hf
      obtain ⟨g1, g2, g3⟩ := h.good s h1
      refine ⟨g1, fun x hx => ?_, ?_, by simp; omega⟩
      · rcases List.mem_cons.1 hx with q | q
        · rw [q]; exact g2
        · exact h2 x q
      · show s.r = ((rd s).1 :: (rdWhile rd n (rd s).2).1).flatMap enc ++ _
        rw [List.flatMap_cons, List.append_assoc, ← h3]
        exact g3
theorem rdWhile_all (h : GoodRd rd enc ok) (hne : ∀ x, ok x → 0 < (enc x).length) : ∀ (l : List α) (n : Nat), l.length ≤ n → (∀ x ∈ l, ok x) → rdWhile rd n ⟨l.flatMap enc, false⟩ = (l, ⟨[], false⟩)
  | [], 0, _, _ => rfl
  | [], n + 1, _, _ => if_pos rfl
  | x :: l, 0, h, _ => by simp at h
  | x :: l, n + 1, hl, hk => by
    unfold rdWhile
    rw [if_neg (by have := hne x (hk x (List.mem_cons_self ..)); rw [List.flatMap_cons, List.length_append]; omega), List.flatMap_cons, h.back x _ _ (hk x (List.mem_cons_self ..))]
    show (x :: (rdWhile rd n ⟨l.flatMap enc, false⟩).1, (rdWhile rd n ⟨l.flatMap enc, false⟩).2) = _
    rw [rdWhile_all h hne l n (by simp at hl; omega) (fun y hy => hk y (List.mem_cons_of_mem _ hy))]
end
theorem goodI : GoodRd rdI eInt InR := ⟨fun _ h => rdI_good h, fun _ _ _ h => rdI_eInt h⟩
theorem goodN : GoodRd rdN eNum (fun n => 0 ≤ n ∧ InR n) := ⟨fun s h => by obtain ⟨a, b, c, d⟩ := rdN_good h; exact ⟨a, ⟨b, c⟩, d⟩, fun _ _ _ h => rdN_eNum h.2 h.1⟩
theorem goodT : GoodRd rdT eText (fun t => InR t.length) := ⟨fun _ h => rdT_good h, fun _ _ _ h => rdT_eText h⟩
/-- Lists of values, as they are written: their number ahead, and a mark at the end. -/
def rdL {α : Type} (p : List UInt8 → Option (α × List UInt8)) (s : RS) : List α × RS := match rList p s.r with
  | some (l, r') => (l, ⟨r', s.f⟩)
  | none => ([], ⟨[], true⟩)
theorem goodL {α : Type} {p : List UInt8 → Option (α × List UInt8)} {enc : α → List UInt8} {ok : α → Prop} (hp : ∀ s a r, p s = some (a, r) ↔ ok a ∧ s = enc a ++ r) : GoodRd (rdL p) (eList enc) (fun l => InR l.length ∧ ∀ a ∈ l, ok a) := by
  refine ⟨fun s h => ?_, fun x r f h => ?_⟩
  · unfold rdL at h ⊢
    split at h
    · next l r' e =>
      obtain ⟨h1, h2, h3⟩ := (rList_iff hp s.r l r').1 e
      exact ⟨h, ⟨h1, h2⟩, h3⟩
    · cases h
  · unfold rdL
    rw [show rList p (⟨eList enc x ++ r, f⟩ : RS).r = some (x, r) from (rList_iff hp _ x r).2 ⟨h.1, h.2, rfl⟩]
/-- Two readers, one behind the other. -/
theorem GoodRd.both {α β : Type} {rd : RS → α × RS} {enc : α → List UInt8} {ok : α → Prop} {rd' : RS → β × RS} {enc' : β → List UInt8} {ok' : β → Prop} (h : GoodRd rd enc ok) (h' : GoodRd rd' enc' ok') :
    GoodRd (fun s => (((rd s).1, (rd' (rd s).2).1), (rd' (rd s).2).2)) (fun x => enc x.1 ++ enc' x.2) (fun x => ok x.1 ∧ ok' x.2) := by
  refine ⟨fun s hf => ?_, fun x r f hx => ?_⟩
  · obtain ⟨a1, a2, a3⟩ := h'.good _ hf
    obtain ⟨b1, b2, b3⟩ := h.good s a1
    exact ⟨b1, ⟨b2, a2⟩, by rw [b3, a3, List.append_assoc]⟩
  · show ((_, _), _) = _
    rw [List.append_assoc, h.back x.1 _ f hx.1]
    show ((x.1, (rd' ⟨enc' x.2 ++ r, f⟩).1), (rd' ⟨enc' x.2 ++ r, f⟩).2) = _
    rw [h'.back x.2 r f hx.2]
/-- The same under another form of the values. -/
theorem GoodRd.as {α β : Type} {rd : RS → α × RS} {enc : α → List UInt8} {ok : α → Prop} (h : GoodRd rd enc ok) (f : α → β) (g : β → α) (hfg : ∀ x, g (f x) = x) (hgf : ∀ y, f (g y) = y) :
    GoodRd (fun s => (f (rd s).1, (rd s).2)) (fun y => enc (g y)) (fun y => ok (g y)) := by
  refine ⟨fun s hf => ?_, fun x r b hx => ?_⟩
  · obtain ⟨a1, a2, a3⟩ := h.good s hf
    show _ ∧ ok (g (f _)) ∧ _ = enc (g (f _)) ++ _
    rw [hfg]
    exact ⟨a1, a2, a3⟩
  · show (f (rd ⟨enc (g x) ++ r, b⟩).1, (rd ⟨enc (g x) ++ r, b⟩).2) = _
    rw [h.back (g x) r b hx, hgf]
end Go.Proofs.YtlfjbiiacnikhaaDoor.Wire
