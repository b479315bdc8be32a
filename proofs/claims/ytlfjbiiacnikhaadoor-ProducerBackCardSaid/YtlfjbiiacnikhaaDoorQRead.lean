/-
  A table of producers as bytes: what is written, and what is read of any bytes. Nothing of the program stands here. No condition.
-/
import Derived.Test.YtlfjbiiacnikhaaDoorQModel
import Derived.Test.YtlfjbiiacnikhaaDoorRS
namespace Go.Proofs.YtlfjbiiacnikhaaDoor
namespace Pq
open Wire

def eNums (l : List Int) : List UInt8 := eList eInt l
def eP (p : P) : List UInt8 := eInt p.id ++ eInt p.ep ++ eInt p.nx ++ eNums p.last
def eT (s : List P) : List UInt8 := eNum s.length ++ s.flatMap eP
/-- What of a producer can be written and read. -/
def WrP (p : P) : Prop := InR p.id ∧ InR p.ep ∧ InR p.nx ∧ InR p.last.length ∧ ∀ x ∈ p.last, InR x
def rdNums : RS → List Int × RS := rdL (rInt 59)
def rdP (s : RS) : P × RS := (⟨(rdI s).1, (rdI (rdI s).2).1, (rdI (rdI (rdI s).2).2).1, (rdNums (rdI (rdI (rdI s).2).2).2).1⟩, (rdNums (rdI (rdI (rdI s).2).2).2).2)
theorem goodNums : GoodRd rdNums eNums (fun l => InR l.length ∧ ∀ x ∈ l, InR x) := goodL rInt59_iff
theorem goodP : GoodRd rdP eP WrP := by
  refine ⟨fun s h => ?_, fun p r f h => ?_⟩
  · obtain ⟨d1, d2, d3⟩ := goodNums.good _ h
    obtain ⟨c1, c2, c3⟩ := goodI.good _ d1
    obtain ⟨b1, b2, b3⟩ := goodI.good _ c1
    obtain ⟨a1, a2, a3⟩ := goodI.good _ b1
    refine ⟨a1, ⟨a2, b2, c2, d2⟩, ?_⟩
    rw [a3, b3, c3, d3]
    unfold eP
    simp only [List.append_assoc]
    rfl
  · obtain ⟨a, b, c, l⟩ := p
    obtain ⟨h1, h2, h3, h4⟩ := h
    have e1 : (⟨eP ⟨a, b, c, l⟩ ++ r, f⟩ : RS) = ⟨eInt a ++ (eInt b ++ (eInt c ++ (eNums l ++ r))), f⟩ := by unfold eP; simp only [List.append_assoc]
    rw [e1]
    unfold rdP
    rw [goodI.back a _ f h1]
    dsimp only
    rw [goodI.back b _ f h2]
    dsimp only
    rw [goodI.back c _ f h3]
    dsimp only
    rw [goodNums.back l r f h4]
theorem Asc.inR : ∀ {m : Int} {l : List Int}, Asc m l → ∀ x ∈ l, InR x
  | _, [], _, x, hx => (by cases hx)
  | _, y :: l, h, x, hx => by
    rcases List.mem_cons.1 hx with e | e
    · rw [e]
      have := h.2.1
      unfold inB at this
      unfold InR
      omega
    · exact Asc.inR h.2.2 x e
theorem OkP.wr {p : P} (h : OkP p) (hi : inB p.id) : WrP p := by
  obtain ⟨h1, h2, h3, h4⟩ := h
  unfold inB at h1 h2 hi
  refine ⟨by unfold InR; omega, by unfold InR; omega, by unfold InR; omega, by unfold InR; omega, h4.inR⟩
theorem Right.wr {s : List P} (h : Right s) : ∀ p ∈ s, WrP p := fun p hp => by
  obtain ⟨_, h1, h2⟩ := Tab.mem h.2 hp
  exact h2.wr h1
theorem eP_ne (p : P) : 0 < (eP p).length := by
  unfold eP eInt
  simp
  omega
/-- What a string of bytes is read as: the right table of which it is the encoding. -/
noncomputable def readT (s : List UInt8) : Option (List P) := open Classical in if h : ∃ t, Right t ∧ eT t = s then some h.choose else none
theorem eT_inj {s t : List P} (hs : Right s) (ht : Right t) (h : eT s = eT t) : s = t := by
  have q1 := goodN.back (s.length : Int) (s.flatMap eP) false ⟨by omega, by have := hs.1; unfold InR; omega⟩
  have q2 := goodN.back (t.length : Int) (t.flatMap eP) false ⟨by omega, by have := ht.1; unfold InR; omega⟩
  have h' : eNum (s.length : Int) ++ s.flatMap eP = eNum (t.length : Int) ++ t.flatMap eP := h
  rw [h', q2] at q1
  injection q1 with q3 q4
  injection q4 with q4
  have hl : t.length = s.length := by omega
  have k1 := rdTimes_all goodP s [] false hs.wr
  have k2 := rdTimes_all goodP t [] false ht.wr
  rw [List.append_nil] at k1 k2
  rw [← q4, ← hl, k2] at k1
  injection k1 with k1
  exact k1.symm
theorem readT_eT {t : List P} (h : Right t) : readT (eT t) = some t := by
  unfold readT
  have hx : ∃ u, Right u ∧ eT u = eT t := ⟨t, h, rfl⟩
  rw [dif_pos hx]
  obtain ⟨h1, h2⟩ := hx.choose_spec
  rw [eT_inj h1 h h2]
theorem readT_some {s : List UInt8} {t : List P} (h : readT s = some t) : Right t ∧ eT t = s := by
  unfold readT at h
  split at h
  · next k =>
    injection h with h
    rw [← h]
    exact k.choose_spec
  · cases h
end Pq
end Go.Proofs.YtlfjbiiacnikhaaDoor
