/-
  The program's reader of numbers as states; a table is read: pure.
-/
import Derived.Test.YtlfjbiiacnikhaaDoorQEnc
import Derived.Test.YtlfjbiiacnikhaaDoorReadC
namespace Go.Proofs.YtlfjbiiacnikhaaDoor
set_option maxRecDepth 100000
open Go Go.RowKit Go.Sort Wire Pq

/-- A reader beside a world of old. -/
structure RA (w0 w : World) (b : Nat) (s : RS) : Prop where
  low : Below w0.heap.size w0 w
  hb : w0.heap.size ≤ b
  rd : Rd w b s.r s.f
  ok : s.ok
theorem only_kept {b : Nat} {w w' : World} (h : Only b w w') : Kept (fun k => k = b) w w' := Kept.grown h (fun k e => by injection e with e; exact e.symm)
section
variable {w0 w w' : World} {b : Nat} {s : RS}
theorem RA.on (h : RA w0 w b s) (hb : Below w.heap.size w w') : RA w0 w' b s := ⟨h.low.trans (hb.mono h.low.size), h.hb, h.rd.on hb, h.ok⟩
theorem RA.far (h : RA w0 w b s) {S : Nat → Prop} (hk : Kept S w w') (h1 : ∀ k, S k → w0.heap.size ≤ k) (h2 : ¬ S b) : RA w0 w' b s := ⟨h.low.trans (hk.toBelow h.low.size h1), h.hb, hk.heap h.rd h2, h.ok⟩
theorem RA.only (h : RA w0 w b s) (ho : Only b w w') {s' : RS} (hr : Rd w' b s'.r s'.f) (hs : s'.ok) : RA w0 w' b s' := ⟨h.low.trans ((only_kept ho).toBelow h.low.size (fun k e => by rw [e]; exact h.hb)), h.hb, hr, hs⟩
theorem ra_int (h : RA w0 w b s) (hg : Good w0) (hl : s.r.length ≤ 4000000) : Calls Tryd.prog 18 #[.pointer (some ⟨b, 0, none⟩)] w fun e w' => e = .returned (.int .i64 (rdI s).1) ∧ RA w0 w' b (rdI s).2 ∧ Only b w w' := by
  have hok := rdI_ok h.ok
  cases hr : rInt 59 s.r with
  | some p =>
    obtain ⟨n, r'⟩ := p
    have e : rdI s = (n, ⟨r', s.f⟩) := by unfold rdI; rw [hr]
    rw [e] at hok ⊢
    exact (rIntM_ok b s.r s.f n r' hr (by omega) w (hg.on h.low) h.rd).mono fun e w' ⟨he, h1, h2⟩ => ⟨he, h.only h2 h1 hok, h2⟩
  | none =>
    have e : rdI s = (0, ⟨[], true⟩) := by unfold rdI; rw [hr]
    rw [e] at hok ⊢
    exact (rIntM_no b s.r s.f hr (by omega) w (hg.on h.low) h.rd).mono fun e w' ⟨he, h1, h2⟩ => ⟨he, h.only h2 h1 hok, h2⟩
theorem ra_num (h : RA w0 w b s) (hg : Good w0) (hl : s.r.length ≤ 4000000) : Calls Tryd.prog 16 #[.pointer (some ⟨b, 0, none⟩)] w fun e w' => e = .returned (.int .i64 (rdN s).1) ∧ RA w0 w' b (rdN s).2 ∧ Only b w w' := by
  have hok := rdN_ok h.ok
  cases hr : rNum 59 s.r with
  | some p =>
    obtain ⟨n, r'⟩ := p
    have e : rdN s = (n, ⟨r', s.f⟩) := by unfold rdN; rw [hr]
    rw [e] at hok ⊢
    exact (rNumM_ok b s.r s.f n r' hr (by omega) w (hg.on h.low) h.rd).mono fun e w' ⟨he, h1, h2⟩ => ⟨he, h.only h2 h1 hok, h2⟩
  | none =>
    have e : rdN s = (0, ⟨[], true⟩) := by unfold rdN; rw [hr]
    rw [e] at hok ⊢
    exact (rNumM_no b s.r s.f hr (by omega) w (hg.on h.low) h.rd).mono fun e w' ⟨he, h1, h2⟩ => ⟨he, h.only h2 h1 hok, h2⟩
/-- Numbers are read. -/
def NumsPost (w0 w : World) (b : Nat) (s : RS) (e : Ending) (w' : World) : Prop := ∃ a c, e = .returned (.slice a (rdNums s).1.length c) ∧ Src (fun x => w.heap.size ≤ x) w' a c (rdNums s).1.length (numsV (rdNums s).1) ∧ (rdNums s).1.length ≤ 9223372036854775807 ∧ RA w0 w' b (rdNums s).2 ∧ Only b w w'
theorem ra_nums (h : RA w0 w b s) (hg : Good w0) (hb6 : 4 ≤ b) (hl : s.r.length ≤ 4000000) : Calls Tryd.prog 19 #[.pointer (some ⟨b, 0, none⟩)] w fun e w' => NumsPost w0 w b s e w' := by
  refine (rNumsM_c b s.r s.f h.ok (by omega) w (hg.on h.low) hb6 h.rd).mono fun e w' hp => ?_
  obtain ⟨ho, hp⟩ := hp
  rcases hp with ⟨l, q, v, h1, h2, h3, h4⟩ | ⟨h1, h2, h3⟩
  · have hf : s.f = false := by
      cases hf : s.f with
      | false => rfl
      | true =>
        have := h.ok hf
        rw [this] at h1
        cases h1
    have e1 : rdNums s = (l, ⟨q, false⟩) := by unfold rdNums rdL; rw [h1, hf]
    obtain ⟨a, c, rfl, hc, hm, _⟩ := own_shape (own_base h3)
    refine ⟨a, c, by rw [e1]; exact h2, ?_, by rw [e1]; show l.length ≤ _; unfold maxLen at hm; omega, by rw [e1]; exact h.only ho h4 (fun hf => by cases hf), ho⟩
    rw [e1]
    exact Src.own (show w'.ownsRow w.heap.size 3 1 (.slice a l.length c) l.length (numsV l) from h3) (fun k hk => own_above h3 hk)
  · have e1 : rdNums s = ([], ⟨[], true⟩) := by unfold rdNums rdL; rw [h1]
    refine ⟨none, 0, by rw [e1]; exact h2, by rw [e1]; exact Src.nil _ _, by rw [e1]; decide, by rw [e1]; exact h.only ho h3 (fun _ => rfl), ho⟩
end
theorem rdNums_le (s : RS) : (rdNums s).2.r.length ≤ s.r.length := by
  unfold rdNums rdL
  split
  · next l r' e =>
    obtain ⟨_, _, h3⟩ := (rList_iff rInt59_iff s.r l r').1 e
    show r'.length ≤ _
    rw [h3, List.length_append]
    omega
  · exact Nat.zero_le _
theorem rdI_lt {s : RS} (h : 0 < s.r.length) : (rdI s).2.r.length < s.r.length := by
  unfold rdI
  split
  · next n r' e => exact rInt_shorter (by decide) e
  · exact h
theorem rdP_lt {s : RS} (h : 0 < s.r.length) : (rdP s).2.r.length < s.r.length := by
  have h1 := rdI_lt h
  have h2 := rdI_le (rdI s).2
  have h3 := rdI_le (rdI (rdI s).2).2
  have h4 := rdNums_le (rdI (rdI (rdI s).2).2).2
  show (rdNums (rdI (rdI (rdI s).2).2).2).2.r.length < _
  omega
theorem rdWhile_step {s : RS} (n : Nat) (h : 0 < s.r.length) : rdWhile rdP (n + 1) s = ((rdP s).1 :: (rdWhile rdP n (rdP s).2).1, (rdWhile rdP n (rdP s).2).2) :=
  if_neg (by omega)
theorem rdWhile_end {s : RS} (N : Nat) (h : s.r.length = 0) : rdWhile rdP N s = ([], s) := by
  cases N with
  | zero => rfl
  | succ n => unfold rdWhile; rw [if_pos h]
/-- What the program finds is the table of which these bytes are the encoding. -/
theorem readT_yes {S : List UInt8} {t : List P} {s : RS} (hc : (rdN ⟨S, false⟩).1 = (t.length : Int)) (hw : rdWhile rdP (rdN ⟨S, false⟩).2.r.length (rdN ⟨S, false⟩).2 = (t, s)) (hf : s.f = false) (hr : s.r = []) (ht : Right t) : readT S = some t ∧ eT t = S := by
  have h1 := rdWhile_good goodP (rdN ⟨S, false⟩).2.r.length (rdN ⟨S, false⟩).2 (by rw [hw]; exact hf)
  rw [hw] at h1
  obtain ⟨g1, _, g3, _⟩ := h1
  have h2 := goodN.good ⟨S, false⟩ g1
  obtain ⟨_, _, k3⟩ := h2
  have e : eT t = S := by
    unfold eT
    have k3 : S = eNum (rdN ⟨S, false⟩).1 ++ (rdN ⟨S, false⟩).2.r := k3
    rw [k3, hc, g3, hr, List.append_nil]
  exact ⟨by rw [← e]; exact readT_eT ht, e⟩
theorem readT_no {S : List UInt8} {l : List P} {s : RS} (hw : rdWhile rdP (rdN ⟨S, false⟩).2.r.length (rdN ⟨S, false⟩).2 = (l, s)) (hn : ¬ (s.f = false ∧ s.r = [] ∧ (l.length : Int) = (rdN ⟨S, false⟩).1 ∧ Right l)) : readT S = none := by
  cases hr : readT S with
  | none => rfl
  | some t =>
    exfalso
    obtain ⟨h1, h2⟩ := readT_some hr
    have q1 := goodN.back (t.length : Int) (t.flatMap eP) false ⟨by omega, by have := h1.1; unfold InR; omega⟩
    have h2' : eNum (t.length : Int) ++ t.flatMap eP = S := h2
    rw [h2'] at q1
    rw [q1] at hw hn
    have hlen : t.length ≤ (t.flatMap eP).length := by
      clear q1 h2 h2' hw hn hr h1
      induction t with
      | nil => exact Nat.le_refl _
      | cons p t ih =>
        rw [List.flatMap_cons, List.length_append, List.length_cons]
        have := eP_ne p
        omega
    rw [rdWhile_all goodP (fun x _ => eP_ne x) t _ hlen h1.wr] at hw
    injection hw with e1 e2
    subst e1 e2
    exact hn ⟨rfl, rfl, rfl, h1⟩
end Go.Proofs.YtlfjbiiacnikhaaDoor
