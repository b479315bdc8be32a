/-
  The reference's disk: settle.
-/
import Derived.Test.YthibikdnoogfoaaDGe
namespace Go.Proofs.Ythibikdnoogfoaa
open Go Go.RowKit Go.Maps Dk

def noR (q : List (Nat × Nat)) (f : Int) : List (Nat × Nat) := q.filter fun p => (p.1 : Int) != f
def settleR (X : R) (f : Int) (s : List UInt8) : R := { X with fs := setR X.fs ⟨f, s, s⟩, q := noR X.q f }
theorem noR_len (q : List (Nat × Nat)) (f : Int) : (noR q f).length ≤ q.length := List.length_filter_le _ _

/-- Another list of pending sectors, in memory of its own. -/
theorem rstep_q {w w' : World} {r : Nat} {fv qv kv : Value} {X : R} (h : RAt w r fv qv kv X) {v : Value} {q' : List (Nat × Nat)} (ho : w'.ownsRow 0 81 2 v q'.length (secsV q')) (hb : Below w.heap.size w w') (hv : ∀ k, v.ownBlock = some k → w.heap.size ≤ k) :
    RStep w (w'.setCell ⟨r, 1, none⟩ v) r fv qv kv { X with q := q' } := by
  have hrw : r < w.heap.size := h.lt (Or.inl rfl)
  have h' := h.on hb
  have hk2 := Kept.set r 1 w' v
  have hnq : v.ownBlock ≠ some r := fun e => by have := hv r e; omega
  refine RStep.mk (fv' := fv) (qv' := v) { cell := cells6_set h'.cell 1 _ (by omega), files := ?_, queue := ?_, keep := ?_, nf := h.nf, nq := hnq, nk := h.nk, fq := fun k e e' => ?_, fk := h.fk, qk := fun k e e' => ?_ } (fun k e => Or.inl e) (fun k e => Or.inr (hv k e)) ((Kept.below (S := fun k => k = r ∨ fv.ownBlock = some k ∨ qv.ownBlock = some k) hb).trans hk2 (fun k _ e => Or.inl e))
  · exact own_kept h'.files hk2 (fun k e e' => h.nf (by rw [e, e']))
  · exact own_kept ho hk2 (fun k e e' => hnq (by rw [e, e']))
  · exact own_kept h'.keep hk2 (fun k e e' => h.nk (by rw [e, e']))
  · have h1 := h.lt (Or.inr (Or.inl e)); have h2 := hv k e'; omega
  · have h1 := h.lt (Or.inr (Or.inr (Or.inr e'))); have h2 := hv k e; omega
/-- Another list of files, in memory of its own. -/
theorem rstep_f {w w' : World} {r : Nat} {fv qv kv : Value} {X : R} (h : RAt w r fv qv kv X) {v : Value} {fs' : List RF} (ho : w'.ownsRow 0 69 3 v fs'.length (filesV fs')) (hb : Below w.heap.size w w') (hv : ∀ k, v.ownBlock = some k → w.heap.size ≤ k) :
    RStep w (w'.setCell ⟨r, 0, none⟩ v) r fv qv kv { X with fs := fs' } := by
  have hrw : r < w.heap.size := h.lt (Or.inl rfl)
  have h' := h.on hb
  have hk2 := Kept.set r 0 w' v
  have hnf : v.ownBlock ≠ some r := fun e => by have := hv r e; omega
  refine RStep.mk (fv' := v) (qv' := qv) { cell := cells6_set h'.cell 0 _ (by omega), files := ?_, queue := ?_, keep := ?_, nf := hnf, nq := h.nq, nk := h.nk, fq := fun k e e' => ?_, fk := fun k e e' => ?_, qk := h.qk } (fun k e => Or.inr (hv k e)) (fun k e => Or.inl e) ((Kept.below (S := fun k => k = r ∨ fv.ownBlock = some k ∨ qv.ownBlock = some k) hb).trans hk2 (fun k _ e => Or.inl e))
  · exact own_kept ho hk2 (fun k e e' => hnf (by rw [e, e']))
  · exact own_kept h'.queue hk2 (fun k e e' => h.nq (by rw [e, e']))
  · exact own_kept h'.keep hk2 (fun k e e' => h.nk (by rw [e, e']))
  · have h1 := h.lt (Or.inr (Or.inr (Or.inl e'))); have h2 := hv k e; omega
  · have h1 := h.lt (Or.inr (Or.inr (Or.inr e'))); have h2 := hv k e; omega

set_option maxHeartbeats 2000000 in
set_option maxRecDepth 100000 in
theorem rsettle_c (r : Nat) (fv qv kv : Value) (X : R) (hX : X.Ok) (f : Int) (s : List UInt8) (w : World) (h : RAt w r fv qv kv X) :
    Calls Try.prog 54 #[.pointer (some ⟨r, 0, none⟩), .int .i64 f, .string ⟨s.toArray⟩] w fun e w' => e = .returned (.tuple #[]) ∧ RStep w w' r fv qv kv (settleR X f s) := by
  have hfew := hX.few
  have hql := hX.len
  obtain ⟨qa, qc, rfl, _⟩ := own_shape h.queue
  obtain ⟨L, hL⟩ : ∃ L, L = X.q.length := ⟨_, rfl⟩
  rw [← hL] at h ⊢
  have q1 := rset_c r fv (.slice qa L qc) kv X ⟨f, s, s⟩ (by omega) w h
  rw [show rfV ⟨f, s, s⟩ = .agg #[.int .i64 f, .string ⟨s.toArray⟩, .string ⟨s.toArray⟩] from rfl] at q1
  have Q1 := Lib.hid q1
  have HL := Lib.hid hL
  have hLs : L ≤ 4456449 := by omega
  clear h q1 hL hql
  go_enter Try.func54, Try.ntmps54
  go_wp2_with (go_at_call 66; refine Q1.out.mono ?_; rintro e w1 ⟨rfl, fv1, hR1, hf1, hk1⟩)
  have HR1 := Lib.hid hR1
  have HF1 := Lib.hid hf1
  have HK1 := Lib.hid hk1
  clear hR1 hf1 hk1 Q1
  go_loopw [6, 7] (fun v6 v7 wr => ∃ k : Nat, k ≤ L ∧ v7 = .int .i64 (k : Int) ∧ Hid (wr.ownsRow w1.heap.size 81 2 v6 (noR (X.q.take k) f).length (secsV (noR (X.q.take k) f))) ∧ Below w1.heap.size w1 wr) (fun _ v7 _ => L - (intOf v7).toNat)
  case atStart => exact ⟨0, Nat.zero_le _, rfl, Lib.hid (World.ownsRow_nil _ _ _ _), Below.refl _ _⟩
  case round =>
    obtain ⟨k, hk, rfl, HO, hb⟩ := hrel
    have hR := HR1.out.on hb
    have c1 := hR.c1
    have HBB := Lib.hid hb
    by_cases hkl : k < L
    · have hkl' : (k : Int) < (L : Int) := by omega
      obtain ⟨p, hp⟩ : ∃ p, X.q[k]? = some p := ⟨X.q[k]'(by have := HL.out; omega), List.getElem?_eq_getElem _⟩
      obtain ⟨g, rfl, _, d0, d1⟩ := secs_cells (by have := hR.queue; exact this) hp
      have HP := Lib.hid hp
      clear hp
      by_cases hne : (p.1 : Int) = f
      · have hno : noR (X.q.take (k + 1)) f = noR (X.q.take k) f := by
          unfold noR
          rw [List.take_add_one, HP.out, List.filter_append]
          simp [hne]
        have HNO := Lib.hid hno
        clear hR hb hno
        go_wp2_with fail
        go_roundw
        case rel => exact ⟨k + 1, hkl, by go_num, by rw [HNO.out]; exact HO, HBB.out⟩
        case measure => simp [intOf]; omega
      · have hno : noR (X.q.take (k + 1)) f = noR (X.q.take k) f ++ [p] := by
          unfold noR
          rw [List.take_add_one, HP.out, List.filter_append]
          simp [hne]
        have hn10 : (noR (X.q.take k) f).length ≤ 10000000 := by
          have h1 := noR_len (X.q.take k) f
          have h2 : (X.q.take k).length ≤ k := by rw [List.length_take]; omega
          omega
        obtain ⟨a', c', w5, hr, ho5, hb5, hk5⟩ := app_sec wr w1.heap.size _ _ p HO.out hn10 hb.size
        rw [← hno] at ho5
        have hab : ∀ j, _ := fun j (e : _ = some j) => own_above HO.out e
        have hrel : ∃ k' : Nat, k' ≤ L ∧ Value.int .i64 ((k : Int) + 1) = .int .i64 (k' : Int) ∧ Hid (w5.ownsRow w1.heap.size 81 2 (.slice a' ((noR (X.q.take k) f).length + 1) c') (noR (X.q.take k') f).length (secsV (noR (X.q.take k') f))) ∧ Below w1.heap.size w1 w5 :=
          ⟨k + 1, hkl, by go_num, Lib.hid ho5, hb.trans (hk5.toBelow hb.size (fun j e => hab j e))⟩
        have HR := Lib.hid hr
        have HREL := Lib.hid hrel
        clear hR hb hno hr ho5 hb5 hk5 hrel hab hn10
        go_wp2_with (at_builtin; refine Lib.wpList_append_run _ rfl _ _ _ _ rfl _ _ rfl rfl _ w5 HR.out ?_)
        go_roundw
        case rel => exact HREL.out
        case measure => simp [intOf]; omega
    · have hkl' : ¬ (k : Int) < (L : Int) := by omega
      have htk : X.q.take k = X.q := List.take_of_length_le (by have := HL.out; omega)
      rw [htk] at HO
      obtain ⟨va, vc, hve, _⟩ := own_shape (own_base HO.out)
      have z1 := hR.z 1
      have hstep := rstep_q HR1.out (q' := noR X.q f) (own_base HO.out) hb (fun j e => own_above HO.out e)
      have hfin : RStep w (wr.setCell ⟨r, 1, none⟩ u6) r fv (.slice qa L qc) kv (settleR X f s) :=
        RStep.trans HR1.out (fun j e => Or.inr (HF1.out j e)) (fun j e => Or.inl e) (HK1.out.mono (fun j _ e => Or.inl e)) hstep
      have HFIN := Lib.hid hfin
      clear hR hb hstep hfin htk HO
      rw [hve] at HFIN ⊢
      clear hve
      go_wp2_with fail
      go_end0
      exact ⟨rfl, HFIN.out⟩
end Go.Proofs.Ythibikdnoogfoaa
