/-
  The reference's disk: Arm; every method in blocks of S alone; the law's helper tell.
-/
import Derived.Test.YtninopllfbiccaaDoorDGj
namespace Go.Proofs.YtninopllfbiccaaDoor
set_option maxRecDepth 100000
open Go Go.RowKit Go.Maps Dk

def armR (X : R) (n : Int) (l : List Int) : R := { X with left := n.toNat, keep := l }
set_option maxHeartbeats 2000000 in
set_option maxRecDepth 100000 in
theorem rarm_c (r : Nat) (fv qv kv : Value) (X : R) (n : Int) (v : Value) (l : List Int) (w : World) (h : RAt w r fv qv kv X) (hs : KeepAt w v l (fun k => k = r)) (hl : l.length ≤ 4398046511104) :
    Calls Tryd.prog 19 #[.pointer (some ⟨r, 0, none⟩), .int .i64 n, v] w fun e w' => e = .returned (.tuple #[]) ∧ ∃ kv', RAt w' r fv qv kv' (armR X n l) ∧ (∀ k, kv'.ownBlock = some k → w.heap.size ≤ k) ∧ Kept (fun k => k = r) w w' := by
  obtain ⟨i0, hi0, hz0, hz1, hz2⟩ := info_parts infoInt
  obtain ⟨va, vc, rfl, hsrc⟩ := hs
  obtain ⟨m, hme⟩ : ∃ m, m = n.toNat := ⟨_, rfl⟩
  have hm : (if n < 0 then (0 : Int) else n) = (m : Int) := by split <;> omega
  have c4 := h.c4
  have z4 := h.z 4
  obtain ⟨W1, hW1⟩ : ∃ W1, W1 = w.setCell ⟨r, 4, none⟩ (.int .i64 (m : Int)) := ⟨_, rfl⟩
  have hk1 : Kept (fun k => k = r) w W1 := by rw [hW1]; exact Kept.set r 4 w _
  have hs1 : W1.heap.size = w.heap.size := by rw [hW1]; simp [World.setCell]
  have hR1 := h.recell hk1 X.lost m X.down (by rw [hW1]; exact cells6_set h.cell 4 (.int .i64 (m : Int)) (by omega))
  have hnew : ((W1.alloc (.cells #[] 3)).ownsRow W1.heap.size 3 1 (.slice (some ⟨W1.heap.size, 0, none⟩) 0 0) 0 []) := World.ownsRow_made W1 #[] 0 (Nat.le_refl _) (Nat.zero_le _) rfl
  obtain ⟨v1, w1, hr, ho, hg, hb⟩ := run_append_any_own (P := Tryd.prog) (W1.alloc (.cells #[] 3)) W1.heap.size 36 36 3 i0 (.int .i64 0) 1 8 Tryd.underlying36 hi0 hz0 hz1 hz2 rfl (by decide) _ _ _ hnew va l.length vc (intsV l) (by simp [intsV])
    (fun hpos => by
      obtain ⟨b, off, e, hb, hc⟩ := hsrc (List.length_pos_iff.1 hpos)
      refine ⟨_, e, fun j u hu => ?_⟩
      obtain ⟨x, hx, rfl⟩ : ∃ x, l[j]? = some x ∧ u = .int .i64 x := by
        simp only [intsV, List.getElem?_map] at hu
        cases hlj : l[j]? with
        | none => rw [hlj] at hu; cases hu
        | some x => rw [hlj] at hu; exact ⟨x, rfl, by injection hu with hu; exact hu.symm⟩
      rw [Lib.add_plain]
      exact Lib.cell?_alloc_some _ (hk1.cell (hc j x hx) hb)) (by intro u hu; obtain ⟨x, _, rfl⟩ := List.mem_map.1 hu; rfl) (by unfold maxLen; omega) (by omega) (by simp)
  rw [Nat.zero_add, List.nil_append] at ho
  obtain ⟨a1, c1, rfl, _⟩ := own_shape (own_base ho)
  rw [hs1] at hr
  have hkg : Kept (fun k => W1.heap.size ≤ k) W1 w1 := (Kept.alloc _ W1 _).trans (Kept.grown hg (fun k e => e)) (fun k _ e => by injection e with e; simp at e; omega)
  have hb1 : Below W1.heap.size W1 w1 := hkg.toBelow (Nat.le_refl _) (fun k e => e)
  have hR2 := hR1.on hb1
  have hka : ∀ k, (Value.slice a1 l.length c1).ownBlock = some k → w.heap.size ≤ k := fun k e => by
    rw [← hs1]
    exact own_above ho e
  have hrw : r < w.heap.size := h.lt (Or.inl rfl)
  have j5 := hR2.c5
  have z5 := hR2.z 5
  have hk3 := Kept.set r 5 w1 (.slice a1 l.length c1)
  have hfin : RAt (w1.setCell ⟨r, 5, none⟩ (.slice a1 l.length c1)) r fv qv (.slice a1 l.length c1) (armR X n l) := by
    have e : armR X n l = { X with lost := X.lost, left := m, down := X.down, keep := l } := by unfold armR; rw [hme]
    rw [e]
    exact {
      cell := cells6_set hR2.cell 5 _ (by omega)
      files := own_kept hR2.files hk3 (fun k e e' => h.nf (by rw [e, e']))
      queue := own_kept hR2.queue hk3 (fun k e e' => h.nq (by rw [e, e']))
      keep := own_kept (own_base ho) hk3 (fun k e e' => by have := hka k e; omega)
      nf := h.nf, nq := h.nq
      nk := fun e => by have := hka r e; omega
      fq := h.fq
      fk := fun k e e' => by have h1 := hka k e'; have h2 := h.lt (Or.inr (Or.inl e)); omega
      qk := fun k e e' => by have h1 := hka k e'; have h2 := h.lt (Or.inr (Or.inr (Or.inl e))); omega }
  have hkk : Kept (fun k => k = r) w (w1.setCell ⟨r, 5, none⟩ (.slice a1 l.length c1)) := (hk1.trans (Kept.below (S := fun k => k = r) hb1) (fun _ _ e => e)).trans hk3 (fun _ _ e => e)
  have HR := Lib.hid hr
  have HFIN := Lib.hid hfin
  have HKA := Lib.hid hka
  have HKK := Lib.hid hkk
  clear h hsrc hk1 hR1 hnew hr ho hg hb hkg hb1 hR2 hka hk3 hfin hkk hme
  go_enter Tryd.func19, Tryd.ntmps19
  go_wp2_with (at_builtin; rw [← hW1]; refine Lib.wpList_append_run _ rfl _ _ _ _ rfl _ _ rfl rfl _ w1 HR.out ?_)
  go_end0
  exact ⟨rfl, _, HFIN.out, HKA.out, HKK.out⟩

theorem RStep.rin {w w' : World} {r : Nat} {fv qv kv : Value} {X' : R} {S : Nat → Prop} (hS : ∀ k, InR r fv qv kv k → S k) (h : RStep w w' r fv qv kv X') : RIn w' r (After S w) X' ∧ Kept S w w' := by
  obtain ⟨fv', qv', a0, a1, a2, ak⟩ := h
  refine ⟨⟨fv', qv', kv, a0, fun k hin => ?_⟩, ak.mono (fun k _ e => ?_)⟩
  · rcases hin with e | e | e | e
    · exact Or.inl (hS k (Or.inl e))
    · rcases a1 k e with e | e
      · exact Or.inl (hS k (Or.inr (Or.inl e)))
      · exact Or.inr e
    · rcases a2 k e with e | e
      · exact Or.inl (hS k (Or.inr (Or.inr (Or.inl e))))
      · exact Or.inr e
    · exact Or.inl (hS k (Or.inr (Or.inr (Or.inr e))))
  · rcases e with e | e | e
    · exact hS k (Or.inl e)
    · exact hS k (Or.inr (Or.inl e))
    · exact hS k (Or.inr (Or.inr (Or.inl e)))
theorem RIn.same {w : World} {r : Nat} {S : Nat → Prop} {X : R} (h : RIn w r S X) (w0 : World) : RIn w r (After S w0) X := h.mono (fun _ _ e => Or.inl e)
/-- What is asked of the reference's disk for an act. -/
structure TellOk (X : R) (a : Act) : Prop where
  ok : X.Ok
  c0 : (comesR X 0 0 []).Ok
  wA : Dk.ok a.f = true → fitsM a.n a.s = true → (addR (lessR X) a.f.toNat a.n.toNat a.s).Ok
  wC : (comesR X a.f a.n a.s).Ok
  s : a.s.length ≤ 1000000
theorem addR_nil (X : R) (f a : Nat) : addR X f a [] = X := by unfold addR; rw [if_pos rfl]
theorem TellOk.a0 {X : R} {a : Act} (h : TellOk X a) : (addR (lessR X) 0 0 []).Ok := by rw [addR_nil]; exact lessR_ok h.ok
theorem xsync_c (r : Nat) (S : Nat → Prop) (X : R) (a : Act) (ht : TellOk X a) (hf : In64 a.f) (w : World) (h : RIn w r S X) :
    Calls Tryd.prog 42 #[.pointer (some ⟨r, 0, none⟩), .int .i64 a.f] w fun e w' => e = .returned (.int .i64 (syncR X a.f).2) ∧ RIn w' r (After S w) (syncR X a.f).1 ∧ Kept S w w' := by
  obtain ⟨fv, qv, kv, h, hS⟩ := h
  refine (rsync_c r fv qv kv X ht.ok a.f hf ht.a0 ht.c0 w h).mono ?_
  rintro e w' ⟨rfl, hs⟩
  exact ⟨rfl, hs.rin hS⟩
theorem xwrite_c (r : Nat) (S : Nat → Prop) (X : R) (a : Act) (ht : TellOk X a) (hf : In64 a.f) (hn : In64 a.n) (w : World) (h : RIn w r S X) :
    Calls Tryd.prog 32 #[.pointer (some ⟨r, 0, none⟩), .int .i64 a.f, .int .i64 a.n, .string ⟨a.s.toArray⟩] w fun e w' => e = .returned (.int .i64 (writeR X a.f a.n a.s).2) ∧ RIn w' r (After S w) (writeR X a.f a.n a.s).1 ∧ Kept S w w' := by
  obtain ⟨fv, qv, kv, h, hS⟩ := h
  refine (rwrite_c r fv qv kv X ht.ok a.f a.n a.s hf hn ht.s ht.wA ht.wC w h).mono ?_
  rintro e w' ⟨rfl, hs⟩
  exact ⟨rfl, hs.rin hS⟩
theorem xlose_c (r : Nat) (S : Nat → Prop) (X : R) (n : Int) (w : World) (h : RIn w r S X) :
    Calls Tryd.prog 17 #[.pointer (some ⟨r, 0, none⟩), .int .i64 n] w fun e w' => e = .returned (.tuple #[]) ∧ RIn w' r (After S w) { X with lost := n.toNat } ∧ Kept S w w' := by
  obtain ⟨fv, qv, kv, h, hS⟩ := h
  refine (rlose_c r fv qv kv X n w h).mono ?_
  rintro e w' ⟨rfl, hs, hk⟩
  exact ⟨rfl, RStep.rin hS (RStep.mk hs (fun k e => Or.inl e) (fun k e => Or.inl e) (hk.mono (fun k _ e => Or.inl e)))⟩
theorem xstart_c (r : Nat) (S : Nat → Prop) (X : R) (w : World) (h : RIn w r S X) :
    Calls Tryd.prog 22 #[.pointer (some ⟨r, 0, none⟩)] w fun e w' => e = .returned (.tuple #[]) ∧ RIn w' r (After S w) { X with down := false } ∧ Kept S w w' := by
  obtain ⟨fv, qv, kv, h, hS⟩ := h
  refine (rstart_c r fv qv kv X w h).mono ?_
  rintro e w' ⟨rfl, hs, hk⟩
  exact ⟨rfl, RStep.rin hS (RStep.mk hs (fun k e => Or.inl e) (fun k e => Or.inl e) (hk.mono (fun k _ e => Or.inl e)))⟩
theorem KeepAt.less {w : World} {v : Value} {l : List Int} {S T : Nat → Prop} (h : KeepAt w v l S) (hT : ∀ k, T k → S k) : KeepAt w v l T := by
  obtain ⟨a, c, h1, h2⟩ := h
  refine ⟨a, c, h1, fun hne => ?_⟩
  obtain ⟨b, off, h3, h4, h5⟩ := h2 hne
  exact ⟨b, off, h3, fun e => h4 (hT b e), h5⟩
theorem xcrash_c (r : Nat) (S : Nat → Prop) (X : R) (hX : X.Ok) (v : Value) (l : List Int) (w : World) (h : RIn w r S X) (hs : KeepAt w v l S) (hl : l.length ≤ 9223372036854775807) :
    Calls Tryd.prog 21 #[.pointer (some ⟨r, 0, none⟩), v] w fun e w' => e = .returned (.tuple #[]) ∧ RIn w' r (After S w) (crashR X l) ∧ Kept S w w' := by
  obtain ⟨fv, qv, kv, h, hS⟩ := h
  refine (rcrash_c r fv qv kv X hX v l w h (hs.less (fun k e => ?_)) hl).mono ?_
  · rcases e with e | e | e
    · exact hS k (Or.inl e)
    · exact hS k (Or.inr (Or.inl e))
    · exact hS k (Or.inr (Or.inr (Or.inl e)))
  · rintro e w' ⟨rfl, hs⟩
    exact ⟨rfl, hs.rin hS⟩
theorem xarm_c (r : Nat) (S : Nat → Prop) (X : R) (n : Int) (v : Value) (l : List Int) (w : World) (h : RIn w r S X) (hs : KeepAt w v l S) (hl : l.length ≤ 4398046511104) :
    Calls Tryd.prog 19 #[.pointer (some ⟨r, 0, none⟩), .int .i64 n, v] w fun e w' => e = .returned (.tuple #[]) ∧ RIn w' r (After S w) (armR X n l) ∧ Kept S w w' := by
  obtain ⟨fv, qv, kv, h, hS⟩ := h
  refine (rarm_c r fv qv kv X n v l w h (hs.less (fun k e => hS k (Or.inl e))) hl).mono ?_
  rintro e w' ⟨rfl, kv', h1, h2, hk⟩
  refine ⟨rfl, ⟨fv, qv, kv', h1, fun k hin => ?_⟩, hk.mono (fun k _ e => hS k (Or.inl e))⟩
  rcases hin with e | e | e | e
  · exact Or.inl (hS k (Or.inl e))
  · exact Or.inl (hS k (Or.inr (Or.inl e)))
  · exact Or.inl (hS k (Or.inr (Or.inr (Or.inl e))))
  · exact Or.inr (h2 k e)
theorem RIn.first {S : Nat → Prop} {w W0 w' : World} {d : Nat} {X : R} (h0 : w.heap.size ≤ W0.heap.size) (h : RIn w' d (After S W0) X) : RIn w' d (After S w) X := h.mono (fun k _ e => by
  rcases e with e | e
  · exact Or.inl e
  · exact Or.inr (Nat.le_trans h0 e))
def tellM (X : R) (a : Act) : R × Int :=
  if code a = 2 then syncR X a.f else if code a = 3 then truncR X a.f a.n else if code a = 4 then ({ X with lost := (bits .and .i64 a.n 3).toNat }, 0) else if code a = 5 then (armR X a.n a.keep, 0)
  else if code a = 6 then (crashR X a.keep, 0) else if code a = 7 then ({ X with down := false }, 0) else writeR X a.f a.n a.s
end Go.Proofs.YtninopllfbiccaaDoor
