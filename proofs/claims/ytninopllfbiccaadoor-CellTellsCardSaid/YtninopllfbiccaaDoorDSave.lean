/-
  disk's files: a read; a sector made durable.
-/
import Derived.Test.YtninopllfbiccaaDoorDFile
import Derived.StillTailTactics
import Derived.Deep.RegionWith
namespace Go.Proofs.YtninopllfbiccaaDoor
set_option maxRecDepth 100000
open Go Go.RowKit Go.Maps Dk

theorem FileAt.set1 {w : World} {p : Nat} {nv dv : Value} {mb : Nat} {f : F} (h : FileAt w p nv dv mb f) {w1 : World} (hg : w.grownBy w1 dv.ownBlock) {dv' : Value} {d : List UInt8} (hd : w1.ownsRow 0 5 1 dv' d.length (bytesV d))
    (hb : dv'.ownBlock = dv.ownBlock ∨ ∃ k, dv'.ownBlock = some k ∧ w.heap.size ≤ k) : FileAt (w1.setCell ⟨p, 1, none⟩ dv') p nv dv' mb { f with dur := d } ∧ Kept (fun k => k = p ∨ dv.ownBlock = some k) w (w1.setCell ⟨p, 1, none⟩ dv') := by
  obtain ⟨a1, a2, a3, a4, a5, a6⟩ := h.apart
  have hk1 : Kept (fun k => dv.ownBlock = some k) w w1 := Kept.grown hg (fun k e => e)
  have hk2 := Kept.set p 1 w1 dv'
  have hdne : ∀ k, k < w.heap.size → dv'.ownBlock = some k → dv.ownBlock = some k := fun k hk e => by
    rcases hb with hb | ⟨k', hb, hk'⟩
    · rw [← hb]; exact e
    · rw [hb] at e; injection e with e; omega
  have hp : p < w.heap.size := h.lt (Or.inl rfl)
  have hm : mb < w.heap.size := h.lt (Or.inr (Or.inl rfl))
  have hcell : w1.heap[p]? = some (.cells #[nv, dv, .map (some mb)] 88 (0, 0)) := hk1.heap h.cell a4
  refine ⟨⟨?_, ?_, ?_, ?_, a1, a2, a3, fun e => a4 (hdne p hp e), fun e => a5 (hdne mb hm e), fun k e e' => a6 k e (hdne k (own_lt h.now e) e')⟩, (hk1.mono (S' := fun k => k = p ∨ dv.ownBlock = some k) fun i _ e => Or.inr e).trans hk2 (fun i hi e => Or.inl e)⟩
  · exact cells3_set hcell 1 dv' (by omega)
  · exact own_kept (own_kept h.now hk1 (fun k e => a6 k e)) hk2 (fun k e e' => a2 (by rw [e, e']))
  · exact own_kept hd hk2 (fun k e e' => a4 (hdne p hp (by rw [e, e'])))
  · exact (h.pend.kept hk1 a5).kept hk2 (fun e => a1 e.symm)

set_option maxHeartbeats 1000000 in
set_option maxRecDepth 100000 in
theorem save_c (p : Nat) (nv dv : Value) (mb : Nat) (f : F) (n : Nat) (w : World) (h : FileAt w p nv dv mb f) (hok : f.Ok) (hn : 64 * n < f.now.length) :
    Calls Tryd.prog 45 #[.pointer (some ⟨p, 0, none⟩), .int .i64 n] w fun e w' => e = .returned (.tuple #[]) ∧ ∃ dv', FileAt w' p nv dv' mb (f.save n) ∧ Kept (fun k => k = p ∨ dv.ownBlock = some k) w w' ∧ (dv'.ownBlock = dv.ownBlock ∨ ∃ k, dv'.ownBlock = some k ∧ w.heap.size ≤ k) := by
  obtain ⟨a, c, hnv, hc, _, _⟩ := own_shape h.now
  subst hnv
  have hsm := hok.small
  have hle := hok.le
  obtain ⟨en, hen⟩ : ∃ en, en = min (64 * n + 64) f.now.length := ⟨_, rfl⟩
  obtain ⟨at', hat⟩ : ∃ at', at' = 64 * n := ⟨_, rfl⟩
  obtain ⟨A, hA, hA1⟩ := slice_both a f.now.length c at' en (by omega) (by omega)
  obtain ⟨g, rfl, hg⟩ := own_at h.now rfl (by omega)
  obtain rfl : A = some ⟨g, at', none⟩ := by rw [hA1 (by omega)]; simp [Addr.add_lit]
  have hsl : (sec f.now n).length = en - at' := by rw [sec_length]; omega
  have hsrc : SrcAt w (.slice (some ⟨g, at', none⟩) (en - at') (c - at')) (sec f.now n) := by
    refine ⟨_, c - at', by rw [hsl], by omega, fun _ => ⟨g, at', rfl, fun j u hu => ?_⟩⟩
    have hj : j < (bytesV (sec f.now n)).length := (List.getElem?_eq_some_iff.1 hu).1
    rw [bytesV_length, hsl] at hj
    have := own_cell h.now rfl (at' + j) u (by
      rw [← hu]
      unfold sec
      rw [bytesV_take, bytesV_drop, List.getElem?_take_of_lt (by omega), List.getElem?_drop, hat])
    rw [Lib.add_plain] at this
    simpa using this
  have q0 := put_c f.dur (sec f.now n) dv (.slice (some ⟨g, at', none⟩) (en - at') (c - at')) at' w.drew h.dur hsrc (by
    intro b off c' e
    injection e with e
    injection e with e
    injection e with e1 e2
    subst e1
    exact h.apart.2.2.2.2.2 g hg) (by omega) (by omega)
  have q1 := q0.mono (R' := fun e w1 => ∃ a' m' c', e = .returned (.slice a' m' c') ∧ w1.cell? ⟨p, 1, none⟩ = some dv ∧ w1.frozen? ⟨p, 1, none⟩ = false ∧
      Hid (w1.ownsRow 0 5 1 (.slice a' m' c') (put f.dur at' (sec f.now n)).length (bytesV (put f.dur at' (sec f.now n))) ∧ w.drew.grownBy w1 dv.ownBlock ∧ ((Value.slice a' m' c').ownBlock = dv.ownBlock ∨ ∃ k, (Value.slice a' m' c').ownBlock = some k ∧ w.drew.heap.size ≤ k))) (by
    rintro e w1 ⟨v', rfl, ho, hg, hb⟩
    obtain ⟨a', c', rfl, _⟩ := own_shape ho
    have hp : w1.heap[p]? = some (.cells #[.slice (some ⟨g, 0, none⟩) f.now.length c, dv, .map (some mb)] 88 (0, 0)) := (hg.block p (h.lt (Or.inl rfl)) (fun e => h.apart.2.2.2.1 e.symm)).trans h.cell
    exact ⟨a', _, c', rfl, by rw [Lib.cell_of_heap hp]; rfl, Lib.frozen_of_heap hp 1, ho, hg, hb⟩)
  have k0 := h.c0
  have k1 := h.c1
  have H := Lib.hid h
  have Q := Lib.hid q1
  have hmul : 64 * (n : Int) = (at' : Int) := by omega
  have hmul2 : (n : Int) * 64 = (at' : Int) := by omega
  have hmin : (if ((f.now.length : Nat) : Int) < (at' : Int) + 64 then ((f.now.length : Nat) : Int) else (at' : Int) + 64) = (en : Int) := by split <;> omega
  have hn2 : n < 262144 := by omega
  have HAT := Lib.hid hat
  have HEN := Lib.hid hen
  have HHN := Lib.hid hn
  clear h q0 q1 hsrc hA1 hat hen hn
  go_enter Tryd.func45, Tryd.ntmps45
  go_upto_region 2 with fail
  go_region_law (go_simp; go_at_call 59; refine Q.out.mono ?_; rintro e w1 ⟨a', m', c', rfl, j1, z1, HP⟩)
  all_goals
    go_end0
    obtain ⟨ho, hg, hb⟩ := HP.out
    obtain ⟨r1, r2⟩ := H.out.set1 (d := put f.dur at' (sec f.now n)) ⟨hg.os, hg.tape, hg.output, hg.size, hg.block⟩ (dv' := .slice a' m' c') ho hb
    refine ⟨rfl, _, ?_, r2, hb⟩
    have e : f.save n = { f with dur := put f.dur at' (sec f.now n) } := by rw [HAT.out]; rfl
    rw [e]
    exact r1
end Go.Proofs.YtninopllfbiccaaDoor
