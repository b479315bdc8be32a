/-
  disk's files: a read; a sector made durable.
  disk's files: a read, the cut of a file, the return to its durable part, a new file.
  disk's files: the return to the durable part, a new file.
-/
import Derived.Test.YtljgfnglknpfaaaGreatDoorDFile
import Derived.StillTailTactics
import Derived.Deep.RegionWith
import Derived.Laws.BytesString
import Derived.Laws.IdiomStrings
namespace Go.Proofs.YtljgfnglknpfaaaGreatDoor
set_option maxRecDepth 100000
open Go Go.RowKit Go.Maps Dk

theorem FileAt.set1 {w : World} {p : Nat} {nv dv : Value} {mb : Nat} {f : F} (h : FileAt w p nv dv mb f) {w1 : World} (hg : w.grownBy w1 dv.ownBlock) {dv' : Value} {d : List UInt8} (hd : w1.ownsRow 0 5 1 dv' d.length (bytesV d))
    (hb : dv'.ownBlock = dv.ownBlock ∨ ∃ k, dv'.ownBlock = some k ∧ w.heap.size ≤ k) : FileAt (w1.setCell ⟨p, 1, none⟩ dv') p nv dv' mb { f with dur := d } ∧ Kept (fun k => k = p ∨ dv.ownBlock = some k) w (w1.setCell ⟨p, 1, none⟩ dv') := by
  obtain ⟨a1, a2, a3, a4, a5, a6⟩ := h.apart
  have hk1 : Kept (fun k => dv.ownBlock = some k) w w1 := Kept.grown hg (fun k e => e)
  have hk2 := Kept.set p 1 w1 dv'
  have hdne : ∀ k, k < w.heap.size → dv'.ownBlock = some k → dv.ownBlock = some k := fun k hk e => by
    rcases hb with hb | ⟨k', hb, hk'⟩
    · rw [← hb]; exact e
    · rw [hb] at e; injection e with e; omega
  have hp : p < w.heap.size := h.lt (Or.inl rfl)
  have hm : mb < w.heap.size := h.lt (Or.inr (Or.inl rfl))
  have hcell : w1.heap[p]? = some (.cells #[nv, dv, .map (some mb)] 78 (0, 0)) := hk1.heap h.cell a4
  refine ⟨⟨?_, ?_, ?_, ?_, a1, a2, a3, fun e => a4 (hdne p hp e), fun e => a5 (hdne mb hm e), fun k e e' => a6 k e (hdne k (own_lt h.now e) e')⟩, (hk1.mono (S' := fun k => k = p ∨ dv.ownBlock = some k) fun i _ e => Or.inr e).trans hk2 (fun i hi e => Or.inl e)⟩
  · exact cells3_set hcell 1 dv' (by omega)
  · exact own_kept (own_kept h.now hk1 (fun k e => a6 k e)) hk2 (fun k e e' => a2 (by rw [e, e']))
  · exact own_kept hd hk2 (fun k e e' => a4 (hdne p hp (by rw [e, e'])))
  · exact (h.pend.kept hk1 a5).kept hk2 (fun e => a1 e.symm)

set_option maxHeartbeats 1000000 in
set_option maxRecDepth 100000 in
theorem save_c (p : Nat) (nv dv : Value) (mb : Nat) (f : F) (n : Nat) (w : World) (h : FileAt w p nv dv mb f) (hok : f.Ok) (hn : 64 * n < f.now.length) :
    Calls Tryz.prog 33 #[.pointer (some ⟨p, 0, none⟩), .int .i64 n] w fun e w' => e = .returned (.tuple #[]) ∧ ∃ dv', FileAt w' p nv dv' mb (f.save n) ∧ Kept (fun k => k = p ∨ dv.ownBlock = some k) w w' ∧ (dv'.ownBlock = dv.ownBlock ∨ ∃ k, dv'.ownBlock = some k ∧ w.heap.size ≤ k) := by
  obtain ⟨a, c, hnv, hc, _, _⟩ := own_shape h.now
  subst hnv
  have hsm := hok.small
  have hle := hok.le
  obtain ⟨en, hen⟩ : ∃ en, en = min (64 * n + 64) f.now.length := ⟨_, rfl⟩
  obtain ⟨at', hat⟩ : ∃ at', at' = 64 * n := ⟨_, rfl⟩
  obtain ⟨A, hA, hA1⟩ := slice_both a f.now.length c at' en (by omega) (by omega)
  obtain ⟨g, rfl, hg⟩ := own_at h.now rfl (by omega)
  obtain rfl : A = some ⟨g, at', none⟩ := by rw [hA1 (by omega)]; simp [Addr.add_lit]
  have hsl : (sec f.now n).length = en - at' := by rw [sec_length]; omega
  have hsrc : SrcAt w (.slice (some ⟨g, at', none⟩) (en - at') (c - at')) (sec f.now n) := by
    refine ⟨_, c - at', by rw [hsl], by omega, fun _ => ⟨g, at', rfl, fun j u hu => ?_⟩⟩
    have hj : j < (bytesV (sec f.now n)).length := (List.getElem?_eq_some_iff.1 hu).1
    rw [bytesV_length, hsl] at hj
    have := own_cell h.now rfl (at' + j) u (by
      rw [← hu]
      unfold sec
      rw [bytesV_take, bytesV_drop, List.getElem?_take_of_lt (by omega), List.getElem?_drop, hat])
    rw [Lib.add_plain] at this
    simpa using this
  have q0 := put_c f.dur (sec f.now n) dv (.slice (some ⟨g, at', none⟩) (en - at') (c - at')) at' w.drew h.dur hsrc (by
    intro b off c' e
    injection e with e
    injection e with e
    injection e with e1 e2
    subst e1
    exact h.apart.2.2.2.2.2 g hg) (by omega) (by omega)
  have q1 := q0.mono (R' := fun e w1 => ∃ a' m' c', e = .returned (.slice a' m' c') ∧ w1.cell? ⟨p, 1, none⟩ = some dv ∧ w1.frozen? ⟨p, 1, none⟩ = false ∧
      Hid (w1.ownsRow 0 5 1 (.slice a' m' c') (put f.dur at' (sec f.now n)).length (bytesV (put f.dur at' (sec f.now n))) ∧ w.drew.grownBy w1 dv.ownBlock ∧ ((Value.slice a' m' c').ownBlock = dv.ownBlock ∨ ∃ k, (Value.slice a' m' c').ownBlock = some k ∧ w.drew.heap.size ≤ k))) (by
    rintro e w1 ⟨v', rfl, ho, hg, hb⟩
    obtain ⟨a', c', rfl, _⟩ := own_shape ho
    have hp : w1.heap[p]? = some (.cells #[.slice (some ⟨g, 0, none⟩) f.now.length c, dv, .map (some mb)] 78 (0, 0)) := (hg.block p (h.lt (Or.inl rfl)) (fun e => h.apart.2.2.2.1 e.symm)).trans h.cell
    exact ⟨a', _, c', rfl, by rw [Lib.cell_of_heap hp]; rfl, Lib.frozen_of_heap hp 1, ho, hg, hb⟩)
  have k0 := h.c0
  have k1 := h.c1
  have H := Lib.hid h
  have Q := Lib.hid q1
  have hmul : 64 * (n : Int) = (at' : Int) := by omega
  have hmul2 : (n : Int) * 64 = (at' : Int) := by omega
  have hmin : (if ((f.now.length : Nat) : Int) < (at' : Int) + 64 then ((f.now.length : Nat) : Int) else (at' : Int) + 64) = (en : Int) := by split <;> omega
  have hn2 : n < 262144 := by omega
  have HAT := Lib.hid hat
  have HEN := Lib.hid hen
  have HHN := Lib.hid hn
  clear h q0 q1 hsrc hA1 hat hen hn
  go_enter Tryz.func33, Tryz.ntmps33
  go_upto_region 2 with fail
  go_region_law (go_simp; go_at_call 51; refine Q.out.mono ?_; rintro e w1 ⟨a', m', c', rfl, j1, z1, HP⟩)
  all_goals
    go_end0
    obtain ⟨ho, hg, hb⟩ := HP.out
    obtain ⟨r1, r2⟩ := H.out.set1 (d := put f.dur at' (sec f.now n)) ⟨hg.os, hg.tape, hg.output, hg.size, hg.block⟩ (dv' := .slice a' m' c') ho hb
    refine ⟨rfl, _, ?_, r2, hb⟩
    have e : f.save n = { f with dur := put f.dur at' (sec f.now n) } := by rw [HAT.out]; rfl
    rw [e]
    exact r1
end Go.Proofs.YtljgfnglknpfaaaGreatDoor

namespace Go.Proofs.YtljgfnglknpfaaaGreatDoor
set_option maxRecDepth 100000
open Go Go.RowKit Go.Maps Dk

theorem conv_src (A : Option Addr) (c : Nat) (l : List UInt8) (w : World) (h : l ≠ [] → ∃ b off, A = some ⟨b, off, none⟩ ∧ ∀ j u, (bytesV l)[j]? = some u → w.cell? ⟨b, off + j, none⟩ = some u) :
    (convert 47 9 (.slice A l.length c)).run Tryz.prog w = .ok (.string ⟨l.toArray⟩) w := by
  by_cases hl : l = []
  · subst hl
    cases A with
    | none =>
      rw [show ([] : List UInt8).length = 0 from rfl, run_convert_bytes_string w _ _ 5 none 0 c Tryz.underlying47 Tryz.underlying5 Tryz.underlying9]
      rfl
    | some a => exact run_convert_bytes_back (P := Tryz.prog) w 47 9 5 a c [] Tryz.underlying47 Tryz.underlying5 Tryz.underlying9 (fun j hj => absurd hj (Nat.not_lt_zero _))
  · obtain ⟨b, off, rfl, hc⟩ := h hl
    refine run_convert_bytes_back (P := Tryz.prog) w 47 9 5 ⟨b, off, none⟩ c l Tryz.underlying47 Tryz.underlying5 Tryz.underlying9 (fun j hj => ?_)
    rw [Lib.add_plain]
    exact hc j _ (by simp [bytesV, List.getElem?_eq_getElem hj])

set_option maxRecDepth 100000 in
theorem fread_c (p : Nat) (nv dv : Value) (mb : Nat) (f : F) (at' size : Nat) (w : World) (h : FileAt w p nv dv mb f) (hsm : f.now.length ≤ 16777216) (h1 : (at' : Int) ≤ 9223372036854775807) (h2 : (size : Int) ≤ 9223372036854775807) :
    Calls Tryz.prog 41 #[.pointer (some ⟨p, 0, none⟩), .int .i64 at', .int .i64 size] w fun e w' => e = .returned (.string ⟨((f.now.drop at').take size).toArray⟩) ∧ w' = w := by
  obtain ⟨a, c, hnv, hc, hcm, _⟩ := own_shape h.now
  subst hnv
  obtain ⟨L, hL⟩ : ∃ L, L = f.now.length := ⟨_, rfl⟩
  obtain ⟨a0, ha0⟩ : ∃ a0, a0 = min at' L := ⟨_, rfl⟩
  obtain ⟨s0, hs0⟩ : ∃ s0, s0 = min size (L - a0) := ⟨_, rfl⟩
  obtain ⟨en, hen⟩ : ∃ en, en = a0 + s0 := ⟨_, rfl⟩
  obtain ⟨A, hA, hA1⟩ := slice_both a L c a0 en (by omega) (by omega)
  have hlen : ((f.now.drop at').take size).length = en - a0 := by simp; omega
  have hcv := conv_src A (c - a0) ((f.now.drop at').take size) w (fun hne => by
    have hpos : 0 < en - a0 := by rw [← hlen]; exact List.length_pos_iff.2 hne
    obtain ⟨g, rfl, hg⟩ := own_at h.now rfl (by omega)
    refine ⟨g, a0, by rw [hA1 (by omega)]; simp [Addr.add_lit], fun j u hu => ?_⟩
    have hj : j < (bytesV ((f.now.drop at').take size)).length := (List.getElem?_eq_some_iff.1 hu).1
    rw [bytesV_length, hlen] at hj
    have := own_cell h.now rfl (a0 + j) u (by
      rw [← hu, bytesV_take, bytesV_drop, List.getElem?_take_of_lt (by omega), List.getElem?_drop]
      congr 1
      omega)
    rw [Lib.add_plain] at this
    simpa using this)
  rw [hlen] at hcv
  have k0 := h.c0
  rw [← hL] at k0
  have hm1 : (if L < at' then (L : Int) else (at' : Int)) = (a0 : Int) := by split <;> omega
  have hm2 : (if (L : Int) - (a0 : Int) < (size : Int) then (L : Int) - (a0 : Int) else (size : Int)) = (s0 : Int) := by split <;> omega
  have hm3 : (a0 : Int) + (s0 : Int) = (en : Int) := by omega
  have hb1 : L ≤ 16777216 := by omega
  have hb2 : a0 ≤ L := by omega
  have hb3 : s0 ≤ 16777216 := by omega
  clear h hL ha0 hs0 hen hA1 hlen hc hcm
  go_enter Tryz.func41, Tryz.ntmps41
  go_wp2_with fail
  go_ret
  exact ⟨rfl, rfl⟩

theorem step_append_run {P : Program} {ops : Array Oper} {o : Oper} {a : Act} {w : World} {K : Act → World → Prop} {Q : Exit → Act → World → Prop} {E : Prop} (hgd : o.guard = none) (s x : Operand) (t tn : TypeId)
    (ho : o.op = .call { callee := .builtin .append, args := #[s, x], argTypes := #[t, tn] }) (vs vx : Value) (hs : a.eval s = vs) (hx : a.eval x = vx)
    (v' : Value) (w' : World) (hr : (Builtin.append_ #[t, tn] o.type #[vs, vx]).run P w = .ok v' w') (h : K (a.put o.dst v') w') : if Region.wanted o (yielded ops a.tmps) = true then Oper.wp P o a w K Q else E := by
  have hw : Region.wanted o (yielded ops a.tmps) = true := by simp [Region.wanted, hgd]
  rw [if_pos hw]
  exact Lib.wp_append_run w s x t tn ho vs vx hs hx v' w' hr h

end Go.Proofs.YtljgfnglknpfaaaGreatDoor

namespace Go.Proofs.YtljgfnglknpfaaaGreatDoor
set_option maxRecDepth 100000
open Go Go.RowKit Go.Maps Dk

theorem makeMapB (w : World) : (Instr.makeMap 76 none).run Tryz.prog w = .ok (.map (some w.heap.size)) (w.alloc (.map #[] 0)) := run_makeMap 76 w

set_option maxRecDepth 100000 in
theorem revert_c (p : Nat) (nv dv : Value) (mb : Nat) (f : F) (w : World) (h : FileAt w p nv dv mb f) (hok : f.Ok) :
    Calls Tryz.prog 34 #[.pointer (some ⟨p, 0, none⟩)] w fun e w' => e = .returned (.tuple #[]) ∧ ∃ nv' mb', FileAt w' p nv' dv mb' f.revert ∧ Kept (InF p nv dv mb) w w' ∧ (nv'.ownBlock = nv.ownBlock ∨ ∃ k, nv'.ownBlock = some k ∧ w.heap.size ≤ k) ∧ w.heap.size ≤ mb' := by
  obtain ⟨i0, hi, hz0, hz1, hz2⟩ := info_parts infoU8
  obtain ⟨a, c, hnv, hc, hcm, _⟩ := own_shape h.now
  obtain ⟨b, d, hdv, hd, hdm, hdn⟩ := own_shape h.dur
  have hsm := hok.small
  have hle := hok.le
  have s1 := slice_to a f.now.length c 0 (by omega)
  have o0 : w.drew.ownsRow 0 5 1 (.slice a 0 c) 0 [] := by
    have := h.now
    rw [hnv] at this
    have := own_take this (Nat.zero_le _)
    rw [Nat.zero_mul, List.take_zero] at this
    exact this
  have e0 : Value.ownBlock (.slice a 0 c) = nv.ownBlock := by rw [hnv]; cases a <;> rfl
  obtain ⟨v1, w1, hr, hown1, hgr1, hbl1⟩ := run_append_any_own (P := Tryz.prog) w.drew 0 47 47 5 i0 (.int .u8 0) 1 1 Tryz.underlying47 hi hz0 hz1 hz2 rfl (by decide) _ _ _ o0 b f.dur.length d (bytesV f.dur) (by rw [bytesV_length]; omega) (by
    intro h0
    cases b with
    | none => have := (hdn rfl).1; omega
    | some ad => exact ⟨ad, rfl, fun j u hu => own_cell h.dur hdv j u hu⟩) (bytesV_one _) (by unfold maxLen; omega) (by omega) (Nat.zero_le _)
  rw [e0] at hgr1 hbl1
  rw [Nat.zero_add, List.nil_append] at hown1
  obtain ⟨a1, c1, rfl, _⟩ := own_shape hown1
  obtain ⟨p1, p2, p3, p4, p5, p6⟩ := h.apart
  have hp : p < w.heap.size := h.lt (Or.inl rfl)
  have hp1 : w1.heap[p]? = some (.cells #[nv, dv, .map (some mb)] 78 (0, 0)) := (hgr1.block p hp (fun e => p2 e.symm)).trans h.cell
  subst hnv hdv
  have k0 := h.c0
  have k1 := h.c1
  have j0 : w1.cell? ⟨p, 0, none⟩ = some (.slice a f.now.length c) := by rw [Lib.cell_of_heap hp1]; rfl
  have z0 : w1.frozen? ⟨p, 0, none⟩ = false := Lib.frozen_of_heap hp1 0
  have j2 : w1.cell? ⟨p, 2, none⟩ = some (.map (some mb)) := by rw [Lib.cell_of_heap hp1]; rfl
  have z2 : w1.frozen? ⟨p, 2, none⟩ = false := Lib.frozen_of_heap hp1 2
  have hmm := makeMapB
  have hpl : p < w1.heap.size := (Array.getElem?_eq_some_iff.1 hp1).1
  have hpn : ¬ p = w1.heap.size := by omega
  have hpn' : ¬ w1.heap.size = p := by omega
  have H := Lib.hid h
  have HR := Lib.hid hr
  have HO := Lib.hid hown1
  have HG := Lib.hid hgr1
  have HB := Lib.hid hbl1
  have HP := Lib.hid hp
  have HP1 := Lib.hid hp1
  clear h hr hown1 hgr1 hbl1 hp hp1 hdn o0 e0
  go_enter Tryz.func34, Tryz.ntmps34
  go_upto_region 0 with fail
  go_region_law (refine step_append_run rfl _ _ _ _ rfl _ _ rfl rfl (.slice a1 f.dur.length c1) w1 HR.out ?_)
  all_goals
    go_wp2_with fail
    go_end0
    have h := H.out
    obtain ⟨p1, p2, p3, p4, p5, p6⟩ := h.apart
    have hk1 : Kept (fun k => Value.ownBlock (.slice a f.now.length c) = some k) w w1 := (Kept.drew _ w).trans (Kept.grown HG.out (fun k e => e)) (fun _ _ e => e)
    have hk2 := Kept.set p 0 w1 (.slice a1 f.dur.length c1)
    have hk3 := Kept.set p 2 (w1.setCell ⟨p, 0, none⟩ (.slice a1 f.dur.length c1)) (.map (some w1.heap.size))
    have hk4 := Kept.alloc (fun k => k = p) ((w1.setCell ⟨p, 0, none⟩ (.slice a1 f.dur.length c1)).setCell ⟨p, 2, none⟩ (.map (some w1.heap.size))) (.map #[] 0)
    have hk24 := (hk2.trans hk3 (fun _ _ e => e)).trans hk4 (fun _ _ e => e)
    have hs1 : w.heap.size ≤ w1.heap.size := hk1.size
    have hnb : ∀ k, k < w.heap.size → Value.ownBlock (.slice a1 f.dur.length c1) = some k → Value.ownBlock (.slice a f.now.length c) = some k := fun k hk e => by
      rcases HB.out with hb | hb
      · rw [← hb]; exact e
      · rw [hb] at e
        have e' : w.heap.size = k := by simpa using e
        omega
    have hcell := (Kept.alloc (fun _ => False) _ (.map #[] 0)).heap (cells3_set (cells3_set HP1.out 0 (.slice a1 f.dur.length c1) (by omega)) 2 (.map (some w1.heap.size)) (by omega)) (fun e => e)
    have hsz : ((w1.setCell ⟨p, 0, none⟩ (.slice a1 f.dur.length c1)).setCell ⟨p, 2, none⟩ (.map (some w1.heap.size))).heap.size = w1.heap.size := by simp [World.setCell]
    have hpd := PendAt.made ((w1.setCell ⟨p, 0, none⟩ (.slice a1 f.dur.length c1)).setCell ⟨p, 2, none⟩ (.map (some w1.heap.size)))
    rw [hsz] at hpd
    refine ⟨rfl, _, _, ⟨hcell, ?_, ?_, hpd, hpn, fun e => p2 (hnb p HP.out e), fun e => ?_, p4, fun e => ?_, fun k e e' => ?_⟩, ?_, ?_, hs1⟩
    · exact own_kept HO.out hk24 (fun k e e' => p2 (hnb p HP.out (by rw [e, e'])))
    · exact own_kept (own_kept h.dur hk1 (fun k e e' => p6 k e' e)) hk24 (fun k e e' => p4 (by rw [e, e']))
    · have := own_lt HO.out e; omega
    · have := own_lt h.dur e; omega
    · exact p6 k (hnb k (own_lt h.dur e') e) e'
    · exact (hk1.mono (S' := InF p (.slice a f.now.length c) (.slice b f.dur.length d) mb) (fun k _ e => Or.inr (Or.inr (Or.inl e)))).trans hk24 (fun k _ e => Or.inl e)
    · rcases HB.out with hb | hb
      · exact Or.inl hb
      · exact Or.inr ⟨_, hb, Nat.le_refl _⟩

theorem newFile_c (w : World) : Calls Tryz.prog 22 #[] w fun e w' => ∃ p mb, e = .returned (.pointer (some ⟨p, 0, none⟩)) ∧ FileAt w' p (.slice none 0 0) (.slice none 0 0) mb F.new ∧ Below w.heap.size w w' ∧ w.heap.size ≤ p ∧ w.heap.size ≤ mb := by
  have hmm := makeMapB
  go_enter Tryz.func22, Tryz.ntmps22
  go_wp2_with fail
  go_ret
  have hsz : (w.alloc (.map #[] 0)).heap.size = w.heap.size + 1 := by simp
  have e1 := heap_alloc_new (w.alloc (.map #[] 0)) (.cells #[.slice none 0 0, .slice none 0 0, .map (some w.heap.size)] 78)
  rw [hsz] at e1
  refine ⟨w.heap.size + 1, w.heap.size, rfl, ⟨e1, World.ownsRow_nil _ _ _ _, World.ownsRow_nil _ _ _ _, (PendAt.made w).kept (Kept.alloc (fun _ => False) _ _) (fun e => e), by omega, by simp [Value.ownBlock], by simp [Value.ownBlock], by simp [Value.ownBlock], by simp [Value.ownBlock], by simp [Value.ownBlock]⟩, ?_, by omega, Nat.le_refl _⟩
  exact ((Below.refl _ w).alloc (Nat.le_refl _) _).alloc (by simp) _
end Go.Proofs.YtljgfnglknpfaaaGreatDoor
