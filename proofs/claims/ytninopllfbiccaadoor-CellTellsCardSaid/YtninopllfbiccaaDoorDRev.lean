/-
  disk's files: the return to the durable part, a new file.
-/
import Derived.Test.YtninopllfbiccaaDoorDCut
namespace Go.Proofs.YtninopllfbiccaaDoor
set_option maxRecDepth 100000
open Go Go.RowKit Go.Maps Dk

theorem makeMapB (w : World) : (Instr.makeMap 86 none).run Tryd.prog w = .ok (.map (some w.heap.size)) (w.alloc (.map #[] 0)) := run_makeMap 86 w

set_option maxRecDepth 100000 in
theorem revert_c (p : Nat) (nv dv : Value) (mb : Nat) (f : F) (w : World) (h : FileAt w p nv dv mb f) (hok : f.Ok) :
    Calls Tryd.prog 46 #[.pointer (some ⟨p, 0, none⟩)] w fun e w' => e = .returned (.tuple #[]) ∧ ∃ nv' mb', FileAt w' p nv' dv mb' f.revert ∧ Kept (InF p nv dv mb) w w' ∧ (nv'.ownBlock = nv.ownBlock ∨ ∃ k, nv'.ownBlock = some k ∧ w.heap.size ≤ k) ∧ w.heap.size ≤ mb' := by
  obtain ⟨i0, hi, hz0, hz1, hz2⟩ := info_parts infoU8
  obtain ⟨a, c, hnv, hc, hcm, _⟩ := own_shape h.now
  obtain ⟨b, d, hdv, hd, hdm, hdn⟩ := own_shape h.dur
  have hsm := hok.small
  have hle := hok.le
  have s1 := slice_to a f.now.length c 0 (by omega)
  have o0 : w.drew.ownsRow 0 5 1 (.slice a 0 c) 0 [] := by
    have := h.now
    rw [hnv] at this
    have := own_take this (Nat.zero_le _)
    rw [Nat.zero_mul, List.take_zero] at this
    exact this
  have e0 : Value.ownBlock (.slice a 0 c) = nv.ownBlock := by rw [hnv]; cases a <;> rfl
  obtain ⟨v1, w1, hr, hown1, hgr1, hbl1⟩ := run_append_any_own (P := Tryd.prog) w.drew 0 54 54 5 i0 (.int .u8 0) 1 1 Tryd.underlying54 hi hz0 hz1 hz2 rfl (by decide) _ _ _ o0 b f.dur.length d (bytesV f.dur) (by rw [bytesV_length]; omega) (by
    intro h0
    cases b with
    | none => have := (hdn rfl).1; omega
    | some ad => exact ⟨ad, rfl, fun j u hu => own_cell h.dur hdv j u hu⟩) (bytesV_one _) (by unfold maxLen; omega) (by omega) (Nat.zero_le _)
  rw [e0] at hgr1 hbl1
  rw [Nat.zero_add, List.nil_append] at hown1
  obtain ⟨a1, c1, rfl, _⟩ := own_shape hown1
  obtain ⟨p1, p2, p3, p4, p5, p6⟩ := h.apart
  have hp : p < w.heap.size := h.lt (Or.inl rfl)
  have hp1 : w1.heap[p]? = some (.cells #[nv, dv, .map (some mb)] 88 (0, 0)) := (hgr1.block p hp (fun e => p2 e.symm)).trans h.cell
  subst hnv hdv
  have k0 := h.c0
  have k1 := h.c1
  have j0 : w1.cell? ⟨p, 0, none⟩ = some (.slice a f.now.length c) := by rw [Lib.cell_of_heap hp1]; rfl
  have z0 : w1.frozen? ⟨p, 0, none⟩ = false := Lib.frozen_of_heap hp1 0
  have j2 : w1.cell? ⟨p, 2, none⟩ = some (.map (some mb)) := by rw [Lib.cell_of_heap hp1]; rfl
  have z2 : w1.frozen? ⟨p, 2, none⟩ = false := Lib.frozen_of_heap hp1 2
  have hmm := makeMapB
  have hpl : p < w1.heap.size := (Array.getElem?_eq_some_iff.1 hp1).1
  have hpn : ¬ p = w1.heap.size := by omega
  have hpn' : ¬ w1.heap.size = p := by omega
  have H := Lib.hid h
  have HR := Lib.hid hr
  have HO := Lib.hid hown1
  have HG := Lib.hid hgr1
  have HB := Lib.hid hbl1
  have HP := Lib.hid hp
  have HP1 := Lib.hid hp1
  clear h hr hown1 hgr1 hbl1 hp hp1 hdn o0 e0
  go_enter Tryd.func46, Tryd.ntmps46
  go_upto_region 0 with fail
  go_region_law (refine step_append_run rfl _ _ _ _ rfl _ _ rfl rfl (.slice a1 f.dur.length c1) w1 HR.out ?_)
  all_goals
    go_wp2_with fail
    go_end0
    have h := H.out
    obtain ⟨p1, p2, p3, p4, p5, p6⟩ := h.apart
    have hk1 : Kept (fun k => Value.ownBlock (.slice a f.now.length c) = some k) w w1 := (Kept.drew _ w).trans (Kept.grown HG.out (fun k e => e)) (fun _ _ e => e)
    have hk2 := Kept.set p 0 w1 (.slice a1 f.dur.length c1)
    have hk3 := Kept.set p 2 (w1.setCell ⟨p, 0, none⟩ (.slice a1 f.dur.length c1)) (.map (some w1.heap.size))
    have hk4 := Kept.alloc (fun k => k = p) ((w1.setCell ⟨p, 0, none⟩ (.slice a1 f.dur.length c1)).setCell ⟨p, 2, none⟩ (.map (some w1.heap.size))) (.map #[] 0)
    have hk24 := (hk2.trans hk3 (fun _ _ e => e)).trans hk4 (fun _ _ e => e)
    have hs1 : w.heap.size ≤ w1.heap.size := hk1.size
    have hnb : ∀ k, k < w.heap.size → Value.ownBlock (.slice a1 f.dur.length c1) = some k → Value.ownBlock (.slice a f.now.length c) = some k := fun k hk e => by
      rcases HB.out with hb | hb
      · rw [← hb]; exact e
      · rw [hb] at e
        have e' : w.heap.size = k := by simpa using e
        omega
    have hcell := (Kept.alloc (fun _ => False) _ (.map #[] 0)).heap (cells3_set (cells3_set HP1.out 0 (.slice a1 f.dur.length c1) (by omega)) 2 (.map (some w1.heap.size)) (by omega)) (fun e => e)
    have hsz : ((w1.setCell ⟨p, 0, none⟩ (.slice a1 f.dur.length c1)).setCell ⟨p, 2, none⟩ (.map (some w1.heap.size))).heap.size = w1.heap.size := by simp [World.setCell]
    have hpd := PendAt.made ((w1.setCell ⟨p, 0, none⟩ (.slice a1 f.dur.length c1)).setCell ⟨p, 2, none⟩ (.map (some w1.heap.size)))
    rw [hsz] at hpd
    refine ⟨rfl, _, _, ⟨hcell, ?_, ?_, hpd, hpn, fun e => p2 (hnb p HP.out e), fun e => ?_, p4, fun e => ?_, fun k e e' => ?_⟩, ?_, ?_, hs1⟩
    · exact own_kept HO.out hk24 (fun k e e' => p2 (hnb p HP.out (by rw [e, e'])))
    · exact own_kept (own_kept h.dur hk1 (fun k e e' => p6 k e' e)) hk24 (fun k e e' => p4 (by rw [e, e']))
    · have := own_lt HO.out e; omega
    · have := own_lt h.dur e; omega
    · exact p6 k (hnb k (own_lt h.dur e') e) e'
    · exact (hk1.mono (S' := InF p (.slice a f.now.length c) (.slice b f.dur.length d) mb) (fun k _ e => Or.inr (Or.inr (Or.inl e)))).trans hk24 (fun k _ e => Or.inl e)
    · rcases HB.out with hb | hb
      · exact Or.inl hb
      · exact Or.inr ⟨_, hb, Nat.le_refl _⟩

theorem newFile_c (w : World) : Calls Tryd.prog 34 #[] w fun e w' => ∃ p mb, e = .returned (.pointer (some ⟨p, 0, none⟩)) ∧ FileAt w' p (.slice none 0 0) (.slice none 0 0) mb F.new ∧ Below w.heap.size w w' ∧ w.heap.size ≤ p ∧ w.heap.size ≤ mb := by
  have hmm := makeMapB
  go_enter Tryd.func34, Tryd.ntmps34
  go_wp2_with fail
  go_ret
  have hsz : (w.alloc (.map #[] 0)).heap.size = w.heap.size + 1 := by simp
  have e1 := heap_alloc_new (w.alloc (.map #[] 0)) (.cells #[.slice none 0 0, .slice none 0 0, .map (some w.heap.size)] 88)
  rw [hsz] at e1
  refine ⟨w.heap.size + 1, w.heap.size, rfl, ⟨e1, World.ownsRow_nil _ _ _ _, World.ownsRow_nil _ _ _ _, (PendAt.made w).kept (Kept.alloc (fun _ => False) _ _) (fun e => e), by omega, by simp [Value.ownBlock], by simp [Value.ownBlock], by simp [Value.ownBlock], by simp [Value.ownBlock], by simp [Value.ownBlock]⟩, ?_, by omega, Nat.le_refl _⟩
  exact ((Below.refl _ w).alloc (Nat.le_refl _) _).alloc (by simp) _
end Go.Proofs.YtninopllfbiccaaDoor
