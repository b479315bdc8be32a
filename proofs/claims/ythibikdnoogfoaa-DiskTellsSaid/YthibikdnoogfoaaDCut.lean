/-
  disk's files: a read, the cut of a file, the return to its durable part, a new file.
-/
import Derived.Test.YthibikdnoogfoaaDSave
import Derived.Laws.BytesString
import Derived.Laws.IdiomStrings
namespace Go.Proofs.Ythibikdnoogfoaa
open Go Go.RowKit Go.Maps Dk

theorem conv_src (A : Option Addr) (c : Nat) (l : List UInt8) (w : World) (h : l ≠ [] → ∃ b off, A = some ⟨b, off, none⟩ ∧ ∀ j u, (bytesV l)[j]? = some u → w.cell? ⟨b, off + j, none⟩ = some u) :
    (convert 64 9 (.slice A l.length c)).run Try.prog w = .ok (.string ⟨l.toArray⟩) w := by
  by_cases hl : l = []
  · subst hl
    cases A with
    | none =>
      rw [show ([] : List UInt8).length = 0 from rfl, run_convert_bytes_string w _ _ 5 none 0 c Try.underlying64 Try.underlying5 Try.underlying9]
      rfl
    | some a => exact run_convert_bytes_back (P := Try.prog) w 64 9 5 a c [] Try.underlying64 Try.underlying5 Try.underlying9 (fun j hj => absurd hj (Nat.not_lt_zero _))
  · obtain ⟨b, off, rfl, hc⟩ := h hl
    refine run_convert_bytes_back (P := Try.prog) w 64 9 5 ⟨b, off, none⟩ c l Try.underlying64 Try.underlying5 Try.underlying9 (fun j hj => ?_)
    rw [Lib.add_plain]
    exact hc j _ (by simp [bytesV, List.getElem?_eq_getElem hj])

set_option maxRecDepth 100000 in
theorem fread_c (p : Nat) (nv dv : Value) (mb : Nat) (f : F) (at' size : Nat) (w : World) (h : FileAt w p nv dv mb f) (hsm : f.now.length ≤ 16777216) (h1 : (at' : Int) ≤ 9223372036854775807) (h2 : (size : Int) ≤ 9223372036854775807) :
    Calls Try.prog 47 #[.pointer (some ⟨p, 0, none⟩), .int .i64 at', .int .i64 size] w fun e w' => e = .returned (.string ⟨((f.now.drop at').take size).toArray⟩) ∧ w' = w := by
  obtain ⟨a, c, hnv, hc, hcm, _⟩ := own_shape h.now
  subst hnv
  obtain ⟨L, hL⟩ : ∃ L, L = f.now.length := ⟨_, rfl⟩
  obtain ⟨a0, ha0⟩ : ∃ a0, a0 = min at' L := ⟨_, rfl⟩
  obtain ⟨s0, hs0⟩ : ∃ s0, s0 = min size (L - a0) := ⟨_, rfl⟩
  obtain ⟨en, hen⟩ : ∃ en, en = a0 + s0 := ⟨_, rfl⟩
  obtain ⟨A, hA, hA1⟩ := slice_both a L c a0 en (by omega) (by omega)
  have hlen : ((f.now.drop at').take size).length = en - a0 := by simp; omega
  have hcv := conv_src A (c - a0) ((f.now.drop at').take size) w (fun hne => by
    have hpos : 0 < en - a0 := by rw [← hlen]; exact List.length_pos_iff.2 hne
    obtain ⟨g, rfl, hg⟩ := own_at h.now rfl (by omega)
    refine ⟨g, a0, by rw [hA1 (by omega)]; simp [Addr.add_lit], fun j u hu => ?_⟩
    have hj : j < (bytesV ((f.now.drop at').take size)).length := (List.getElem?_eq_some_iff.1 hu).1
    rw [bytesV_length, hlen] at hj
    have := own_cell h.now rfl (a0 + j) u (by
      rw [← hu, bytesV_take, bytesV_drop, List.getElem?_take_of_lt (by omega), List.getElem?_drop]
      congr 1
      omega)
    rw [Lib.add_plain] at this
    simpa using this)
  rw [hlen] at hcv
  have k0 := h.c0
  rw [← hL] at k0
  have hm1 : (if L < at' then (L : Int) else (at' : Int)) = (a0 : Int) := by split <;> omega
  have hm2 : (if (L : Int) - (a0 : Int) < (size : Int) then (L : Int) - (a0 : Int) else (size : Int)) = (s0 : Int) := by split <;> omega
  have hm3 : (a0 : Int) + (s0 : Int) = (en : Int) := by omega
  have hb1 : L ≤ 16777216 := by omega
  have hb2 : a0 ≤ L := by omega
  have hb3 : s0 ≤ 16777216 := by omega
  clear h hL ha0 hs0 hen hA1 hlen hc hcm
  go_enter Try.func47, Try.ntmps47
  go_wp2_with fail
  go_ret
  exact ⟨rfl, rfl⟩

theorem step_append_run {P : Program} {ops : Array Oper} {o : Oper} {a : Act} {w : World} {K : Act → World → Prop} {Q : Exit → Act → World → Prop} {E : Prop} (hgd : o.guard = none) (s x : Operand) (t tn : TypeId)
    (ho : o.op = .call { callee := .builtin .append, args := #[s, x], argTypes := #[t, tn] }) (vs vx : Value) (hs : a.eval s = vs) (hx : a.eval x = vx)
    (v' : Value) (w' : World) (hr : (Builtin.append_ #[t, tn] o.type #[vs, vx]).run P w = .ok v' w') (h : K (a.put o.dst v') w') : if Region.wanted o (yielded ops a.tmps) = true then Oper.wp P o a w K Q else E := by
  have hw : Region.wanted o (yielded ops a.tmps) = true := by simp [Region.wanted, hgd]
  rw [if_pos hw]
  exact Lib.wp_append_run w s x t tn ho vs vx hs hx v' w' hr h

set_option maxRecDepth 100000 in
theorem cut_c (p : Nat) (nv dv : Value) (mb : Nat) (f : F) (n : Nat) (w : World) (h : FileAt w p nv dv mb f) (h1 : n ≤ f.now.length) (h2 : n ≤ f.dur.length) (_hsm : f.now.length ≤ 16777216) :
    Calls Try.prog 52 #[.pointer (some ⟨p, 0, none⟩), .int .i64 n] w fun e w' => e = .returned (.tuple #[]) ∧ ∃ nv' dv', FileAt w' p nv' dv' mb (f.cut n) ∧ Kept (fun k => k = p) w w' ∧ nv'.ownBlock = nv.ownBlock ∧ dv'.ownBlock = dv.ownBlock := by
  obtain ⟨a, c, hnv, hc, hcm, _⟩ := own_shape h.now
  obtain ⟨b, d, hdv, hd, hdm, _⟩ := own_shape h.dur
  subst hnv hdv
  have s1 := slice_to a f.now.length c n (by omega)
  have s2 := slice_to b f.dur.length d n (by omega)
  have k0 := h.c0
  have k1 := h.c1
  have z0 := h.z 0
  have z1 := h.z 1
  have H := Lib.hid h
  clear h
  go_enter Try.func52, Try.ntmps52
  go_upto_region 0 with fail
  go_region
  all_goals
    go_end0
    have h := H.out
    obtain ⟨a1, a2, a3, a4, a5, a6⟩ := h.apart
    have hk : Kept (fun k => k = p) w ((w.drew.setCell ⟨p, 0, none⟩ (.slice a n c)).setCell ⟨p, 1, none⟩ (.slice b n d)) := ((Kept.drew _ w).trans (Kept.set p 0 w.drew _) (fun _ _ e => e)).trans (Kept.set p 1 _ _) (fun _ _ e => e)
    have hcell := cells3_set (cells3_set (w := w.drew) h.cell 0 (.slice a n c) (by omega)) 1 (.slice b n d) (by omega)
    have e1 : Value.ownBlock (.slice a n c) = Value.ownBlock (.slice a f.now.length c) := by cases a <;> rfl
    have e2 : Value.ownBlock (.slice b n d) = Value.ownBlock (.slice b f.dur.length d) := by cases b <;> rfl
    have o1 := own_take (own_kept h.now hk (fun k e e' => a2 (by rw [e, e']))) h1
    have o2 := own_take (own_kept h.dur hk (fun k e e' => a4 (by rw [e, e']))) h2
    have l1 : (f.now.take n).length = n := by simp; omega
    have l2 : (f.dur.take n).length = n := by simp; omega
    refine ⟨rfl, _, _, ⟨hcell, ?_, ?_, h.pend.kept hk (fun e => a1 e.symm), a1, by rw [e1]; exact a2, by rw [e1]; exact a3, by rw [e2]; exact a4, by rw [e2]; exact a5, by rw [e1, e2]; exact a6⟩, hk, e1, e2⟩
    · show World.ownsRow _ 0 5 1 _ (f.now.take n).length (bytesV (f.now.take n))
      rw [l1, bytesV_take]; rw [Nat.mul_one] at o1; exact o1
    · show World.ownsRow _ 0 5 1 _ (f.dur.take n).length (bytesV (f.dur.take n))
      rw [l2, bytesV_take]; rw [Nat.mul_one] at o2; exact o2
end Go.Proofs.Ythibikdnoogfoaa
