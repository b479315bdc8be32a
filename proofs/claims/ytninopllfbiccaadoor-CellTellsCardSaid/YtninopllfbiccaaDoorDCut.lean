/-
  disk's files: a read, the cut of a file, the return to its durable part, a new file.
-/
import Derived.Test.YtninopllfbiccaaDoorDSave
import Derived.Laws.BytesString
import Derived.Laws.IdiomStrings
namespace Go.Proofs.YtninopllfbiccaaDoor
set_option maxRecDepth 100000
open Go Go.RowKit Go.Maps Dk

theorem conv_src (A : Option Addr) (c : Nat) (l : List UInt8) (w : World) (h : l ≠ [] → ∃ b off, A = some ⟨b, off, none⟩ ∧ ∀ j u, (bytesV l)[j]? = some u → w.cell? ⟨b, off + j, none⟩ = some u) :
    (convert 54 9 (.slice A l.length c)).run Tryd.prog w = .ok (.string ⟨l.toArray⟩) w := by
  by_cases hl : l = []
  · subst hl
    cases A with
    | none =>
      rw [show ([] : List UInt8).length = 0 from rfl, run_convert_bytes_string w _ _ 5 none 0 c Tryd.underlying54 Tryd.underlying5 Tryd.underlying9]
      rfl
    | some a => exact run_convert_bytes_back (P := Tryd.prog) w 54 9 5 a c [] Tryd.underlying54 Tryd.underlying5 Tryd.underlying9 (fun j hj => absurd hj (Nat.not_lt_zero _))
  · obtain ⟨b, off, rfl, hc⟩ := h hl
    refine run_convert_bytes_back (P := Tryd.prog) w 54 9 5 ⟨b, off, none⟩ c l Tryd.underlying54 Tryd.underlying5 Tryd.underlying9 (fun j hj => ?_)
    rw [Lib.add_plain]
    exact hc j _ (by simp [bytesV, List.getElem?_eq_getElem hj])

set_option maxRecDepth 100000 in
theorem fread_c (p : Nat) (nv dv : Value) (mb : Nat) (f : F) (at' size : Nat) (w : World) (h : FileAt w p nv dv mb f) (hsm : f.now.length ≤ 16777216) (h1 : (at' : Int) ≤ 9223372036854775807) (h2 : (size : Int) ≤ 9223372036854775807) :
    Calls Tryd.prog 47 #[.pointer (some ⟨p, 0, none⟩), .int .i64 at', .int .i64 size] w fun e w' => e = .returned (.string ⟨((f.now.drop at').take size).toArray⟩) ∧ w' = w := by
  obtain ⟨a, c, hnv, hc, hcm, _⟩ := own_shape h.now
  subst hnv
  obtain ⟨L, hL⟩ : ∃ L, L = f.now.length := ⟨_, rfl⟩
  obtain ⟨a0, ha0⟩ : ∃ a0, a0 = min at' L := ⟨_, rfl⟩
  obtain ⟨s0, hs0⟩ : ∃ s0, s0 = min size (L - a0) := ⟨_, rfl⟩
  obtain ⟨en, hen⟩ : ∃ en, en = a0 + s0 := ⟨_, rfl⟩
  obtain ⟨A, hA, hA1⟩ := slice_both a L c a0 en (by omega) (by omega)
  have hlen : ((f.now.drop at').take size).length = en - a0 := by simp; omega
  have hcv := conv_src A (c - a0) ((f.now.drop at').take size) w (fun hne => by
    have hpos : 0 < en - a0 := by rw [← hlen]; exact List.length_pos_iff.2 hne
    obtain ⟨g, rfl, hg⟩ := own_at h.now rfl (by omega)
    refine ⟨g, a0, by rw [hA1 (by omega)]; simp [Addr.add_lit], fun j u hu => ?_⟩
    have hj : j < (bytesV ((f.now.drop at').take size)).length := (List.getElem?_eq_some_iff.1 hu).1
    rw [bytesV_length, hlen] at hj
    have := own_cell h.now rfl (a0 + j) u (by
      rw [← hu, bytesV_take, bytesV_drop, List.getElem?_take_of_lt (by omega), List.getElem?_drop]
      congr 1
      omega)
    rw [Lib.add_plain] at this
    simpa using this)
  rw [hlen] at hcv
  have k0 := h.c0
  rw [← hL] at k0
  have hm1 : (if L < at' then (L : Int) else (at' : Int)) = (a0 : Int) := by split <;> omega
  have hm2 : (if (L : Int) - (a0 : Int) < (size : Int) then (L : Int) - (a0 : Int) else (size : Int)) = (s0 : Int) := by split <;> omega
  have hm3 : (a0 : Int) + (s0 : Int) = (en : Int) := by omega
  have hb1 : L ≤ 16777216 := by omega
  have hb2 : a0 ≤ L := by omega
  have hb3 : s0 ≤ 16777216 := by omega
  clear h hL ha0 hs0 hen hA1 hlen hc hcm
  go_enter Tryd.func47, Tryd.ntmps47
  go_wp2_with fail
  go_ret
  exact ⟨rfl, rfl⟩

theorem step_append_run {P : Program} {ops : Array Oper} {o : Oper} {a : Act} {w : World} {K : Act → World → Prop} {Q : Exit → Act → World → Prop} {E : Prop} (hgd : o.guard = none) (s x : Operand) (t tn : TypeId)
    (ho : o.op = .call { callee := .builtin .append, args := #[s, x], argTypes := #[t, tn] }) (vs vx : Value) (hs : a.eval s = vs) (hx : a.eval x = vx)
    (v' : Value) (w' : World) (hr : (Builtin.append_ #[t, tn] o.type #[vs, vx]).run P w = .ok v' w') (h : K (a.put o.dst v') w') : if Region.wanted o (yielded ops a.tmps) = true then Oper.wp P o a w K Q else E := by
  have hw : Region.wanted o (yielded ops a.tmps) = true := by simp [Region.wanted, hgd]
  rw [if_pos hw]
  exact Lib.wp_append_run w s x t tn ho vs vx hs hx v' w' hr h

end Go.Proofs.YtninopllfbiccaaDoor
