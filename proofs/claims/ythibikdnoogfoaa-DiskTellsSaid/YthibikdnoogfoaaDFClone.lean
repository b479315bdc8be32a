/-
  disk's files: a copy of a file.
-/
import Derived.Test.YthibikdnoogfoaaDClone
namespace Go.Proofs.Ythibikdnoogfoaa
open Go Go.RowKit Go.Maps Dk

theorem PendAt.copy {w : World} {b : Nat} {s : Nat → Bool} (h : PendAt w b s) : ∃ es clock, w.heap[b]? = some (.map es clock) ∧ ∀ (w' : World) (b' : Nat), w'.heap[b']? = some (.map es clock) → PendAt w' b' s := by
  obtain ⟨D, ⟨es, clock, hb, r⟩, h2⟩ := h
  exact ⟨es, clock, hb, fun w' b' h' => ⟨D, ⟨es, clock, h', r⟩, h2⟩⟩

/-- What is known behind each of the copies of a file's parts. -/
structure Part (w w' : World) (p : Nat) (nv dv : Value) (mb : Nat) : Prop where
  c0 : w'.cell? ⟨p, 0, none⟩ = some nv
  c1 : w'.cell? ⟨p, 1, none⟩ = some dv
  c2 : w'.cell? ⟨p, 2, none⟩ = some (.map (some mb))

set_option maxHeartbeats 1000000 in
set_option maxRecDepth 100000 in
theorem fclone_c (p : Nat) (nv dv : Value) (mb : Nat) (f : F) (w : World) (h : FileAt w p nv dv mb f) (hok : f.Ok) :
    Calls Try.prog 42 #[.pointer (some ⟨p, 0, none⟩)] w fun e w' => ∃ p' nv' dv' mb', e = .returned (.pointer (some ⟨p', 0, none⟩)) ∧ FileAt w' p' nv' dv' mb' f ∧ Below w.heap.size w w' ∧ ∀ k, InF p' nv' dv' mb' k → w.heap.size ≤ k := by
  obtain ⟨es, clock, hm, hcopy⟩ := h.pend.copy
  have hsm := hok.small
  have hle := hok.le
  have k0 := h.c0
  have k1 := h.c1
  have k2 := h.c2
  have key : ∀ wx : World, Below w.heap.size w wx → Calls Try.prog 59 #[nv] wx fun e w' => ∃ a' n' c', e = .returned (.slice a' n' c') ∧ w'.cell? ⟨p, 1, none⟩ = some dv ∧ w'.cell? ⟨p, 2, none⟩ = some (.map (some mb)) ∧ Hid (w'.ownsRow wx.heap.size 5 1 (.slice a' n' c') f.now.length (bytesV f.now) ∧ Below w.heap.size w w' ∧ Below wx.heap.size wx w') := by
    intro wx hb
    have hF := h.kept (Kept.below (S := fun _ => False) hb) (fun _ _ e => e)
    refine (bclone_c nv _ _ wx (SrcV.own hF.now) (bytesV_one _) (by omega) (by omega)).mono ?_
    rintro e w' ⟨v', rfl, ho, hb'⟩
    obtain ⟨a', c', rfl, _⟩ := own_shape (own_base ho)
    have hF' := hF.kept (Kept.below (S := fun _ => False) hb') (fun _ _ e => e)
    exact ⟨a', _, c', rfl, hF'.c1, hF'.c2, ho, hb.trans (hb'.mono hb.size), hb'⟩
  have key2 : ∀ wx : World, Below w.heap.size w wx → Calls Try.prog 59 #[dv] wx fun e w' => ∃ a' n' c', e = .returned (.slice a' n' c') ∧ w'.cell? ⟨p, 2, none⟩ = some (.map (some mb)) ∧ Hid (w'.ownsRow wx.heap.size 5 1 (.slice a' n' c') f.dur.length (bytesV f.dur) ∧ Below w.heap.size w w' ∧ Below wx.heap.size wx w') := by
    intro wx hb
    have hF := h.kept (Kept.below (S := fun _ => False) hb) (fun _ _ e => e)
    refine (bclone_c dv _ _ wx (SrcV.own hF.dur) (bytesV_one _) (by omega) (by omega)).mono ?_
    rintro e w' ⟨v', rfl, ho, hb'⟩
    obtain ⟨a', c', rfl, _⟩ := own_shape (own_base ho)
    have hF' := hF.kept (Kept.below (S := fun _ => False) hb') (fun _ _ e => e)
    exact ⟨a', _, c', rfl, hF'.c2, ho, hb.trans (hb'.mono hb.size), hb'⟩
  have H := Lib.hid h
  have HM := Lib.hid hm
  have HC := Lib.hid hcopy
  have K1 := Lib.hid key
  have K2 := Lib.hid key2
  clear h hm hcopy key key2
  go_enter Try.func42, Try.ntmps42
  go_upto_region 1 with fail
  go_region_law (first
    | (go_simp; go_at_call 59; go_at_call_of 59 nv; refine (K1.out _ (Below.drew (Below.refl _ w))).mono ?_; rintro e w1 ⟨a1, n1, c1, rfl, j1, j2, HP1⟩)
    | (go_simp; go_at_call 59; go_at_call_of 59 dv; refine (K2.out _ HP1.out.2.1).mono ?_; rintro e w2 ⟨a2, n2, c2, rfl, l2, HP2⟩)
    | (go_simp; go_at_call 60; refine (pmclone_c mb es clock _ ((HP2.out.2.1.block mb (H.out.lt (Or.inr (Or.inl rfl)))).trans HM.out)).mono ?_; rintro e w3 ⟨rfl, rfl⟩))
  all_goals
    go_wp2_with fail
    go_ret
    obtain ⟨o1, b1, b1'⟩ := HP1.out
    obtain ⟨o2, b2, b2'⟩ := HP2.out
    have hsz : (w2.alloc (.map es clock)).heap.size = w2.heap.size + 1 := by simp
    have e1 := heap_alloc_new (w2.alloc (.map es clock)) (.cells #[.slice a1 n1 c1, .slice a2 n2 c2, .map (some w2.heap.size)] 67)
    rw [hsz] at e1
    have hkA := (Kept.alloc (fun _ => False) w2 (.map es clock)).trans (Kept.alloc (fun _ => False) _ (.cells #[.slice a1 n1 c1, .slice a2 n2 c2, .map (some w2.heap.size)] 67)) (fun _ _ e => e)
    have hk2 : Kept (fun _ => False) w1 w2 := Kept.below b2'
    have l1 : ∀ k, (Value.slice a1 n1 c1).ownBlock = some k → k < w1.heap.size := fun k e => own_lt (own_base o1) e
    have l1' := o1.lt
    have l2 : ∀ k, (Value.slice a2 n2 c2).ownBlock = some k → k < w2.heap.size := fun k e => own_lt (own_base o2) e
    have l2' := o2.lt
    have hs1 := b1.size
    have hs2 := b2'.size
    have hdr : w.drew.heap.size = w.heap.size := rfl
    refine ⟨w2.heap.size + 1, _, _, w2.heap.size, rfl, ⟨e1, own_kept (own_kept (own_base o1) hk2 (fun _ _ e => e)) hkA (fun _ _ e => e), own_kept (own_base o2) hkA (fun _ _ e => e), ?_, ?_⟩, ?_, ?_⟩
    · refine HC.out _ _ ?_
      exact (Below.heap_alloc _ _ _ (by simp)).trans (heap_alloc_new w2 _)
    · refine ⟨by omega, fun e => ?_, fun e => ?_, fun e => ?_, fun e => ?_, fun k e e' => ?_⟩
      · have := l1 _ e; omega
      · have := l1 _ e; omega
      · have := l2 _ e; omega
      · have := l2 _ e; omega
      · have := l1 _ e; have := (l2' k e').1; omega
    · exact (b2.alloc (by have := b2.size; omega) _).alloc (by have := b2.size; simp; omega) _
    · intro k hin
      have hs := b2.size
      rcases hin with e | e | e | e
      · omega
      · omega
      · have := (l1' k e).1; omega
      · have := (l2' k e).1; omega
end Go.Proofs.Ythibikdnoogfoaa
