/-
  The greatest of three numbers; how a leader commits.
-/
import Derived.Test.YtkmojcpiadpbaaaGreatDoorRTest
namespace Go.Proofs.YtkmojcpiadpbaaaGreatDoor
set_option maxRecDepth 100000
open Go Go.RowKit Rp

set_option maxHeartbeats 400000 in
theorem max_c {w : World} {b : Nat} {o : Nat} {x y z : Int} (hx : w.cell? ⟨b, o, none⟩ = some (.int .i64 x)) (hy : w.cell? ⟨b, o + 1, none⟩ = some (.int .i64 y)) (hz : w.cell? ⟨b, o + 2, none⟩ = some (.int .i64 z)) : Calls Tryz.prog 82 #[.slice (some ⟨b, o, none⟩) 3 3] w fun e w' => e = .returned (.int .i64 (max x (max y z))) ∧ w' = w := by
  go_enter Tryz.func82, Tryz.ntmps82
  go_wp2_with fail
  refine wp_loop_rounds 3 ?_
  rw [rounds_succ]
  go_wp2_with fail
  rw [rounds_succ]
  go_wp2_with fail
  rw [rounds_succ]
  go_wp2_with fail
  go_ret
  exact ⟨rfl, rfl⟩

/-- Another commit number. -/
theorem rep_commit {w : World} {b : Nat} {lv : Value} {r : R} (h : RepAt w b lv r) {n : Int} (hn : 0 ≤ n ∧ n ≤ (r.l.length : Int)) : RepAt (w.setCell ⟨b, 5, none⟩ (.int .i64 n)) b lv { r with cm := n } ∧ Kept (fun k => k = b) w (w.setCell ⟨b, 5, none⟩ (.int .i64 n)) :=
  ⟨⟨box_set h.blk 5 _, h.row.kept (Kept.set b 5 w _) (fun k e e' => h.apart (by rw [e, e'])), h.apart, ⟨h.fine.id, h.fine.tm, h.fine.vt, h.fine.len, h.fine.snd, h.fine.ord, h.fine.role, hn, h.fine.ask, h.fine.pos, h.fine.nxt, h.fine.mat, h.fine.own⟩⟩, Kept.set b 5 w _⟩
set_option maxHeartbeats 400000 in
/-- What a leader commits. -/
theorem advance_c {w : World} {b : Nat} {lv : Value} {r : R} (h : RepAt w b lv r) (hr : r.role = 2) : Calls Tryz.prog 77 #[.pointer (some ⟨b, 0, none⟩)] w fun e w' => e = .returned (.tuple #[]) ∧ RepAt w' b lv { r with cm := best r.l r.h.tm (max (r.mat ((r.id + 1) % 3)) (r.mat ((r.id + 2) % 3))) r.cm r.l.length } ∧ Kept (fun k => k = b) w w' := by
  obtain ⟨mm, hmm⟩ : ∃ mm, max (r.mat 0) (max (r.mat 1) (r.mat 2)) = mm := ⟨_, rfl⟩
  have hmt := h.fine.mat hr
  have hown := h.fine.own hr
  have h0 := hmt 0
  have h1 := hmt 1
  have h2 := hmt 2
  have hid := h.fine.id
  have hmax : max (r.mat ((r.id + 1) % 3)) (r.mat ((r.id + 2) % 3)) = mm := by
    have hi : r.id = 0 ∨ r.id = 1 ∨ r.id = 2 := by omega
    rcases hi with e | e | e <;> (rw [e] at hown ⊢; simp only [Int.reduceAdd, Int.reduceMod]; omega)
  rw [hmax, best_adv h.fine.ord (fun x hx => (h.fine.snd x hx).2.1) h.fine.cm.1 (by omega)]
  have QM := Lib.hid (show Calls Tryz.prog 82 #[.slice (some ⟨b, 9, none⟩) 3 3] w fun e w' => e = .returned (.int .i64 mm) ∧ w' = w by rw [← hmm]; exact max_c h.c.c9 h.c.c10 h.c.c11)
  have QT := Lib.hid (show ∀ n, Calls Tryz.prog 62 #[.pointer (some ⟨b, 0, none⟩), .int .i64 mm] (w.drewN n) fun e w' => e = .returned (.int .i64 (tI r.l mm)) ∧ w' = w.drewN n from fun n => termOf_c (h.on (below_drewN (Below.refl _ w) n)) mm (by omega) (by omega))
  have c1 := h.c.c1
  have c5 := h.c.c5
  have z5 := h.c.z 5
  have HR := Lib.hid h
  have hmm0 : 0 ≤ mm ∧ mm ≤ (r.l.length : Int) := by omega
  have HK := Lib.hid (fun n => (Kept.below (S := fun k => k = b) (below_drewN (Below.refl _ w) n)))
  clear hmt hown h0 h1 h2 hid hmax hmm
  by_cases hc : r.cm < mm
  · by_cases ht : tI r.l mm = r.h.tm
    · rw [if_pos ⟨hc, ht⟩]
      have hq : (r.h.tm == r.h.tm) = true := by simp
      have HE := Lib.hid (fun n => rep_commit (h.on (below_drewN (Below.refl _ w) n)) hmm0)
      rw [ht] at QT
      clear h ht hmm0
      go_enter Tryz.func77, Tryz.ntmps77
      go_upto_region 1 with (with_reducible refine QM.out.mono ?_; rintro e w1 ⟨rfl, hw⟩; rw [hw]; clear hw)
      go_quiet (exact Calls.quiet_of_same (QT.out _))
      go_wp2_with fail
      (try simp only [Exit.inBlock, Exit.then])
      first | go_end0 | refine bodyPost_ret (results_none rfl _ _ _) rfl ?_
      exact ⟨rfl, (HE.out nq).1, (HK.out nq).trans (HE.out nq).2 (fun _ _ e => e)⟩
    · rw [if_neg (fun hh => ht hh.2)]
      have hq : (tI r.l mm == r.h.tm) = false := by simp [ht]
      have HE := Lib.hid (fun n => h.on (below_drewN (Below.refl _ w) n))
      clear h ht hmm0
      go_enter Tryz.func77, Tryz.ntmps77
      go_upto_region 1 with (with_reducible refine QM.out.mono ?_; rintro e w1 ⟨rfl, hw⟩; rw [hw]; clear hw)
      go_quiet (exact Calls.quiet_of_same (QT.out _))
      go_wp2_with fail
      (try simp only [Exit.inBlock, Exit.then])
      first | go_end0 | refine bodyPost_ret (results_none rfl _ _ _) rfl ?_
      exact ⟨rfl, HE.out nq, HK.out nq⟩
  · rw [if_neg (fun hh => hc hh.1)]
    have hcd : decide (r.cm < mm) = false := by simp; omega
    have HE := Lib.hid (fun n => h.on (below_drewN (Below.refl _ w) n))
    clear h hmm0
    go_enter Tryz.func77, Tryz.ntmps77
    go_upto_region 1 with (with_reducible refine QM.out.mono ?_; rintro e w1 ⟨rfl, hw⟩; rw [hw]; clear hw)
    go_quiet (exact Calls.quiet_of_same (QT.out _))
    go_wp2_with fail
    (try simp only [Exit.inBlock, Exit.then])
    first | go_end0 | refine bodyPost_ret (results_none rfl _ _ _) rfl ?_
    exact ⟨rfl, HE.out nq, HK.out nq⟩
end Go.Proofs.YtkmojcpiadpbaaaGreatDoor
