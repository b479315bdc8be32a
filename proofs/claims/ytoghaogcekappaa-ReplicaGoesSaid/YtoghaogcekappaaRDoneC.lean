/-
  The law's cluster: a call's result, whatever the replica's next call was told.
-/
import Derived.Test.YtoghaogcekappaaRDone
import Derived.Test.YtoghaogcekappaaRGo
namespace Go.Proofs.Ytoghaogcekappaa
set_option maxRecDepth 100000
open Go Go.RowKit Rp

set_option maxHeartbeats 1000000 in
theorem done_one {w : World} {b : Nat} {t : Nat → Nat} {x : Cl} {m : CM} (h : CluIs w b t x m) {k : Nat} (hk : k < 3) {v : Value} {o : Out} (hv : OutIs (fun j => t j = 0) w v o) (hst : x.st k = 1) (hl : Sml (x.lg k)) {x' : Cl} (hx : doneY x k o = some x') :
    Calls Try.prog 28 #[.pointer (some ⟨b, 0, none⟩), .int .i64 k, v] w fun e w' => e = .returned (.bool true) ∧ Hid (Moved w w' b t x') := by
  unfold doneY at hx
  rw [if_pos hst] at hx
  obtain ⟨ra, rc, sa, sc, ps, rfl, _⟩ := hv
  obtain ⟨W1, hW1⟩ : ∃ W1, W1 = w.alloc (.cells #[.bool o.save, .int .i64 o.h.tm, .int .i64 o.h.vt, .int .i64 o.fr, .slice ra o.rs.length rc, .slice sa ps.length sc] 35) := ⟨_, rfl⟩
  have hb1 : Below w.heap.size w W1 := by rw [hW1]; exact below_new w _
  have HB1 := Lib.hid hb1
  have h1 := h.on hb1
  have hc := h1.c hk
  have b1 := hc.x1
  have bs3 := hc.s3
  rw [hst] at bs3
  have QS := Lib.hid (start_any h1 hk hl hx)
  have hk3 : (k : Int) < 3 := by omega
  clear hb1 h1 hc hst hl hx h
  go_enter Try.func28, Try.ntmps28
  go_upto_region 1 with fail
  rw [← hW1]
  clear hW1
  go_wp2_with fail
  refine QS.out.mono ?_
  rintro e w7 ⟨rfl, HM⟩
  go_wp2_with fail
  go_ret
  exact ⟨rfl, Lib.hid (Moved.trans (t1 := t) (Kept.below HB1.out) (fun _ _ => rfl) HM.out)⟩
theorem done_c {w : World} {b : Nat} {t : Nat → Nat} {x : Cl} {m : CM} (h : CluIs w b t x m) {k : Nat} (hk : k < 3) {v : Value} {o : Out} (hv : OutIs (fun j => t j = 0) w v o) {r' : R} (hf : Fit r' o) (hL : x.sent.length ≤ 300) (hl : Sm (x.lg k)) (hp : Sm (put (x.lg k) o)) {x' : Cl} (hx : doneY x k o = some x') :
    Calls Try.prog 28 #[.pointer (some ⟨b, 0, none⟩), .int .i64 k, v] w fun e w' => e = .returned (.bool true) ∧ Hid (Moved w w' b t x') := by
  by_cases hst : x.st k = 1
  · exact done_one h hk hv hst hl hx
  · obtain ⟨h1, hv1⟩ := h.fresh hv
    exact (done_go h1 hk hv1 (fun j hj => newT_new hj) hf hst (by omega) hl hp hx).mono (fun e w' hh => ⟨hh.1, Lib.hid (hh.2.out.turn (fun j hj => newT_old hj))⟩)
/-- A call of a replica, and what is done with its result. -/
theorem CluIs.call {w w' : World} {b : Nat} {t : Nat → Nat} {x : Cl} {m : CM} (h : CluIs w b t x m) {k : Nat} (hk : k < 3) {r' : R} {v : Value} {o : Out} (hd : Did w w' (m.p k) (m.lv k) r' v o) (hn : Fit r' o ∧ Sm (x.lg k) ∧ Sm (put (x.lg k) o)) (hL : x.sent.length ≤ 300) {x' : Cl} (hx : doneC x k r' o = some x') :
    ∃ t' m', (∀ j, j < w.heap.size → t' j = t j) ∧ CluIs w' b t' { x with r := upd x.r k r' } m' ∧ Kept (fun j => t j ≠ 0 ∧ t j < 8) w w' ∧
      ∀ W, Below w'.heap.size w' W → Calls Try.prog 28 #[.pointer (some ⟨b, 0, none⟩), .int .i64 k, v] W fun e w2 => e = .returned (.bool true) ∧ Hid (Moved w w2 b t x') := by
  obtain ⟨t', m', e1, h1, h2, h3, _⟩ := h.did hk hd
  refine ⟨t', m', e1, h1, h3, fun W hW => ?_⟩
  have ho : OutIs (fun j => t' j = 0) W v o := (h2.mono (fun j hj => hj.1)).on hW
  rw [doneC_eq] at hx
  exact (done_c (h1.on hW) hk ho hn.1 hL hn.2.1 hn.2.2 hx).mono (fun e w2 hh => ⟨hh.1, Lib.hid (Moved.trans (t1 := t') (h3.trans (Kept.below (S := fun _ => False) hW) (fun _ _ q => q.elim)) e1 hh.2.out)⟩)
end Go.Proofs.Ytoghaogcekappaa
