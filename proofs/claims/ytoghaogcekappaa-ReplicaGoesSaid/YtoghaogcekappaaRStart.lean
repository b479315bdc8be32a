/-
  The law's cluster: a replica begins again.
-/
import Derived.Test.YtoghaogcekappaaRClM
import Derived.Deep.RegionHeld3
namespace Go.Proofs.Ytoghaogcekappaa
set_option maxRecDepth 100000
open Go Go.RowKit Rp

theorem get_set {a : Array Value} {i j : Nat} {v u : Value} (h : a[j]? = some u) (hne : j ≠ i) : (a.setIfInBounds i v)[j]? = some u := by
  rw [Array.getElem?_setIfInBounds_ne (fun e => hne e.symm)]; exact h
theorem get_put {a : Array Value} {i : Nat} {v u : Value} (h : a[i]? = some u) : (a.setIfInBounds i v)[i]? = some v := by
  rw [Array.getElem?_setIfInBounds_self_of_lt (Array.getElem?_eq_some_iff.1 h).1]
section
variable {w : World} {b : Nat} {t : Nat → Nat} {x : Cl} {m : CM}
/-- How the next call of a replica is interrupted. -/
theorem CluIs.stopped (h : CluIs w b t x m) {k : Nat} (hk : k < 3) (v : Int) : CluIs (w.setCell ⟨m.sb, k * 4 + 3, none⟩ (Value.int .i64 v)) b t { x with st := upd x.st k v } { m with sa := m.sa.setIfInBounds (k * 4 + 3) (Value.int .i64 v), la := m.la, lc := m.lc } :=
  h.store ((Kept.set m.sb _ _ _).mono (fun j _ e => by rw [e]; exact h.ts)) (box_set h.sbx _ _) (fun i hi => get_set (h.s0 i hi) (by omega)) (fun i hi => get_set (h.s1 i hi) (by omega)) (fun i hi => get_set (h.s2 i hi) (by omega))
    (fun i hi => by
      by_cases q : i = k
      · subst q
        show _ = some (Value.int .i64 (upd x.st i v i))
        rw [upd_same]
        exact get_put (h.s3 i hi)
      · show _ = some (Value.int .i64 (upd x.st k v i))
        rw [upd_ne _ _ (show (i : Int) ≠ (k : Int) by omega)]
        exact get_set (h.s3 i hi) (by omega)) rfl rfl (fun i hi => (h.lgs i hi).kept (Kept.set m.sb _ _ _) (fun j _ e e3 => by rw [e3, h.ts] at e; exact absurd e (by decide)))
/-- The cells of a cluster. -/
structure CluC (w : World) (b : Nat) (x : Cl) (m : CM) (k : Nat) : Prop where
  x0 : w.cell? ⟨b, 0, none⟩ = some (.slice (some ⟨m.rb, 0, none⟩) 3 m.rc)
  x1 : w.cell? ⟨b, 1, none⟩ = some (.slice (some ⟨m.sb, 0, none⟩) 3 m.sc)
  x2 : w.cell? ⟨b, 2, none⟩ = some (.slice m.xa m.ps.length m.xc)
  fx : ∀ o, w.frozen? ⟨b, o, none⟩ = false
  r : w.cell? ⟨m.rb, k, none⟩ = some (.pointer (some ⟨m.p k, 0, none⟩))
  fr : ∀ o, w.frozen? ⟨m.rb, o, none⟩ = false
  s0 : w.cell? ⟨m.sb, k * 4, none⟩ = some (.int .i64 (x.hd k).tm)
  s1 : w.cell? ⟨m.sb, k * 4 + 1, none⟩ = some (.int .i64 (x.hd k).vt)
  s2 : w.cell? ⟨m.sb, k * 4 + 2, none⟩ = some (.slice (m.la k) (x.lg k).length (m.lc k))
  s3 : w.cell? ⟨m.sb, k * 4 + 3, none⟩ = some (.int .i64 (x.st k))
  fs : ∀ o, w.frozen? ⟨m.sb, o, none⟩ = false
theorem CluIs.c (h : CluIs w b t x m) {k : Nat} (hk : k < 3) : CluC w b x m k := by
  refine ⟨?_, ?_, ?_, fun o => Lib.frozen_of_heap h.box o, ?_, fun o => Lib.frozen_of_heap h.rbx o, ?_, ?_, ?_, ?_, fun o => Lib.frozen_of_heap h.sbx o⟩
  · rw [Lib.cell_of_heap h.box]; rfl
  · rw [Lib.cell_of_heap h.box]; rfl
  · rw [Lib.cell_of_heap h.box]; rfl
  · rw [Lib.cell_of_heap h.rbx]; exact h.rce k hk
  · rw [Lib.cell_of_heap h.sbx]; exact h.s0 k hk
  · rw [Lib.cell_of_heap h.sbx]; exact h.s1 k hk
  · rw [Lib.cell_of_heap h.sbx]; exact h.s2 k hk
  · rw [Lib.cell_of_heap h.sbx]; exact h.s3 k hk
/-- A new replica takes the place of another one. -/
theorem CluIs.again (h : CluIs w b t x m) {k : Nat} (hk : k < 3) {w' : World} {r : R} {bn : Nat} {lv : Value} (hb : Below w.heap.size w w') (hr : RepAt w' bn lv r) (hbn : w.heap.size ≤ bn) (hlv : ∀ j, lv.ownBlock = some j → w.heap.size ≤ j) :
    Moved w (w'.setCell ⟨m.rb, k, none⟩ (.pointer (some ⟨bn, 0, none⟩))) b t { x with r := upd x.r k r } := by
  obtain ⟨t', ht'⟩ : ∃ t' : Nat → Nat, t' = fun j => if j < w.heap.size then t j else if j = bn ∨ lv.ownBlock = some j then 5 + k else 0 := ⟨_, rfl⟩
  have e1 : ∀ j, j < w.heap.size → t' j = t j := fun j hj => by rw [ht']; exact if_pos hj
  have e2 : ∀ j, Own bn lv j → t' j = 5 + k := fun j e => by
    have : w.heap.size ≤ j := e.elim (fun e => by omega) (fun e => hlv j e)
    have e : j = bn ∨ lv.ownBlock = some j := e
    rw [ht']; show (if j < w.heap.size then _ else _) = _; rw [if_neg (by omega), if_pos e]
  have hm := (h.mark e1).on hb
  have hset := Kept.set m.rb k w' (.pointer (some ⟨bn, 0, none⟩))
  have hrb : ∀ j, Own bn lv j → j ≠ m.rb := fun j e e' => by have := e2 j e; rw [e', hm.tr] at this; omega
  refine ⟨t', _, e1, hm.place hk (p' := bn) (lv' := lv) (ra' := m.ra.setIfInBounds k (.pointer (some ⟨bn, 0, none⟩))) (hset.mono (fun j _ e => Or.inl (by rw [e]; exact hm.tr))) (box_set hm.rbx _ _) (fun j hj => ?_) (hr.far hset hrb) e2, (Kept.below (S := fun j => t j ≠ 0 ∧ t j < 8) hb).trans hset (fun j _ e => by rw [e, h.tr]; decide)⟩
  by_cases q : j = k
  · subst q
    rw [updN_same]
    exact get_put (h.rce j hj)
  · rw [updN_ne _ _ q]
    exact get_set (h.rce j hj) q
end
/-- What is read for New. -/
def StC (w : World) (b : Nat) (x : Cl) (m : CM) (k : Nat) : Prop := w.cell? ⟨b, 0, none⟩ = some (.slice (some ⟨m.rb, 0, none⟩) 3 m.rc) ∧ w.cell? ⟨b, 1, none⟩ = some (.slice (some ⟨m.sb, 0, none⟩) 3 m.sc) ∧ w.cell? ⟨m.sb, k * 4, none⟩ = some (.int .i64 (x.hd k).tm) ∧ w.cell? ⟨m.sb, k * 4 + 1, none⟩ = some (.int .i64 (x.hd k).vt) ∧ w.cell? ⟨m.sb, k * 4 + 2, none⟩ = some (.slice (m.la k) (x.lg k).length (m.lc k))
/-- New, where it makes a replica, beside a cluster. -/
theorem new_k {w : World} {b : Nat} {t : Nat → Nat} {x : Cl} {m : CM} (h : CluIs w b t x m) {k : Nat} (hk : k < 3) (hl : Sml (x.lg k)) {r : R} (hr : newR k (x.hd k) (x.lg k) = some r) :
    Calls Try.prog 11 #[.int .i64 k, .agg #[.int .i64 (x.hd k).tm, .int .i64 (x.hd k).vt], .slice (m.la k) (x.lg k).length (m.lc k)] w fun e w' => ∃ bn, e = .returned (.pointer (some ⟨bn, 0, none⟩)) ∧
      StC w' b x m k ∧ w'.cell? ⟨m.rb, k, none⟩ = some (.pointer (some ⟨m.p k, 0, none⟩)) ∧ (∀ o, w'.frozen? ⟨m.rb, o, none⟩ = false) ∧ ∃ U, w'.setCell ⟨m.rb, k, none⟩ (.pointer (some ⟨bn, 0, none⟩)) = U ∧ StC U b x m k ∧ U.cell? ⟨m.rb, k, none⟩ = some (.pointer (some ⟨bn, 0, none⟩)) ∧ Hid (Moved w U b t { x with r := upd x.r k r }) :=
  (new_c k (x.hd k) (m.la k) (m.lc k) (x.lg k) (h.lgs k hk) (by have := hl.1; omega) (fun y hy => by have := hl.2 y hy; omega)).mono (fun e w' hh => by
    obtain ⟨h1, _, h3⟩ := hh
    obtain ⟨bn, lv, q1, q2, q3, q4⟩ := h1 r hr
    have c := (h.on h3).c hk
    have hset := Kept.set m.rb k w' (.pointer (some ⟨bn, 0, none⟩))
    have hbr : ¬ b = m.rb := fun e => by have := h.tb; rw [e, h.tr] at this; omega
    have hsr : ¬ m.sb = m.rb := fun e => by have := h.ts; rw [e, h.tr] at this; omega
    have hbx := box_set (h.on h3).rbx k (.pointer (some ⟨bn, 0, none⟩))
    exact ⟨bn, q1, ⟨c.x0, c.x1, c.s0, c.s1, c.s2⟩, c.r, c.fr, _, rfl, ⟨hset.cell c.x0 hbr, hset.cell c.x1 hbr, hset.cell c.s0 hsr, hset.cell c.s1 hsr, hset.cell c.s2 hsr⟩, by rw [Lib.cell_of_heap hbx]; exact get_put ((h.on h3).rce k hk), Lib.hid (h.again hk h3 q2 q3 q4)⟩)
set_option maxHeartbeats 2000000 in
theorem start_c {w : World} {b : Nat} {t : Nat → Nat} {x : Cl} {m : CM} (h : CluIs w b t x m) {k : Nat} (hk : k < 3) (hl : Sml (x.lg k)) {r : R} (hr : newR k (x.hd k) (x.lg k) = some r) :
    Calls Try.prog 50 #[.pointer (some ⟨b, 0, none⟩), .int .i64 k] w fun e w' => e = .returned (.bool true) ∧ Hid (Moved w w' b t { x with st := upd x.st k 0, r := upd x.r k r }) := by
  obtain ⟨W1, hW1⟩ : ∃ W1, W1 = w.setCell ⟨m.sb, k * 4 + 3, none⟩ (.int .i64 0) := ⟨_, rfl⟩
  have h1 := h.stopped hk 0
  rw [← hW1] at h1
  have hk1 : Hid (Kept (fun j => t j ≠ 0 ∧ t j < 8) w W1) := Lib.hid (by rw [hW1]; exact (Kept.set m.sb _ _ _).mono (fun j _ e => by rw [e, h.ts]; decide))
  have hc := h.c hk
  have a1 := hc.x1
  have a3 := hc.s3
  have af := hc.fs
  have hd := h1.c hk
  have b0 := hd.x0
  have b1 := hd.x1
  have br := hd.r
  have bf := hd.fr
  have bs0 := hd.s0
  have bs1 := hd.s1
  have bs2 := hd.s2
  have QN := Lib.hid (new_k (w := W1.drew) (h1.on (below_drew (Below.refl _ _))) hk hl hr)
  have hk3 : (k : Int) < 3 := by omega
  clear hc hd h h1 hl hr
  go_enter Try.func50, Try.ntmps50
  go_upto_region 2 with fail
  rw [← hW1]
  clear hW1 a1 a3 af
  go_region_held3 (fun w' => w'.cell? ⟨b, 0, none⟩ = some (.slice (some ⟨m.rb, 0, none⟩) 3 m.rc) ∧ w'.cell? ⟨b, 1, none⟩ = some (.slice (some ⟨m.sb, 0, none⟩) 3 m.sc) ∧ w'.cell? ⟨m.sb, k * 4, none⟩ = some (.int .i64 (x.hd k).tm) ∧ w'.cell? ⟨m.sb, k * 4 + 1, none⟩ = some (.int .i64 (x.hd k).vt) ∧ w'.cell? ⟨m.sb, k * 4 + 2, none⟩ = some (.slice (m.la k) (x.lg k).length (m.lc k)))
    (first | exact ⟨b0, b1, bs0, bs1, bs2⟩ | exact n0 | exact u0 | go_keep)
    ((first | (go_at_call 11; refine QN.out.mono ?_; rintro e w5 ⟨bn, rfl, n0, n1, n2, U, hU, u0, u1, HH⟩)))
  clear hU
  obtain ⟨u00, _⟩ := u0
  go_wp2_with fail
  go_ret
  exact ⟨rfl, Lib.hid (Moved.trans (w1 := W1.drew) (hk1.out.trans (Kept.drew (fun _ => False) W1) (fun _ _ e => e.elim)) (fun _ _ => rfl) HH.out)⟩
end Go.Proofs.Ytoghaogcekappaa
