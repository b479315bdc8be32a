/-
  The law's cluster: what is done with a result.
-/
import Derived.Test.YtoghaogcekappaaRSent
import Derived.Test.YtoghaogcekappaaRLast
import Derived.IntWalk
namespace Go.Proofs.Ytoghaogcekappaa
set_option maxRecDepth 100000
open Go Go.RowKit Rp

/-- What is stored of a result. -/
def savedC (x : Cl) (k : Int) (o : Out) : Cl := { x with hd := if o.save = true then upd x.hd k o.h else x.hd }
def loggedC (x : Cl) (k : Int) (o : Out) : Cl := { x with lg := upd x.lg k (put (x.lg k) o) }
theorem doneY_eq {x : Cl} {k : Int} (o : Out) (h : x.st k ≠ 1) : doneY x k o = if x.st k = 2 then startC (loggedC (savedC x k o) k o) k else some { loggedC (savedC x k o) k o with sent := x.sent ++ o.send.take (300 - x.sent.length) } := by
  unfold doneY
  rw [if_neg h]
  rfl
theorem saved_no {x : Cl} {k : Int} {o : Out} (h : o.save = false) : savedC x k o = x := by
  unfold savedC
  rw [if_neg (by rw [h]; decide)]
theorem saved_yes {x : Cl} {k : Int} {o : Out} (h : o.save = true) : savedC x k o = { x with hd := upd x.hd k o.h } := by
  unfold savedC
  rw [if_pos h]
theorem logged_no {x : Cl} {k : Int} {o : Out} (h : ¬ 0 < o.fr) : loggedC x k o = x := by
  unfold loggedC put
  rw [if_neg h, upd_self]
/-- A cluster in a world that came of another one. -/
structure Dn (W1 wx : World) (b : Nat) (t : Nat → Nat) (X : Cl) (m : CM) : Prop where
  clu : CluIs wx b t X m
  kept : Kept (fun j => t j ≠ 0 ∧ t j < 8) W1 wx
/-- What is read of a result. -/
structure OCells (w : World) (g : Nat) (sv : Bool) (o : Out) (ra : Option Addr) (rc : Nat) (sa : Option Addr) (sn sc : Nat) : Prop where
  c0 : w.cell? ⟨g, 0, none⟩ = some (.bool sv)
  c1 : w.cell? ⟨g, 1, none⟩ = some (.int .i64 o.h.tm)
  c2 : w.cell? ⟨g, 2, none⟩ = some (.int .i64 o.h.vt)
  c3 : w.cell? ⟨g, 3, none⟩ = some (.int .i64 o.fr)
  c4 : w.cell? ⟨g, 4, none⟩ = some (.slice ra o.rs.length rc)
  c5 : w.cell? ⟨g, 5, none⟩ = some (.slice sa sn sc)
theorem oCells {w : World} {g : Nat} {sv : Bool} {o : Out} {ra : Option Addr} {rc : Nat} {sa : Option Addr} {sn sc : Nat} (h : w.heap[g]? = some (.cells #[.bool sv, .int .i64 o.h.tm, .int .i64 o.h.vt, .int .i64 o.fr, .slice ra o.rs.length rc, .slice sa sn sc] 35 (0, 0))) : OCells w g sv o ra rc sa sn sc := by
  refine ⟨?_, ?_, ?_, ?_, ?_, ?_⟩ <;> rw [Lib.cell_of_heap h] <;> rfl

/-- The loop that sends. -/
structure Lp (W1 wr : World) (b : Nat) (t : Nat → Nat) (X : Cl) (send : List Msg) (i : Nat) (t' : Nat → Nat) (m' : CM) : Prop where
  mark : ∀ j, j < W1.heap.size → t' j = t j
  clu : CluIs wr b t' { X with sent := X.sent ++ send.take i } m'
  kept : Kept (fun j => t j ≠ 0 ∧ t j < 8) W1 wr
set_option maxHeartbeats 4000000 in
set_option linter.unusedSimpArgs false in
theorem done_go {w : World} {b : Nat} {t : Nat → Nat} {x : Cl} {m : CM} (h : CluIs w b t x m) {k : Nat} (hk : k < 3) {v : Value} {o : Out} (hv : OutIs (fun j => t j = 0) w v o) (ht : ∀ j, w.heap.size ≤ j → t j = 0) {r' : R} (hf : Fit r' o) (hst : x.st k ≠ 1) (hL : x.sent.length ≤ 1000) (hl : Sml (x.lg k)) (hp : Sml (put (x.lg k) o)) {x' : Cl} (hx : doneY x k o = some x') :
    Calls Try.prog 28 #[.pointer (some ⟨b, 0, none⟩), .int .i64 k, v] w fun e w' => e = .returned (.bool true) ∧ Hid (Moved w w' b t x') := by
  rw [doneY_eq o hst] at hx
  have hv0 := hv
  obtain ⟨ra, rc, sa, sc, ps, rfl, hrs, hps, hss, hok⟩ := hv
  have hpl : ps.length = o.send.length := by rw [← hps, List.length_map]
  obtain ⟨sv, hsv⟩ : ∃ sv, o.save = sv := ⟨_, rfl⟩
  rw [hsv]
  obtain ⟨W1, hW1⟩ : ∃ W1, W1 = w.alloc (.cells #[.bool sv, .int .i64 o.h.tm, .int .i64 o.h.vt, .int .i64 o.fr, .slice ra o.rs.length rc, .slice sa ps.length sc] 35) := ⟨_, rfl⟩
  have hb1 : Below w.heap.size w W1 := by rw [hW1]; exact below_new w _
  have hx1 : W1.heap[w.heap.size]? = some (.cells #[.bool sv, .int .i64 o.h.tm, .int .i64 o.h.vt, .int .i64 o.fr, .slice ra o.rs.length rc, .slice sa ps.length sc] 35 (0, 0)) := by rw [hW1]; exact box_new w _
  have tg : t w.heap.size = 0 := ht _ (Nat.le_refl _)
  have HB1 := Lib.hid hb1
  have HX1 := Lib.hid hx1
  have HT := Lib.hid ht
  have HTG := Lib.hid tg
  have HSV := Lib.hid hsv
  have HF := Lib.hid hf
  have HRS := Lib.hid (hrs.on hb1)
  have HSS := Lib.hid (hss.on hb1)
  have HOK := Lib.hid (show ∀ p ∈ ps, p.ok (fun j => t j = 0) W1 from fun p hp => (hok p hp).on hb1)
  have HPS := Lib.hid hps
  have HPL := Lib.hid hpl
  have HXE := Lib.hid hx
  have HL := Lib.hid hL
  have HLG := Lib.hid hl
  have HPT := Lib.hid hp
  have h1 := h.on hb1
  have H1 := Lib.hid h1
  have hbx : ¬ b = w.heap.size := by have := h.lt; omega
  have HBX := Lib.hid hbx
  have hk3 : (k : Int) < 3 := by omega
  have HST := Lib.hid hst
  have hc := h1.c hk
  have b1 := hc.x1
  have bs0 := hc.s0
  have bs1 := hc.s1
  have bs3 := hc.s3
  have bf := hc.fs
  have oc := oCells hx1
  have o0 := oc.c0
  have o1 := oc.c1
  have o2 := oc.c2
  obtain ⟨zst, hzst⟩ : ∃ z, x.st k = z := ⟨_, rfl⟩
  rw [hzst] at bs3
  have hst1 : (zst == 1) = false := by rw [hzst] at hst; simpa using hst
  have HZ := Lib.hid hzst
  clear hb1 hx1 ht tg hsv hf hrs hss hok hps hpl hx hL hl hp h1 hbx hst hc oc hzst hv0 h
  go_enter Try.func28, Try.ntmps28
  go_upto_region 1 with fail
  rw [← hW1]
  clear hW1
  go_upto_if 21 with fail
  go_cut [19] (fun t19 wx => Hid (∃ m', Dn W1 wx b t (savedC x k o) m'))
  case first =>
    cases sv with
    | true =>
      go_upto_region 4 with fail
      go_region
      all_goals
        go_wp2_with fail
        go_meet
        exact Lib.hid ⟨_, by rw [saved_yes HSV.out]; exact (H1.out.saved hk o.h).on (below_drew (Below.refl _ _)), (((Kept.set m.sb _ _ _).trans (Kept.set m.sb _ _ _) (fun _ _ e => e)).trans (Kept.drew (fun _ => False) _) (fun _ _ e => e.elim)).mono (fun j _ e => by rw [e, H1.out.ts]; decide)⟩
    | false =>
      go_wp2_with fail
      go_meet
      exact Lib.hid ⟨_, by rw [saved_no HSV.out]; exact H1.out, Kept.refl _ _⟩
  case rest =>
  rename World => w5
  obtain ⟨m1, hd5⟩ := hcut.out
  clear hcut b1 bs0 bs1 bs3 bf o0 o1 o2
  have HD5 := Lib.hid hd5
  have hx5 := hd5.kept.heap HX1.out (fun e => e.1 HTG.out)
  have HX5 := Lib.hid hx5
  have oc := oCells hx5
  have o3 := oc.c3
  have o4 := oc.c4
  have hc := hd5.clu.c hk
  have b1 := hc.x1
  have bs2 := hc.s2
  have bf := hc.fs
  have HE1 := Lib.hid (show (savedC x k o).lg k = x.lg k from rfl)
  clear hx5 oc hc hd5
  go_upto_if 33 with fail
  go_cut [65] (fun t65 wx => Hid (∃ m', Dn W1 wx b t (loggedC (savedC x k o) k o) m'))
  case first =>
    by_cases hfr : 0 < o.fr
    · obtain ⟨f1, hf1⟩ : ∃ f1 : Nat, o.fr = (f1 : Int) + 1 := ⟨(o.fr - 1).toNat, by omega⟩
      have hfb : (f1 : Int) + 1 ≤ 4001 := by have := HF.out.fr; omega
      have hsub : IntKind.i64.wrap (o.fr - 1) = (f1 : Int) := by rw [hf1, show (f1 : Int) + 1 - 1 = (f1 : Int) by omega]; exact IntWalk.i64_in _ (by omega)
      have hdec : decide (0 < o.fr) = true := by simpa using hfr
      have hrn : o.rs.length ≤ 4000 := (HF.out.rs hfr).1
      obtain ⟨RN, hRN⟩ : ∃ RN, o.rs.length = RN := ⟨_, rfl⟩
      rw [hRN] at o4 hrn
      obtain ⟨N, hN⟩ : ∃ N, ((savedC x k o).lg k).length = N := ⟨_, rfl⟩
      rw [hN] at bs2
      have hN4 : N ≤ 4000 := by rw [← hN, HE1.out]; exact HLG.out.1
      obtain ⟨n, hn⟩ : ∃ n : Nat, n = min f1 N := ⟨_, rfl⟩
      have hbd : Below w5.heap.size w5 w5.drew := below_drew (Below.refl _ _)
      have h5d := HD5.out.clu.on hbd
      obtain ⟨a1, c1, w1, a2, c2, w2, HT2⟩ := two_rec (w := w5.drew) (h5d.lgs k hk) (n := n) (by rw [hN]; omega) (by rw [hN]; omega) (((HRS.out.kept HD5.out.kept (fun j _ e e' => e'.1 e)).on hbd)) (by rw [hRN]; omega)
      rw [hRN] at HT2
      have hr1 := HT2.run1
      have hr2 := HT2.run2
      have hmini : min (f1 : Int) (N : Int) = (n : Int) := by omega
      have hnl : (n : Int) ≤ (N : Int) := by omega
      have hlc : N ≤ m1.lc k := by have := (h5d.lgs k hk).1; rw [hN] at this; exact this
      have hnc : (n : Int) ≤ (m1.lc k : Int) := by omega
      have hsl := fun wx => rec_to (m1.la k) N (m1.lc k) n (by omega) wx
      have hcell : ∀ W, Below w5.heap.size w5 W → W.cell? ⟨b, 1, none⟩ = some (.slice (some ⟨m1.sb, 0, none⟩) 3 m1.sc) ∧ W.cell? ⟨m1.sb, k * 4 + 2, none⟩ = some (.slice (m1.la k) N (m1.lc k)) ∧ W.cell? ⟨w.heap.size, 3, none⟩ = some (.int .i64 o.fr) ∧ W.cell? ⟨w.heap.size, 4, none⟩ = some (.slice ra RN rc) ∧ (∀ o, W.frozen? ⟨m1.sb, o, none⟩ = false) := fun W hW => by
        have hc := (HD5.out.clu.on hW).c hk
        have hx := oCells (box_on HX5.out hW)
        exact ⟨hc.x1, by rw [← hN]; exact hc.s2, hx.c3, by rw [← hRN]; exact hx.c4, hc.fs⟩
      obtain ⟨p1, p2, p3, p4, p5⟩ := hcell (w5.alloc (.cells #[] 67)) (below_new _ _)
      obtain ⟨q1, q2, q3, q4, q5⟩ := hcell w1 (hbd.trans HT2.below1)
      obtain ⟨r1, r2, r3, r4, r5⟩ := hcell w2 (hbd.trans HT2.below)
      have hr1' : (Builtin.append_ #[24, 24] 24 #[.slice (some ⟨w5.heap.size, 0, none⟩) 0 0, .slice (m1.la k) n (m1.lc k)]).run Try.prog (w5.alloc (.cells #[] 67)).drew = .ok (.slice a1 n c1) w1 := hr1
      have hf0 : (0 : Int) ≤ (f1 : Int) := by omega
      have HT3 := Lib.hid HT2
      have HN := Lib.hid hN
      have HRN := Lib.hid hRN
      have HF1 := Lib.hid hf1
      have Hn := Lib.hid hn
      have HFR := Lib.hid hfr
      clear HT2 hN hRN hf1 hn hcell hbd h5d hlc hrn hN4
      go_upto_region 6 with fail
      refine e_start [34] (fun w' => w'.cell? ⟨b, 1, none⟩ = some (.slice (some ⟨m1.sb, 0, none⟩) 3 m1.sc) ∧ w'.cell? ⟨m1.sb, k * 4 + 2, none⟩ = some (.slice (m1.la k) N (m1.lc k)) ∧ w'.cell? ⟨w.heap.size, 3, none⟩ = some (.int .i64 o.fr) ∧ w'.cell? ⟨w.heap.size, 4, none⟩ = some (.slice ra RN rc) ∧ (∀ o, w'.frozen? ⟨m1.sb, o, none⟩ = false)) (by kernel_rfl) ⟨b1, bs2, o3, o4, bf⟩ (fun hS => ?_)
      refine e_take (i := 0) (v := ?_) rfl (by kernel_rfl) (by kernel_rfl) (by kernel_rfl) (by kernel_rfl) (fun _ _ _ h => h) (Or.inl ⟨by rfl, ?_⟩) (by assumption) ?_
      rotate_left
      · (intro wS hSw; (try dsimp only at hSw); obtain ⟨s1, s2, s3, s4, s5⟩ := hSw; go_simp <;> with_reducible rfl)
      try simp only [Act.put, List.setIfInBounds_toArray, List.set_cons_zero, List.set_cons_succ]
      refine e_take (i := 1) (v := ?_) rfl (by kernel_rfl) (by kernel_rfl) (by kernel_rfl) (by kernel_rfl) (fun _ _ _ h => h) (Or.inl ⟨by rfl, ?_⟩) (by assumption) ?_
      rotate_left
      · (intro wS hSw; (try dsimp only at hSw); obtain ⟨s1, s2, s3, s4, s5⟩ := hSw; go_simp <;> with_reducible rfl)
      try simp only [Act.put, List.setIfInBounds_toArray, List.set_cons_zero, List.set_cons_succ]
      refine e_take (i := 2) (v := ?_) rfl (by kernel_rfl) (by kernel_rfl) (by kernel_rfl) (by kernel_rfl) (fun _ _ _ h => h) (Or.inl ⟨by rfl, ?_⟩) (by assumption) ?_
      rotate_left
      · (intro wS hSw; (try dsimp only at hSw); obtain ⟨s1, s2, s3, s4, s5⟩ := hSw; go_simp <;> with_reducible rfl)
      try simp only [Act.put, List.setIfInBounds_toArray, List.set_cons_zero, List.set_cons_succ]
      refine e_take (i := 3) (v := ?_) rfl (by kernel_rfl) (by kernel_rfl) (by kernel_rfl) (by kernel_rfl) (fun _ _ _ h => h) (Or.inl ⟨by rfl, ?_⟩) (by assumption) ?_
      rotate_left
      · (intro wS hSw; (try dsimp only at hSw); obtain ⟨s1, s2, s3, s4, s5⟩ := hSw; go_simp <;> with_reducible rfl)
      try simp only [Act.put, List.setIfInBounds_toArray, List.set_cons_zero, List.set_cons_succ]
      refine e_take (i := 4) (v := ?_) rfl (by kernel_rfl) (by kernel_rfl) (by kernel_rfl) (by kernel_rfl) (fun _ _ _ h => h) (Or.inl ⟨by rfl, ?_⟩) (by assumption) ?_
      rotate_left
      · (intro wS hSw; (try dsimp only at hSw); obtain ⟨s1, s2, s3, s4, s5⟩ := hSw; go_simp <;> with_reducible rfl)
      try simp only [Act.put, List.setIfInBounds_toArray, List.set_cons_zero, List.set_cons_succ]
      refine e_take (i := 6) (v := ?_) rfl (by kernel_rfl) (by kernel_rfl) (by kernel_rfl) (by kernel_rfl) (fun _ _ _ h => h) (Or.inl ⟨by rfl, ?_⟩) (by assumption) ?_
      rotate_left
      · (intro wS hSw; (try dsimp only at hSw); obtain ⟨s1, s2, s3, s4, s5⟩ := hSw; go_simp <;> with_reducible rfl)
      try simp only [Act.put, List.setIfInBounds_toArray, List.set_cons_zero, List.set_cons_succ]
      refine e_take (i := 7) (v := ?_) rfl (by kernel_rfl) (by kernel_rfl) (by kernel_rfl) (by kernel_rfl) (fun _ _ _ h => h) (Or.inl ⟨by rfl, ?_⟩) (by assumption) ?_
      rotate_left
      · (intro wS hSw; (try dsimp only at hSw); obtain ⟨s1, s2, s3, s4, s5⟩ := hSw; go_simp <;> with_reducible rfl)
      try simp only [Act.put, List.setIfInBounds_toArray, List.set_cons_zero, List.set_cons_succ]
      refine e_take (i := 8) (v := ?_) rfl (by kernel_rfl) (by kernel_rfl) (by kernel_rfl) (by kernel_rfl) (fun _ _ _ h => h) (Or.inl ⟨by rfl, ?_⟩) (by assumption) ?_
      rotate_left
      · (intro wS hSw; (try dsimp only at hSw); obtain ⟨s1, s2, s3, s4, s5⟩ := hSw; go_simp <;> with_reducible rfl)
      try simp only [Act.put, List.setIfInBounds_toArray, List.set_cons_zero, List.set_cons_succ]
      refine e_take (i := 9) (v := ?_) rfl (by kernel_rfl) (by kernel_rfl) (by kernel_rfl) (by kernel_rfl) (fun _ _ _ h => h) (Or.inl ⟨by rfl, ?_⟩) (by assumption) ?_
      rotate_left
      · (intro wS hSw; (try dsimp only at hSw); obtain ⟨s1, s2, s3, s4, s5⟩ := hSw; go_simp <;> with_reducible rfl)
      try simp only [Act.put, List.setIfInBounds_toArray, List.set_cons_zero, List.set_cons_succ]
      refine e_take (i := 10) (v := ?_) rfl (by kernel_rfl) (by kernel_rfl) (by kernel_rfl) (by kernel_rfl) (fun _ _ _ h => h) (Or.inl ⟨by rfl, ?_⟩) (by assumption) ?_
      rotate_left
      · (intro wS hSw; (try dsimp only at hSw); obtain ⟨s1, s2, s3, s4, s5⟩ := hSw; go_simp <;> with_reducible rfl)
      try simp only [Act.put, List.setIfInBounds_toArray, List.set_cons_zero, List.set_cons_succ]
      refine e_take (i := 11) (v := ?_) rfl (by kernel_rfl) (by kernel_rfl) (by kernel_rfl) (by kernel_rfl) (fun _ _ _ h => h) (Or.inl ⟨by rfl, ?_⟩) (by assumption) ?_
      rotate_left
      · (intro wS hSw; (try dsimp only at hSw); obtain ⟨s1, s2, s3, s4, s5⟩ := hSw; go_simp <;> with_reducible rfl)
      try simp only [Act.put, List.setIfInBounds_toArray, List.set_cons_zero, List.set_cons_succ]
      refine e_take (i := 12) (v := ?_) rfl (by kernel_rfl) (by kernel_rfl) (by kernel_rfl) (by kernel_rfl) (fun _ _ _ h => h) (Or.inl ⟨by rfl, ?_⟩) (by assumption) ?_
      rotate_left
      · (intro wS hSw; (try dsimp only at hSw); obtain ⟨s1, s2, s3, s4, s5⟩ := hSw; go_simp <;> with_reducible rfl)
      try simp only [Act.put, List.setIfInBounds_toArray, List.set_cons_zero, List.set_cons_succ]
      refine e_take (i := 13) (v := ?_) rfl (by kernel_rfl) (by kernel_rfl) (by kernel_rfl) (by kernel_rfl) (fun _ _ _ h => h) (Or.inl ⟨by rfl, ?_⟩) (by assumption) ?_
      rotate_left
      · (intro wS hSw; (try dsimp only at hSw); obtain ⟨s1, s2, s3, s4, s5⟩ := hSw; go_simp <;> with_reducible rfl)
      try simp only [Act.put, List.setIfInBounds_toArray, List.set_cons_zero, List.set_cons_succ]
      refine e_take (i := 14) (v := ?_) rfl (by kernel_rfl) (by kernel_rfl) (by kernel_rfl) (by kernel_rfl) (fun _ _ _ h => h) (Or.inl ⟨by rfl, ?_⟩) (by assumption) ?_
      rotate_left
      · (intro wS hSw; (try dsimp only at hSw); obtain ⟨s1, s2, s3, s4, s5⟩ := hSw; go_simp <;> with_reducible rfl)
      try simp only [Act.put, List.setIfInBounds_toArray, List.set_cons_zero, List.set_cons_succ]
      refine e_take (i := 15) (v := ?_) rfl (by kernel_rfl) (by kernel_rfl) (by kernel_rfl) (by kernel_rfl) (fun _ _ _ h => h) (Or.inl ⟨by rfl, ?_⟩) (by assumption) ?_
      rotate_left
      · (intro wS hSw; (try dsimp only at hSw); obtain ⟨s1, s2, s3, s4, s5⟩ := hSw; go_simp <;> with_reducible rfl)
      try simp only [Act.put, List.setIfInBounds_toArray, List.set_cons_zero, List.set_cons_succ]
      refine e_take (i := 16) (v := ?_) rfl (by kernel_rfl) (by kernel_rfl) (by kernel_rfl) (by kernel_rfl) (fun _ _ _ h => h) (Or.inl ⟨by rfl, ?_⟩) (by assumption) ?_
      rotate_left
      · (intro wS hSw; (try dsimp only at hSw); obtain ⟨s1, s2, s3, s4, s5⟩ := hSw; go_simp <;> with_reducible rfl)
      try simp only [Act.put, List.setIfInBounds_toArray, List.set_cons_zero, List.set_cons_succ]
      refine e_take (i := 17) (v := ?_) rfl (by kernel_rfl) (by kernel_rfl) (by kernel_rfl) (by kernel_rfl) (fun _ _ _ h => h) (Or.inl ⟨by rfl, ?_⟩) (by assumption) ?_
      rotate_left
      · (intro wS hSw; (try dsimp only at hSw); obtain ⟨s1, s2, s3, s4, s5⟩ := hSw; go_simp <;> with_reducible rfl)
      try simp only [Act.put, List.setIfInBounds_toArray, List.set_cons_zero, List.set_cons_succ]
      refine e_take (i := 18) (v := ?_) rfl (by kernel_rfl) (by kernel_rfl) (by kernel_rfl) (by kernel_rfl) (fun _ _ _ h => h) (Or.inl ⟨by rfl, ?_⟩) (by assumption) ?_
      rotate_left
      · (intro wS hSw; (try dsimp only at hSw); obtain ⟨s1, s2, s3, s4, s5⟩ := hSw; go_simp <;> with_reducible rfl)
      try simp only [Act.put, List.setIfInBounds_toArray, List.set_cons_zero, List.set_cons_succ]
      refine e_take (i := 19) (v := ?_) rfl (by kernel_rfl) (by kernel_rfl) (by kernel_rfl) (by kernel_rfl) (fun _ _ _ h => h) (Or.inl ⟨by rfl, ?_⟩) (by assumption) ?_
      rotate_left
      · (intro wS hSw; (try dsimp only at hSw); obtain ⟨s1, s2, s3, s4, s5⟩ := hSw; go_simp <;> with_reducible rfl)
      try simp only [Act.put, List.setIfInBounds_toArray, List.set_cons_zero, List.set_cons_succ]
      refine e_take (i := 20) (v := ?_) rfl (by kernel_rfl) (by kernel_rfl) (by kernel_rfl) (by kernel_rfl) (fun _ _ _ h => h) (Or.inl ⟨by rfl, ?_⟩) (by assumption) ?_
      rotate_left
      · (intro wS hSw; (try dsimp only at hSw); obtain ⟨s1, s2, s3, s4, s5⟩ := hSw; go_simp <;> with_reducible rfl)
      try simp only [Act.put, List.setIfInBounds_toArray, List.set_cons_zero, List.set_cons_succ]
      refine e_take (i := 21) (v := ?_) rfl (by kernel_rfl) (by kernel_rfl) (by kernel_rfl) (by kernel_rfl) (fun _ _ _ h => h) (Or.inl ⟨by rfl, ?_⟩) (by assumption) ?_
      rotate_left
      · (intro wS hSw; (try dsimp only at hSw); obtain ⟨s1, s2, s3, s4, s5⟩ := hSw; go_simp <;> with_reducible rfl)
      try simp only [Act.put, List.setIfInBounds_toArray, List.set_cons_zero, List.set_cons_succ]
      refine e_take (i := 22) (v := ?_) rfl (by kernel_rfl) (by kernel_rfl) (by kernel_rfl) (by kernel_rfl) (fun _ _ _ h => h) (Or.inl ⟨by rfl, ?_⟩) (by assumption) ?_
      rotate_left
      · (intro wS hSw; (try dsimp only at hSw); obtain ⟨s1, s2, s3, s4, s5⟩ := hSw; go_simp <;> with_reducible rfl)
      try simp only [Act.put, List.setIfInBounds_toArray, List.set_cons_zero, List.set_cons_succ]
      refine e_take (i := 23) (v := ?_) rfl (by kernel_rfl) (by kernel_rfl) (by kernel_rfl) (by kernel_rfl) (fun _ _ _ h => h) (Or.inl ⟨by rfl, ?_⟩) (by assumption) ?_
      rotate_left
      · (intro wS hSw; (try dsimp only at hSw); obtain ⟨s1, s2, s3, s4, s5⟩ := hSw; go_simp <;> with_reducible rfl)
      try simp only [Act.put, List.setIfInBounds_toArray, List.set_cons_zero, List.set_cons_succ]
      refine e_take (i := 24) (v := ?_) rfl (by kernel_rfl) (by kernel_rfl) (by kernel_rfl) (by kernel_rfl) (fun _ _ _ h => h) (Or.inl ⟨by rfl, ?_⟩) (by assumption) ?_
      rotate_left
      · (intro wS hSw; (try dsimp only at hSw); obtain ⟨s1, s2, s3, s4, s5⟩ := hSw; go_simp <;> with_reducible rfl)
      try simp only [Act.put, List.setIfInBounds_toArray, List.set_cons_zero, List.set_cons_succ]
      refine e_take (i := 25) (v := ?_) rfl (by kernel_rfl) (by kernel_rfl) (by kernel_rfl) (by kernel_rfl) (fun _ _ _ h => h) (Or.inl ⟨by rfl, ?_⟩) (by assumption) ?_
      rotate_left
      · (intro wS hSw; (try dsimp only at hSw); obtain ⟨s1, s2, s3, s4, s5⟩ := hSw; go_simp <;> with_reducible rfl)
      try simp only [Act.put, List.setIfInBounds_toArray, List.set_cons_zero, List.set_cons_succ]
      refine e_take (i := 26) (v := ?_) rfl (by kernel_rfl) (by kernel_rfl) (by kernel_rfl) (by kernel_rfl) (fun _ _ _ h => h) (Or.inl ⟨by rfl, ?_⟩) (by assumption) ?_
      rotate_left
      · (intro wS hSw; (try dsimp only at hSw); obtain ⟨s1, s2, s3, s4, s5⟩ := hSw; go_simp <;> with_reducible rfl)
      try simp only [Act.put, List.setIfInBounds_toArray, List.set_cons_zero, List.set_cons_succ]
      refine e_take (i := 27) (v := ?_) rfl (by kernel_rfl) (by kernel_rfl) (by kernel_rfl) (by kernel_rfl) (fun _ _ _ h => h) (Or.inl ⟨by rfl, ?_⟩) (by assumption) ?_
      rotate_left
      · (intro wS hSw; (try dsimp only at hSw); obtain ⟨s1, s2, s3, s4, s5⟩ := hSw; go_simp <;> with_reducible rfl)
      try simp only [Act.put, List.setIfInBounds_toArray, List.set_cons_zero, List.set_cons_succ]
      refine e_take (i := 29) (v := ?_) rfl (by kernel_rfl) (by kernel_rfl) (by kernel_rfl) (by kernel_rfl) (fun _ _ _ h => h) (Or.inl ⟨by rfl, ?_⟩) (by assumption) ?_
      rotate_left
      · (intro wS hSw; (try dsimp only at hSw); obtain ⟨s1, s2, s3, s4, s5⟩ := hSw; go_simp <;> with_reducible rfl)
      try simp only [Act.put, List.setIfInBounds_toArray, List.set_cons_zero, List.set_cons_succ]
      refine e_take (i := 30) (v := ?_) rfl (by kernel_rfl) (by kernel_rfl) (by kernel_rfl) (by kernel_rfl) (fun _ _ _ h => h) (Or.inl ⟨by rfl, ?_⟩) (by assumption) ?_
      rotate_left
      · (intro wS hSw; (try dsimp only at hSw); obtain ⟨s1, s2, s3, s4, s5⟩ := hSw; go_simp <;> with_reducible rfl)
      try simp only [Act.put, List.setIfInBounds_toArray, List.set_cons_zero, List.set_cons_succ]
      refine e_one (i := 5) (by kernel_rfl) rfl rfl (fun K hK => ?_)
      go_simp
      refine hK _ _ (Or.inr ⟨p1, p2, p3, p4, p5⟩) ?_
      try simp only [Act.put, List.setIfInBounds_toArray, List.set_cons_zero, List.set_cons_succ]
      refine e_one (i := 28) (by kernel_rfl) rfl rfl (fun K hK => ?_)
      refine Lib.wp_append_run _ (.tmp 39) (.tmp 61) _ _ rfl _ _ rfl rfl _ _ hr1' ?_
      refine hK _ _ (Or.inr ⟨q1, q2, q3, q4, q5⟩) ?_
      try simp only [Act.put, List.setIfInBounds_toArray, List.set_cons_zero, List.set_cons_succ]
      refine e_one (i := 31) (by kernel_rfl) rfl rfl (fun K hK => ?_)
      refine Lib.wp_append_run _ (.tmp 62) (.tmp 64) _ _ rfl _ _ rfl rfl _ _ hr2 ?_
      refine hK _ _ (Or.inr ⟨r1, r2, r3, r4, r5⟩) ?_
      try simp only [Act.put, List.setIfInBounds_toArray, List.set_cons_zero, List.set_cons_succ]
      refine e_one (i := 32) (by kernel_rfl) rfl rfl (fun K hK => ?_)
      go_simp
      refine hK _ _ (Or.inr ⟨r1, r2, r3, r4, r5⟩) ?_
      try simp only [Act.put, List.setIfInBounds_toArray, List.set_cons_zero, List.set_cons_succ]
      refine e_one (i := 33) (by kernel_rfl) rfl rfl (fun K hK => ?_)
      go_simp
      refine hK _ _ (Or.inr ⟨r1, r2, r3, r4, r5⟩) ?_
      try simp only [Act.put, List.setIfInBounds_toArray, List.set_cons_zero, List.set_cons_succ]
      refine e_one (i := 34) (by kernel_rfl) rfl rfl (fun K hK => ?_)
      go_simp
      refine hK _ _ (Or.inl (by simp)) ?_
      try simp only [Act.put, List.setIfInBounds_toArray, List.set_cons_zero, List.set_cons_succ]
      refine e_done (by kernel_rfl) ?_ _
      go_wp2_with fail
      go_meet
      have hlen : (((savedC x k o).lg k).take n ++ o.rs).length = n + RN := by rw [List.length_append, List.length_take, HN.out, HRN.out]; have := Hn.out; omega
      have hput : put ((savedC x k o).lg k) o = ((savedC x k o).lg k).take n ++ o.rs := by
        unfold put
        rw [if_pos HFR.out, HF1.out, HN.out, show (min ((f1 : Int) + 1 - 1) (N : Int)).toNat = n by have := Hn.out; omega]
      have hrow := HT3.out.row
      rw [← hlen] at hrow
      have hsrc : Src (fun j => t j = 0) w2 a2 c2 (((savedC x k o).lg k).take n ++ o.rs).length (recsV (((savedC x k o).lg k).take n ++ o.rs)) := hrow.src (fun j e => HT.out j (by have h6 := hrow.above e; have h7 := HD5.out.kept.size; have h8 := HB1.out.size; have h9 : w5.drew.heap.size = w5.heap.size := rfl; omega))
      have hlog := (HD5.out.clu.on (below_drew (Below.refl _ _))).logged hk HT3.out.below hsrc
      rw [hlen] at hlog
      refine Lib.hid ⟨_, by unfold loggedC; rw [hput]; exact hlog, ?_⟩
      exact ((HD5.out.kept.trans (Kept.drew (fun _ => False) _) (fun _ _ e => e.elim)).trans (Kept.below (S := fun _ => False) HT3.out.below) (fun _ _ e => e.elim)).trans (Kept.set m1.sb _ _ _) (fun j _ e => by rw [e, HD5.out.clu.ts]; decide)
    · have HFR := Lib.hid hfr
      go_wp2_with fail
      go_meet
      exact Lib.hid ⟨_, by rw [logged_no (by have := HFR.out; omega)]; exact HD5.out.clu, HD5.out.kept⟩
  case rest =>
  rename World => w6
  obtain ⟨m2, hd6⟩ := hcut.out
  clear hcut b1 bs2 bf o3 o4
  have HD6 := Lib.hid hd6
  have hc := hd6.clu.c hk
  have b1 := hc.x1
  have bs3 := hc.s3
  have es : (loggedC (savedC x k o) k o).st k = zst := HZ.out
  rw [es] at bs3
  have hsz := HB1.out.size
  by_cases hz2 : zst = 2
  · have hz2' : (zst == 2) = true := by simpa using hz2
    have hxx := HXE.out
    rw [HZ.out, if_pos hz2] at hxx
    have QS := Lib.hid (start_any hd6.clu hk (by show Sml (upd x.lg k (put (x.lg k) o) k); rw [upd_same]; exact HPT.out) hxx)
    clear hxx hz2 es hc hd6
    go_wp2_with fail
    refine QS.out.mono ?_
    rintro e w7 ⟨rfl, HM⟩
    go_wp2_with fail
    go_ret
    refine ⟨rfl, Lib.hid (Moved.trans (t1 := t) ((Kept.below HB1.out).trans HD6.out.kept (fun _ _ e => e)) (fun _ _ => rfl) HM.out)⟩
  · have hz2' : (zst == 2) = false := by simpa using hz2
    have hxx := HXE.out
    rw [HZ.out, if_neg hz2] at hxx
    have HXX := Lib.hid hxx
    have L1 : Lp W1 w6 b t (loggedC (savedC x k o) k o) o.send 0 t m2 := ⟨fun _ _ => rfl, by rw [List.take_zero, List.append_nil]; exact hd6.clu, hd6.kept⟩
    have HL1 := Lib.hid L1
    have hpn : ps.length ≤ 2 := by rw [HPL.out]; exact HF.out.sn
    have HB6 := Lib.hid (Kept.below (S := fun j => t j ≠ 0 ∧ t j < 8) HB1.out)
    clear hxx hz2 es hc hd6 L1
    obtain ⟨PL, hPL⟩ : ∃ n, n = ps.length := ⟨_, rfl⟩
    rw [← hPL] at hpn ⊢
    have HPN := Lib.hid hPL
    clear hPL
    go_wp2_with fail
    clear b1 bs3 hz2'
    go_loopw [7] (fun v7 wr => ∃ (i : Nat) (t' : Nat → Nat) (m' : CM), i ≤ PL ∧ v7 = .int .i64 (i : Int) ∧ (i = 0 ∨ x.sent.length + i ≤ 300) ∧ Hid (Lp W1 wr b t (loggedC (savedC x k o) k o) o.send i t' m')) (fun v7 _ => PL - (intOf v7).toNat)
    case atStart => exact ⟨0, t, m2, Nat.zero_le _, rfl, Or.inl rfl, HL1⟩
    case round =>
      obtain ⟨i, t', m', hi, rfl, hb3, HLi⟩ := hrel
      have HB3 := Lib.hid hb3
      clear hb3
      have oc := oCells (HLi.out.kept.heap HX1.out (fun e => e.1 HTG.out))
      have o5 := oc.c5
      rw [← HPN.out] at o5
      have hcc := HLi.out.clu.c hk
      have y2 := hcc.x2
      have yf := hcc.fx
      have hsn : m'.ps.length = x.sent.length + i := by
        have e := congrArg List.length HLi.out.clu.ms
        rw [List.length_map] at e
        rw [e]
        show (x.sent ++ o.send.take i).length = _
        rw [List.length_append, List.length_take]
        have := HPL.out
        have := HPN.out
        omega
      obtain ⟨SN, hSN⟩ : ∃ SN, m'.ps.length = SN := ⟨_, rfl⟩
      rw [hSN] at y2 hsn
      have HSN := Lib.hid hSN
      have HSL := Lib.hid hsn
      clear oc hcc hSN hsn
      have HEXIT := Lib.hid (fun (he : ¬ (i < PL ∧ SN < 300)) => (show Hid (Moved w wr b t x') from by
        have e1 : o.send.take i = o.send.take (300 - x.sent.length) := by
          have h1 := HSL.out
          have h2 := HPN.out
          have h3 := HPL.out
          rcases HB3.out with h4 | h4
          · subst h4
            by_cases h5 : PL = 0
            · rw [List.take_zero, show o.send = [] from List.eq_nil_of_length_eq_zero (by omega)]; simp
            · rw [show 300 - x.sent.length = 0 by omega]
          · by_cases h5 : i < PL
            · rw [show 300 - x.sent.length = i by omega]
            · rw [List.take_of_length_le (by omega), List.take_of_length_le (by omega)]
        have e2 := Option.some.inj HXX.out
        refine Lib.hid ⟨t', m', fun j hj => HLi.out.mark j (Nat.lt_of_lt_of_le hj HB1.out.size), ?_, HB6.out.trans HLi.out.kept (fun _ _ e => e)⟩
        rw [← e2, ← e1]
        exact HLi.out.clu))
      by_cases hiP : i < PL
      · have hiP' : (i : Int) < (PL : Int) := by omega
        by_cases hS3 : SN < 300
        · have hS3' : (SN : Int) < 300 := by omega
          obtain ⟨p, hp⟩ : ∃ p, ps[i]? = some p := ⟨ps[i]'(by have := HPN.out; omega), List.getElem?_eq_getElem _⟩
          obtain ⟨bp, off, hsa, hbp, hmc⟩ := msg_cells HSS.out rfl hp
          have hbpl : bp < W1.heap.size := World.block_lt_of_cell? W1 _ hmc.c0
          have hmc := hmc.kept HLi.out.kept (fun e => e.1 hbp)
          rw [hsa] at o5
          have hbpt : t' bp = 0 := (HLi.out.mark bp hbpl).trans hbp
          have hpm : o.send[i]? = some p.m := by rw [← HPS.out, List.getElem?_map, hp]; rfl
          have hpo : p.ok (fun j => t' j = 0) wr := by
            have q1 : p.ok (fun j => t j = 0 ∧ j < W1.heap.size) W1 := Src.mono (HOK.out p (List.mem_of_getElem? hp)) (fun j hj e => ⟨e, hj⟩) recs_some
            exact (q1.kept HLi.out.kept (fun j _ e e' => e'.1 e.1)).mono (fun j e => (HLi.out.mark j e.2).trans e.1)
          have hpsm : Sml p.m.rs := HF.out.sm p.m (List.mem_of_getElem? hpm)
          have hbd : Below wr.heap.size wr wr.drew := below_drew (Below.refl _ _)
          obtain ⟨a9, c9, w9, t9, m9, hr9, ht9, hc9, hk9⟩ := (HLi.out.clu.on hbd).more (hpo.on hbd) hpsm (by have := HSN.out; omega)
          rw [HSN.out] at hr9 hc9
          have hgx : ∀ j, t' j ≠ 4 → j < wr.heap.size → ∀ o, w9.frozen? ⟨j, o, none⟩ = wr.frozen? ⟨j, o, none⟩ := fun j hj hl o => World.frozen?_of_block (hk9.block j hl hj)
          have hmA : MCell p (wr.alloc p.obj) bp (off + i * 9) := hmc.kept (Kept.alloc (fun _ => False) _ _) (fun e => e)
          have hm9 : MCell p w9 bp (off + i * 9) := hmc.kept ((Kept.drew (fun j => t' j = 4) wr).trans hk9 (fun _ _ e => e)) (fun e => by rw [hbpt] at e; exact absurd e (by decide))
          have oA : (wr.alloc p.obj).cell? ⟨w.heap.size, 5, none⟩ = some (.slice (some ⟨bp, off, none⟩) PL sc) := (Kept.alloc (fun _ => False) _ _).cell o5 (fun e => e)
          have yA : (wr.alloc p.obj).cell? ⟨b, 2, none⟩ = some (.slice m'.xa SN m'.xc) := (Kept.alloc (fun _ => False) _ _).cell y2 (fun e => e)
          have tgw : t' w.heap.size = 0 := (HLi.out.mark _ (box_lt HX1.out)).trans HTG.out
          have o9 : w9.cell? ⟨w.heap.size, 5, none⟩ = some (.slice (some ⟨bp, off, none⟩) PL sc) := ((Kept.drew (fun j => t' j = 4) wr).trans hk9 (fun _ _ e => e)).cell o5 (fun e => by rw [show t' w.heap.size = 0 from tgw] at e; exact absurd e (by decide))
          have y9 : w9.cell? ⟨b, 2, none⟩ = some (.slice m'.xa SN m'.xc) := ((Kept.drew (fun j => t' j = 4) wr).trans hk9 (fun _ _ e => e)).cell y2 (fun e => by rw [show t' b = 1 from HLi.out.clu.tb] at e; exact absurd e (by decide))
          have yfA : ∀ o, (wr.alloc p.obj).frozen? ⟨b, o, none⟩ = false := fun o => ((HLi.out.clu.on (below_new _ _)).c hk).fx o
          have yf9 : ∀ o, w9.frozen? ⟨b, o, none⟩ = false := fun o => (hgx b (by rw [show t' b = 1 from HLi.out.clu.tb]; decide) HLi.out.clu.lt o).trans (yf o)
          have hrA : (Builtin.append_ #[26, 26] 26 #[.slice m'.xa SN m'.xc, .slice (some ⟨wr.heap.size, 0, none⟩) 1 1]).run Try.prog (wr.alloc (.cells #[.int .i64 p.m.k, .int .i64 p.m.fr, .int .i64 p.m.dst, .int .i64 p.m.tm, .int .i64 p.m.ix, .int .i64 p.m.pv, .int .i64 p.m.cm, .bool p.m.yes, .slice p.a p.m.rs.length p.c] 39)).drew = .ok (.slice a9 (SN + 1) c9) w9 := hr9
          obtain ⟨d0, d1, d2, d3, d4, d5, d6, d7, d8⟩ := hmc
          obtain ⟨f0, f1, f2, f3, f4, f5, f6, f7, f8⟩ := hmA
          obtain ⟨g0, g1, g2, g3, g4, g5, g6, g7, g8⟩ := hm9
          have HNEXT := Lib.hid (show Hid (Lp W1 (w9.setCell ⟨b, 2, none⟩ (.slice a9 (SN + 1) c9)) b t (loggedC (savedC x k o) k o) o.send (i + 1) t9 m9) from by
            refine Lib.hid ⟨fun j hj => (ht9 j (Nat.lt_of_lt_of_le hj HLi.out.kept.size)).trans (HLi.out.mark j hj), ?_, ?_⟩
            · have e1 : (x.sent ++ o.send.take i) ++ [p.m] = x.sent ++ o.send.take (i + 1) := by rw [List.take_add_one, hpm, List.append_assoc]; rfl
              have e2 : ({ { loggedC (savedC x k o) k o with sent := (loggedC (savedC x k o) k o).sent ++ o.send.take i } with sent := (x.sent ++ o.send.take i) ++ [p.m] } : Cl) = { loggedC (savedC x k o) k o with sent := x.sent ++ o.send.take (i + 1) } := by rw [e1]
              exact e2 ▸ hc9
            · exact ((HLi.out.kept.trans (Kept.drew (fun _ => False) wr) (fun _ _ e => e.elim)).trans hk9 (fun j hj e => by have e : t' j = 4 := e; rw [HLi.out.mark j hj] at e; rw [e]; decide)).trans (Kept.set b 2 w9 _) (fun j hj e => by have := HLi.out.clu.tb; rw [HLi.out.mark b (e ▸ hj)] at this; rw [e, this]; decide))
          clear hr9 hgx hp hsa hbp hbpl hbpt hpm hpo hpsm hbd ht9 hc9 hk9 tgw
          go_wp2_with fail
          refine e_start [14] (fun w' => w'.cell? ⟨b, 2, none⟩ = some (.slice m'.xa SN m'.xc) ∧ w'.cell? ⟨w.heap.size, 5, none⟩ = some (.slice (some ⟨bp, off, none⟩) PL sc) ∧ w'.cell? ⟨bp, off + i * 9, none⟩ = some (.int .i64 p.m.k) ∧ w'.cell? ⟨bp, off + i * 9 + 1, none⟩ = some (.int .i64 p.m.fr) ∧ w'.cell? ⟨bp, off + i * 9 + 2, none⟩ = some (.int .i64 p.m.dst) ∧ w'.cell? ⟨bp, off + i * 9 + 3, none⟩ = some (.int .i64 p.m.tm) ∧ w'.cell? ⟨bp, off + i * 9 + 4, none⟩ = some (.int .i64 p.m.ix) ∧ w'.cell? ⟨bp, off + i * 9 + 5, none⟩ = some (.int .i64 p.m.pv) ∧ w'.cell? ⟨bp, off + i * 9 + 6, none⟩ = some (.int .i64 p.m.cm) ∧ w'.cell? ⟨bp, off + i * 9 + 7, none⟩ = some (.bool p.m.yes) ∧ w'.cell? ⟨bp, off + i * 9 + 8, none⟩ = some (.slice p.a p.m.rs.length p.c) ∧ (∀ o, w'.frozen? ⟨b, o, none⟩ = false)) (by kernel_rfl) ⟨y2, o5, d0, d1, d2, d3, d4, d5, d6, d7, d8, yf⟩ (fun hS => ?_)
          refine e_take (i := 0) (v := ?_) rfl (by kernel_rfl) (by kernel_rfl) (by kernel_rfl) (by kernel_rfl) (fun _ _ _ h => h) (Or.inl ⟨by rfl, ?_⟩) (by assumption) ?_
          rotate_left
          · (intro wS hSw; (try dsimp only at hSw); obtain ⟨s0, s1, s2, s3, s4, s5, s6, s7, s8, s9, s10, s11⟩ := hSw; go_simp <;> with_reducible rfl)
          try simp only [Act.put, List.setIfInBounds_toArray, List.set_cons_zero, List.set_cons_succ]
          refine e_take (i := 1) (v := ?_) rfl (by kernel_rfl) (by kernel_rfl) (by kernel_rfl) (by kernel_rfl) (fun _ _ _ h => h) (Or.inl ⟨by rfl, ?_⟩) (by assumption) ?_
          rotate_left
          · (intro wS hSw; (try dsimp only at hSw); obtain ⟨s0, s1, s2, s3, s4, s5, s6, s7, s8, s9, s10, s11⟩ := hSw; go_simp <;> with_reducible rfl)
          try simp only [Act.put, List.setIfInBounds_toArray, List.set_cons_zero, List.set_cons_succ]
          refine e_take (i := 2) (v := ?_) rfl (by kernel_rfl) (by kernel_rfl) (by kernel_rfl) (by kernel_rfl) (fun _ _ _ h => h) (Or.inl ⟨by rfl, ?_⟩) (by assumption) ?_
          rotate_left
          · (intro wS hSw; (try dsimp only at hSw); obtain ⟨s0, s1, s2, s3, s4, s5, s6, s7, s8, s9, s10, s11⟩ := hSw; go_simp <;> with_reducible rfl)
          try simp only [Act.put, List.setIfInBounds_toArray, List.set_cons_zero, List.set_cons_succ]
          refine e_take (i := 3) (v := ?_) rfl (by kernel_rfl) (by kernel_rfl) (by kernel_rfl) (by kernel_rfl) (fun _ _ _ h => h) (Or.inl ⟨by rfl, ?_⟩) (by assumption) ?_
          rotate_left
          · (intro wS hSw; (try dsimp only at hSw); obtain ⟨s0, s1, s2, s3, s4, s5, s6, s7, s8, s9, s10, s11⟩ := hSw; go_simp <;> with_reducible rfl)
          try simp only [Act.put, List.setIfInBounds_toArray, List.set_cons_zero, List.set_cons_succ]
          refine e_take (i := 4) (v := ?_) rfl (by kernel_rfl) (by kernel_rfl) (by kernel_rfl) (by kernel_rfl) (fun _ _ _ h => h) (Or.inl ⟨by rfl, ?_⟩) (by assumption) ?_
          rotate_left
          · (intro wS hSw; (try dsimp only at hSw); obtain ⟨s0, s1, s2, s3, s4, s5, s6, s7, s8, s9, s10, s11⟩ := hSw; go_simp <;> with_reducible rfl)
          try simp only [Act.put, List.setIfInBounds_toArray, List.set_cons_zero, List.set_cons_succ]
          refine e_take (i := 5) (v := ?_) rfl (by kernel_rfl) (by kernel_rfl) (by kernel_rfl) (by kernel_rfl) (fun _ _ _ h => h) (Or.inl ⟨by rfl, ?_⟩) (by assumption) ?_
          rotate_left
          · (intro wS hSw; (try dsimp only at hSw); obtain ⟨s0, s1, s2, s3, s4, s5, s6, s7, s8, s9, s10, s11⟩ := hSw; go_simp <;> with_reducible rfl)
          try simp only [Act.put, List.setIfInBounds_toArray, List.set_cons_zero, List.set_cons_succ]
          refine e_take (i := 6) (v := ?_) rfl (by kernel_rfl) (by kernel_rfl) (by kernel_rfl) (by kernel_rfl) (fun _ _ _ h => h) (Or.inl ⟨by rfl, ?_⟩) (by assumption) ?_
          rotate_left
          · (intro wS hSw; (try dsimp only at hSw); obtain ⟨s0, s1, s2, s3, s4, s5, s6, s7, s8, s9, s10, s11⟩ := hSw; go_simp <;> with_reducible rfl)
          try simp only [Act.put, List.setIfInBounds_toArray, List.set_cons_zero, List.set_cons_succ]
          refine e_take (i := 7) (v := ?_) rfl (by kernel_rfl) (by kernel_rfl) (by kernel_rfl) (by kernel_rfl) (fun _ _ _ h => h) (Or.inl ⟨by rfl, ?_⟩) (by assumption) ?_
          rotate_left
          · (intro wS hSw; (try dsimp only at hSw); obtain ⟨s0, s1, s2, s3, s4, s5, s6, s7, s8, s9, s10, s11⟩ := hSw; go_simp <;> with_reducible rfl)
          try simp only [Act.put, List.setIfInBounds_toArray, List.set_cons_zero, List.set_cons_succ]
          refine e_take (i := 8) (v := ?_) rfl (by kernel_rfl) (by kernel_rfl) (by kernel_rfl) (by kernel_rfl) (fun _ _ _ h => h) (Or.inl ⟨by rfl, ?_⟩) (by assumption) ?_
          rotate_left
          · (intro wS hSw; (try dsimp only at hSw); obtain ⟨s0, s1, s2, s3, s4, s5, s6, s7, s8, s9, s10, s11⟩ := hSw; go_simp <;> with_reducible rfl)
          try simp only [Act.put, List.setIfInBounds_toArray, List.set_cons_zero, List.set_cons_succ]
          refine e_take (i := 9) (v := ?_) rfl (by kernel_rfl) (by kernel_rfl) (by kernel_rfl) (by kernel_rfl) (fun _ _ _ h => h) (Or.inl ⟨by rfl, ?_⟩) (by assumption) ?_
          rotate_left
          · (intro wS hSw; (try dsimp only at hSw); obtain ⟨s0, s1, s2, s3, s4, s5, s6, s7, s8, s9, s10, s11⟩ := hSw; go_simp <;> with_reducible rfl)
          try simp only [Act.put, List.setIfInBounds_toArray, List.set_cons_zero, List.set_cons_succ]
          refine e_one (i := 10) (by kernel_rfl) rfl rfl (fun K hK => ?_)
          go_simp
          refine hK _ _ (Or.inr ⟨yA, oA, f0, f1, f2, f3, f4, f5, f6, f7, f8, yfA⟩) ?_
          try simp only [Act.put, List.setIfInBounds_toArray, List.set_cons_zero, List.set_cons_succ]
          refine e_one (i := 11) (by kernel_rfl) rfl rfl (fun K hK => ?_)
          refine Lib.wp_append_run _ (.tmp 99) (.tmp 105) _ _ rfl _ _ rfl rfl _ _ hrA ?_
          refine hK _ _ (Or.inr ⟨y9, o9, g0, g1, g2, g3, g4, g5, g6, g7, g8, yf9⟩) ?_
          try simp only [Act.put, List.setIfInBounds_toArray, List.set_cons_zero, List.set_cons_succ]
          refine e_one (i := 12) (by kernel_rfl) rfl rfl (fun K hK => ?_)
          go_simp
          refine hK _ _ (Or.inr ⟨y9, o9, g0, g1, g2, g3, g4, g5, g6, g7, g8, yf9⟩) ?_
          try simp only [Act.put, List.setIfInBounds_toArray, List.set_cons_zero, List.set_cons_succ]
          refine e_one (i := 13) (by kernel_rfl) rfl rfl (fun K hK => ?_)
          go_simp
          refine hK _ _ (Or.inr ⟨y9, o9, g0, g1, g2, g3, g4, g5, g6, g7, g8, yf9⟩) ?_
          try simp only [Act.put, List.setIfInBounds_toArray, List.set_cons_zero, List.set_cons_succ]
          refine e_one (i := 14) (by kernel_rfl) rfl rfl (fun K hK => ?_)
          go_simp
          refine hK _ _ (Or.inl (by simp)) ?_
          try simp only [Act.put, List.setIfInBounds_toArray, List.set_cons_zero, List.set_cons_succ]
          refine e_done (by kernel_rfl) ?_ _
          go_wp2_with fail
          go_roundw
          case rel => exact ⟨i + 1, t9, m9, hiP, by go_num, Or.inr (by have := HSL.out; omega), HNEXT.out⟩
          case measure => simp [intOf]; omega
        · have hS3' : ¬ (SN : Int) < 300 := by omega
          go_wp2_with fail
          go_ret
          exact ⟨rfl, HEXIT.out (fun e => hS3 e.2)⟩
      · have hiP' : ¬ (i : Int) < (PL : Int) := by omega
        go_wp2_with fail
        go_ret
        exact ⟨rfl, HEXIT.out (fun e => hiP e.1)⟩
end Go.Proofs.Ytoghaogcekappaa
