/-
  The law's cluster: a message arrives.
-/
import Derived.Test.YtoghaogcekappaaRDoneC
import Derived.Test.YtoghaogcekappaaRFew
import Derived.IntWalk
namespace Go.Proofs.Ytoghaogcekappaa
set_option maxRecDepth 100000
open Go Go.RowKit Rp

/-- A cluster in a world that came of another one, with marks of its own. -/
structure Ar (W1 wx : World) (b : Nat) (t : Nat → Nat) (X : Cl) (t' : Nat → Nat) (m : CM) : Prop where
  mark : ∀ j, j < W1.heap.size → t' j = t j
  clu : CluIs wx b t' X m
  kept : Kept (fun j => t j ≠ 0 ∧ t j < 8) W1 wx
def delC (keep : Bool) (x : Cl) (n : Nat) : Cl := if keep = true then x else { x with sent := x.sent.eraseIdx n }
theorem delC_no (x : Cl) (n : Nat) : delC false x n = { x with sent := x.sent.eraseIdx n } := rfl
theorem arriveC_at {x : Cl} {n : Nat} {p : Msg} (keep : Bool) (h : x.sent[n]? = some p) : arriveC x n keep = doneC (delC keep x n) (p.dst % 3) (hearR ((delC keep x n).r (p.dst % 3)) p).1 (hearR ((delC keep x n).r (p.dst % 3)) p).2 := by
  unfold arriveC
  rw [h]
  rfl
theorem Rp.Nice.del {x : Cl} (h : Nice x) (keep : Bool) (n : Nat) : Nice (delC keep x n) := by
  unfold delC
  split
  · exact h
  · exact ⟨h.id, h.okr, h.lg, by have := len_erase x.sent n; have := h.len; show (x.sent.eraseIdx n).length ≤ 300; omega, fun q hq => h.dst q (List.mem_of_mem_eraseIdx hq)⟩
theorem pickN_at {N : Int} {l : List Msg} (h : 0 < l.length) : ∃ n : Nat, n < l.length ∧ pickN N l = n ∧ pickI N (l.length : Int) = (n : Int) := by
  have h1 := Int.emod_nonneg N (show (l.length : Int) ≠ 0 by omega)
  have h2 := Int.emod_lt_of_pos N (show 0 < (l.length : Int) by omega)
  refine ⟨pickN N l, ?_, rfl, ?_⟩
  · unfold pickN
    rw [if_neg (by omega)]
    omega
  · unfold pickN pickI
    rw [if_neg (by omega)]
    omega
/-- What is read when a message is heard. -/
def HeC (w : World) (b g : Nat) (m : CM) (k : Nat) (p : PM) : Prop := w.cell? ⟨b, 0, none⟩ = some (.slice (some ⟨m.rb, 0, none⟩) 3 m.rc) ∧ w.cell? ⟨m.rb, k, none⟩ = some (.pointer (some ⟨m.p k, 0, none⟩)) ∧ w.cell? ⟨g, 0, none⟩ = some (.int .i64 p.m.k) ∧ w.cell? ⟨g, 1, none⟩ = some (.int .i64 p.m.fr) ∧ w.cell? ⟨g, 2, none⟩ = some (.int .i64 p.m.dst) ∧ w.cell? ⟨g, 3, none⟩ = some (.int .i64 p.m.tm) ∧ w.cell? ⟨g, 4, none⟩ = some (.int .i64 p.m.ix) ∧ w.cell? ⟨g, 5, none⟩ = some (.int .i64 p.m.pv) ∧ w.cell? ⟨g, 6, none⟩ = some (.int .i64 p.m.cm) ∧ w.cell? ⟨g, 7, none⟩ = some (.bool p.m.yes) ∧ w.cell? ⟨g, 8, none⟩ = some (.slice p.a p.m.rs.length p.c)
/-- A message is heard; what is to be done with the result. -/
theorem hear_k {w : World} {b : Nat} {t : Nat → Nat} {x : Cl} {m : CM} (h : CluIs w b t x m) (hn : Nice x) {g : Nat} {p : PM} (hg : w.heap[g]? = some p.obj) (hgt : t g = 0) (hp : p.ok (fun j => t j = 0) w) (hs : Sml p.m.rs) {k : Nat} (hk : k < 3) {x' : Cl} (hx : doneC x k (hearR (x.r k) p.m).1 (hearR (x.r k) p.m).2 = some x') :
    Calls Try.prog 13 #[.pointer (some ⟨m.p k, 0, none⟩), (.agg #[.int .i64 p.m.k, .int .i64 p.m.fr, .int .i64 p.m.dst, .int .i64 p.m.tm, .int .i64 p.m.ix, .int .i64 p.m.pv, .int .i64 p.m.cm, .bool p.m.yes, .slice p.a p.m.rs.length p.c])] w fun e w' => ∃ (xs : Bool) (xt xv xf : Int) (xa : Option Addr) (xn xc : Nat) (ya : Option Addr) (yn yc : Nat), e = .returned (.agg #[.bool xs, .int .i64 xt, .int .i64 xv, .int .i64 xf, .slice xa xn xc, .slice ya yn yc]) ∧ HeC w' b g m k p ∧
      Hid (∀ W, Below w'.heap.size w' W → Calls Try.prog 28 #[.pointer (some ⟨b, 0, none⟩), .int .i64 k, .agg #[.bool xs, .int .i64 xt, .int .i64 xv, .int .i64 xf, .slice xa xn xc, .slice ya yn yc]] W fun e w2 => e = .returned (.bool true) ∧ Hid (Moved w w2 b t x')) := by
  have hi : isId (k : Int) := by unfold isId; omega
  have hok : p.ok (fun j => j ≠ m.p k ∧ (m.lv k).ownBlock ≠ some j) w := hp.mono (fun j e => ⟨fun q => by have := h.tp k hk j (Or.inl q); omega, fun q => by have := h.tp k hk j (Or.inr q); omega⟩)
  refine (hear_c (h.rep k hk) p hok (by have := hs.1; omega) (fun y hy => by have := hs.2 y hy; omega)).mono (fun e w' hh => ?_)
  obtain ⟨xs, xt, xv, xf, xa, xn, xc, ya, yn, yc, rfl, hd⟩ := hh
  obtain ⟨t', m', _, _, _, q4⟩ := h.call hk hd.out (hn.hear hi p.m) hn.len hx
  obtain ⟨_, _, _, hkk, _⟩ := hd.out
  have hc := h.c hk
  have hgw : w'.heap[g]? = some p.obj := hkk.heap hg (fun e => by have := h.tp k hk g e; omega)
  have hcb : ¬ Own (m.p k) (m.lv k) b := fun e => by have := h.tp k hk b e; have := h.tb; omega
  have hcr : ¬ Own (m.p k) (m.lv k) m.rb := fun e => by have := h.tp k hk _ e; have := h.tr; omega
  refine ⟨xs, xt, xv, xf, xa, xn, xc, ya, yn, yc, rfl, ⟨hkk.cell hc.x0 hcb, hkk.cell hc.r hcr, ?_, ?_, ?_, ?_, ?_, ?_, ?_, ?_, ?_⟩, Lib.hid q4⟩ <;> (rw [Lib.cell_of_heap hgw]; rfl)
set_option maxHeartbeats 4000000 in
set_option linter.unusedSimpArgs false in
theorem arrive_go {w : World} {b : Nat} {t : Nat → Nat} {x : Cl} {m : CM} (h : CluIs w b t x m) (hn : Nice x) (N : Int) (hN : In64 N) (keep : Bool) (ht : ∀ j, w.heap.size ≤ j → t j = 0) (h0 : 0 < x.sent.length) {x' : Cl} (hx : arriveC x (pickN N x.sent) keep = some x') :
    Calls Try.prog 49 #[.pointer (some ⟨b, 0, none⟩), .int .i64 N, .bool keep] w fun e w' => e = .returned (.bool true) ∧ Hid (Moved w w' b t x') := by
  obtain ⟨n, hnl, hpn, hpi⟩ := pickN_at (N := N) h0
  rw [hpn] at hx
  have hlen : m.ps.length = x.sent.length := by rw [← h.ms, List.length_map]
  obtain ⟨p, hp⟩ : ∃ p, m.ps[n]? = some p := ⟨m.ps[n]'(by omega), List.getElem?_eq_getElem _⟩
  have hpm : x.sent[n]? = some p.m := by rw [← h.ms, List.getElem?_map, hp]; rfl
  rw [arriveC_at keep hpm] at hx
  obtain ⟨k, hk, hkd⟩ : ∃ k : Nat, k < 3 ∧ p.m.dst % 3 = (k : Int) := ⟨(p.m.dst % 3).toNat, by omega, by omega⟩
  rw [hkd] at hx
  have hdst : isId p.m.dst := hn.dst _ (List.mem_of_getElem? hpm)
  have hpk3 : pickI p.m.dst 3 = (k : Int) := by unfold pickI; rw [if_neg (by decide)]; exact hkd
  obtain ⟨SN, hSN⟩ : ∃ SN, m.ps.length = SN := ⟨_, rfl⟩
  have hsl : SN ≤ 300 := by have := hn.len; omega
  have hns : n < SN := by omega
  rw [← hlen, hSN] at hpi
  have QP1 := Lib.hid (fun (W : World) => (show Calls Try.prog 48 #[.int .i64 N, .int .i64 (SN : Int)] W fun e w' => e = .returned (.int .i64 (n : Int)) ∧ w' = W from by rw [← hpi]; exact pick_c N SN hN (by omega) W))
  have QP2 := Lib.hid (fun (W : World) => (show Calls Try.prog 48 #[.int .i64 p.m.dst, .int .i64 3] W fun e w' => e = .returned (.int .i64 (k : Int)) ∧ w' = W from by rw [← hpk3]; exact pick_c p.m.dst 3 (by unfold In64; unfold isId at hdst; omega) (by decide) W))
  have hsrc : Src (fun _ => True) w m.xa m.xc m.ps.length (msgsV m.ps) := h.sent.src (fun _ _ => trivial)
  obtain ⟨bx, off, hxa, _, hmc⟩ := msg_cells hsrc rfl hp
  have hok := h.ok p (List.mem_of_getElem? hp)
  have hsm := h.sml p (List.mem_of_getElem? hp)
  have hc := h.c (k := 0) (by decide)
  have y2 := hc.x2
  rw [hSN] at y2
  have y2x := y2
  rw [hxa] at y2x
  obtain ⟨W1, hW1⟩ : ∃ W1, W1 = w.alloc (.cells #[.int .i64 p.m.k, .int .i64 p.m.fr, .int .i64 p.m.dst, .int .i64 p.m.tm, .int .i64 p.m.ix, .int .i64 p.m.pv, .int .i64 p.m.cm, .bool p.m.yes, .slice p.a p.m.rs.length p.c] 39) := ⟨_, rfl⟩
  have hb1 : Below w.heap.size w W1 := by rw [hW1]; exact below_new w _
  have hg1 : W1.heap[w.heap.size]? = some p.obj := by rw [hW1]; exact box_new w _
  have h1 := h.on hb1
  have hc1 := h1.c (k := 0) (by decide)
  have v2 := hc1.x2
  rw [hSN] at v2
  have vf := hc1.fx
  have H1 := Lib.hid h1
  have HG1 := Lib.hid hg1
  have HB1 := Lib.hid hb1
  have HT := Lib.hid (ht w.heap.size (Nat.le_refl _))
  have HNI := Lib.hid hn
  have HXE := Lib.hid hx
  have HOK := Lib.hid (hok.on hb1)
  have HSM := Lib.hid hsm
  have HSN := Lib.hid hSN
  have hlc : SN ≤ m.xc := by rw [← hSN]; exact hsrc.1
  have hcn : (n : Int) ≤ (m.xc : Int) := by omega
  have hcn1 : (n : Int) + 1 ≤ (SN : Int) := by omega
  have hni : (n : Int) < (SN : Int) := by omega
  have hk3 : (k : Int) < 3 := by omega
  have hs0 : ((SN : Int) == 0) = false := by simp; omega
  obtain ⟨d0, d1, d2, d3, d4, d5, d6, d7, d8⟩ := hmc
  clear hb1 hg1 h1 hc1 hc ht hn hx hok hsm hsrc hN hpn hpi hlen h0 hp hpm hkd hdst hpk3 hnl hSN h hxa y2
  go_enter Try.func49, Try.ntmps49
  go_upto_region 5 with ((refine (QP1.out _).mono ?_); rintro e w5 ⟨rfl, hw⟩; rw [hw]; clear hw)
  rw [← hW1]
  clear hW1 y2x d0 d1 d2 d3 d4 d5 d6 d7 d8
  go_upto_if 30 with fail
  go_cut [47] (fun t47 wx => Hid (∃ t2 m2, Ar W1 wx b t (delC keep x n) t2 m2))
  case first =>
    cases keep with
    | true =>
      go_wp2_with fail
      go_meet
      exact Lib.hid ⟨t, m, fun _ _ => rfl, H1.out, Kept.refl _ _⟩
    | false =>
      obtain ⟨A, hslB0, hA⟩ := msg_from m.xa SN m.xc (n + 1) (by omega)
      have hslA := fun wx => msg_to m.xa SN m.xc n (by omega) wx
      have hw1 : IntKind.i64.wrap ((n : Int) + 1) = (n : Int) + 1 := IntWalk.i64_in _ (by omega)
      have hslB : ∀ wx : World, (Instr.slice 26 (.slice m.xa SN m.xc) (some (.int .i64 ((n : Int) + 1))) none none).run Try.prog wx = .ok (.slice A (SN - (n + 1)) (m.xc - (n + 1))) wx := hslB0
      have hbd : Below W1.heap.size W1 W1.drew := below_drew (Below.refl _ _)
      obtain ⟨a1, c1, w1, a2, c2, w2, t9, m9, hr1, hr2, ht9, hc9, hbl1, hbl2⟩ := (H1.out.on hbd).less (n := n) (by rw [HSN.out]; exact hns) (by rw [HSN.out]; omega) hA
      rw [HSN.out] at hr2 hc9
      have hrA : (Builtin.append_ #[26, 26] 26 #[.slice (some ⟨W1.heap.size, 0, none⟩) 0 0, .slice m.xa n m.xc]).run Try.prog (W1.alloc (.cells #[] 39)).drew = .ok (.slice a1 n c1) w1 := hr1
      have hrB := hr2
      have yA : (W1.alloc (.cells #[] 39)).cell? ⟨b, 2, none⟩ = some (.slice m.xa SN m.xc) := by rw [← HSN.out]; exact ((H1.out.on (below_new _ _)).c (k := 0) (by decide)).x2
      have yfA : ∀ o, (W1.alloc (.cells #[] 39)).frozen? ⟨b, o, none⟩ = false := fun o => ((H1.out.on (below_new _ _)).c (k := 0) (by decide)).fx o
      have y1 : w1.cell? ⟨b, 2, none⟩ = some (.slice m.xa SN m.xc) := by rw [← HSN.out]; exact ((H1.out.on (hbd.trans hbl1)).c (k := 0) (by decide)).x2
      have yf1 : ∀ o, w1.frozen? ⟨b, o, none⟩ = false := fun o => ((H1.out.on (hbd.trans hbl1)).c (k := 0) (by decide)).fx o
      have y9 : w2.cell? ⟨b, 2, none⟩ = some (.slice m.xa SN m.xc) := by rw [← HSN.out]; exact ((H1.out.on (hbd.trans hbl2)).c (k := 0) (by decide)).x2
      have yf9 : ∀ o, w2.frozen? ⟨b, o, none⟩ = false := fun o => ((H1.out.on (hbd.trans hbl2)).c (k := 0) (by decide)).fx o
      have hkE : Kept (fun j => t j ≠ 0 ∧ t j < 8) W1 (w2.setCell ⟨b, 2, none⟩ (.slice a2 (n + (SN - (n + 1))) c2)) := (Kept.below (hbd.trans hbl2)).trans (Kept.set b 2 w2 _) (fun j _ e => by rw [e, H1.out.tb]; decide)
      have HE9 := Lib.hid (show Ar W1 (w2.setCell ⟨b, 2, none⟩ (.slice a2 (n + (SN - (n + 1))) c2)) b t (delC false x n) t9 m9 from ⟨ht9, hc9, hkE⟩)
      clear hr1 hr2 ht9 hc9 hbl1 hbl2 hkE hbd hslB0 hA
      go_upto_region 6 with fail
      refine e_start [19] (fun w' => w'.cell? ⟨b, 2, none⟩ = some (.slice m.xa SN m.xc) ∧ (∀ o, w'.frozen? ⟨b, o, none⟩ = false)) (by kernel_rfl) ⟨v2, vf⟩ (fun hS => ?_)
      refine e_take (i := 0) (v := ?_) rfl (by kernel_rfl) (by kernel_rfl) (by kernel_rfl) (by kernel_rfl) (fun _ _ _ h => h) (Or.inl ⟨by rfl, ?_⟩) (by assumption) ?_
      rotate_left
      · (intro wS hSw; (try dsimp only at hSw); obtain ⟨s1, s2⟩ := hSw; go_simp <;> with_reducible rfl)
      try simp only [Act.put, List.setIfInBounds_toArray, List.set_cons_zero, List.set_cons_succ]
      refine e_take (i := 2) (v := ?_) rfl (by kernel_rfl) (by kernel_rfl) (by kernel_rfl) (by kernel_rfl) (fun _ _ _ h => h) (Or.inl ⟨by rfl, ?_⟩) (by assumption) ?_
      rotate_left
      · (intro wS hSw; (try dsimp only at hSw); obtain ⟨s1, s2⟩ := hSw; go_simp <;> with_reducible rfl)
      try simp only [Act.put, List.setIfInBounds_toArray, List.set_cons_zero, List.set_cons_succ]
      refine e_take (i := 3) (v := ?_) rfl (by kernel_rfl) (by kernel_rfl) (by kernel_rfl) (by kernel_rfl) (fun _ _ _ h => h) (Or.inl ⟨by rfl, ?_⟩) (by assumption) ?_
      rotate_left
      · (intro wS hSw; (try dsimp only at hSw); obtain ⟨s1, s2⟩ := hSw; go_simp <;> with_reducible rfl)
      try simp only [Act.put, List.setIfInBounds_toArray, List.set_cons_zero, List.set_cons_succ]
      refine e_take (i := 4) (v := ?_) rfl (by kernel_rfl) (by kernel_rfl) (by kernel_rfl) (by kernel_rfl) (fun _ _ _ h => h) (Or.inl ⟨by rfl, ?_⟩) (by assumption) ?_
      rotate_left
      · (intro wS hSw; (try dsimp only at hSw); obtain ⟨s1, s2⟩ := hSw; go_simp <;> with_reducible rfl)
      try simp only [Act.put, List.setIfInBounds_toArray, List.set_cons_zero, List.set_cons_succ]
      refine e_take (i := 5) (v := ?_) rfl (by kernel_rfl) (by kernel_rfl) (by kernel_rfl) (by kernel_rfl) (fun _ _ _ h => h) (Or.inl ⟨by rfl, ?_⟩) (by assumption) ?_
      rotate_left
      · (intro wS hSw; (try dsimp only at hSw); obtain ⟨s1, s2⟩ := hSw; go_simp <;> with_reducible rfl)
      try simp only [Act.put, List.setIfInBounds_toArray, List.set_cons_zero, List.set_cons_succ]
      refine e_take (i := 6) (v := ?_) rfl (by kernel_rfl) (by kernel_rfl) (by kernel_rfl) (by kernel_rfl) (fun _ _ _ h => h) (Or.inl ⟨by rfl, ?_⟩) (by assumption) ?_
      rotate_left
      · (intro wS hSw; (try dsimp only at hSw); obtain ⟨s1, s2⟩ := hSw; go_simp <;> with_reducible rfl)
      try simp only [Act.put, List.setIfInBounds_toArray, List.set_cons_zero, List.set_cons_succ]
      refine e_take (i := 7) (v := ?_) rfl (by kernel_rfl) (by kernel_rfl) (by kernel_rfl) (by kernel_rfl) (fun _ _ _ h => h) (Or.inl ⟨by rfl, ?_⟩) (by assumption) ?_
      rotate_left
      · (intro wS hSw; (try dsimp only at hSw); obtain ⟨s1, s2⟩ := hSw; go_simp <;> with_reducible rfl)
      try simp only [Act.put, List.setIfInBounds_toArray, List.set_cons_zero, List.set_cons_succ]
      refine e_take (i := 9) (v := ?_) rfl (by kernel_rfl) (by kernel_rfl) (by kernel_rfl) (by kernel_rfl) (fun _ _ _ h => h) (Or.inl ⟨by rfl, ?_⟩) (by assumption) ?_
      rotate_left
      · (intro wS hSw; (try dsimp only at hSw); obtain ⟨s1, s2⟩ := hSw; go_simp <;> with_reducible rfl)
      try simp only [Act.put, List.setIfInBounds_toArray, List.set_cons_zero, List.set_cons_succ]
      refine e_take (i := 10) (v := ?_) rfl (by kernel_rfl) (by kernel_rfl) (by kernel_rfl) (by kernel_rfl) (fun _ _ _ h => h) (Or.inl ⟨by rfl, ?_⟩) (by assumption) ?_
      rotate_left
      · (intro wS hSw; (try dsimp only at hSw); obtain ⟨s1, s2⟩ := hSw; go_simp <;> with_reducible rfl)
      try simp only [Act.put, List.setIfInBounds_toArray, List.set_cons_zero, List.set_cons_succ]
      refine e_take (i := 11) (v := ?_) rfl (by kernel_rfl) (by kernel_rfl) (by kernel_rfl) (by kernel_rfl) (fun _ _ _ h => h) (Or.inl ⟨by rfl, ?_⟩) (by assumption) ?_
      rotate_left
      · (intro wS hSw; (try dsimp only at hSw); obtain ⟨s1, s2⟩ := hSw; go_simp <;> with_reducible rfl)
      try simp only [Act.put, List.setIfInBounds_toArray, List.set_cons_zero, List.set_cons_succ]
      refine e_take (i := 12) (v := ?_) rfl (by kernel_rfl) (by kernel_rfl) (by kernel_rfl) (by kernel_rfl) (fun _ _ _ h => h) (Or.inl ⟨by rfl, ?_⟩) (by assumption) ?_
      rotate_left
      · (intro wS hSw; (try dsimp only at hSw); obtain ⟨s1, s2⟩ := hSw; go_simp <;> with_reducible rfl)
      try simp only [Act.put, List.setIfInBounds_toArray, List.set_cons_zero, List.set_cons_succ]
      refine e_take (i := 13) (v := ?_) rfl (by kernel_rfl) (by kernel_rfl) (by kernel_rfl) (by kernel_rfl) (fun _ _ _ h => h) (Or.inl ⟨by rfl, ?_⟩) (by assumption) ?_
      rotate_left
      · (intro wS hSw; (try dsimp only at hSw); obtain ⟨s1, s2⟩ := hSw; go_simp <;> with_reducible rfl)
      try simp only [Act.put, List.setIfInBounds_toArray, List.set_cons_zero, List.set_cons_succ]
      refine e_take (i := 14) (v := ?_) rfl (by kernel_rfl) (by kernel_rfl) (by kernel_rfl) (by kernel_rfl) (fun _ _ _ h => h) (Or.inl ⟨by rfl, ?_⟩) (by assumption) ?_
      rotate_left
      · (intro wS hSw; (try dsimp only at hSw); obtain ⟨s1, s2⟩ := hSw; go_simp <;> with_reducible rfl)
      try simp only [Act.put, List.setIfInBounds_toArray, List.set_cons_zero, List.set_cons_succ]
      refine e_take (i := 15) (v := ?_) rfl (by kernel_rfl) (by kernel_rfl) (by kernel_rfl) (by kernel_rfl) (fun _ _ _ h => h) (Or.inl ⟨by rfl, ?_⟩) (by assumption) ?_
      rotate_left
      · (intro wS hSw; (try dsimp only at hSw); obtain ⟨s1, s2⟩ := hSw; go_simp <;> with_reducible rfl)
      try simp only [Act.put, List.setIfInBounds_toArray, List.set_cons_zero, List.set_cons_succ]
      refine e_one (i := 1) (by kernel_rfl) rfl rfl (fun K hK => ?_)
      go_simp
      refine hK _ _ (Or.inr ⟨yA, yfA⟩) ?_
      try simp only [Act.put, List.setIfInBounds_toArray, List.set_cons_zero, List.set_cons_succ]
      refine e_one (i := 8) (by kernel_rfl) rfl rfl (fun K hK => ?_)
      refine Lib.wp_append_run _ (.tmp 32) (.tmp 38) _ _ rfl _ _ rfl rfl _ _ hrA ?_
      refine hK _ _ (Or.inr ⟨y1, yf1⟩) ?_
      try simp only [Act.put, List.setIfInBounds_toArray, List.set_cons_zero, List.set_cons_succ]
      refine e_one (i := 16) (by kernel_rfl) rfl rfl (fun K hK => ?_)
      refine Lib.wp_append_run _ (.tmp 39) (.tmp 46) _ _ rfl _ _ rfl rfl _ _ hrB ?_
      refine hK _ _ (Or.inr ⟨y9, yf9⟩) ?_
      try simp only [Act.put, List.setIfInBounds_toArray, List.set_cons_zero, List.set_cons_succ]
      refine e_one (i := 17) (by kernel_rfl) rfl rfl (fun K hK => ?_)
      go_simp
      refine hK _ _ (Or.inr ⟨y9, yf9⟩) ?_
      try simp only [Act.put, List.setIfInBounds_toArray, List.set_cons_zero, List.set_cons_succ]
      refine e_one (i := 18) (by kernel_rfl) rfl rfl (fun K hK => ?_)
      go_simp
      refine hK _ _ (Or.inr ⟨y9, yf9⟩) ?_
      try simp only [Act.put, List.setIfInBounds_toArray, List.set_cons_zero, List.set_cons_succ]
      refine e_one (i := 19) (by kernel_rfl) rfl rfl (fun K hK => ?_)
      go_simp
      refine hK _ _ (Or.inl (by simp)) ?_
      try simp only [Act.put, List.setIfInBounds_toArray, List.set_cons_zero, List.set_cons_succ]
      refine e_done (by kernel_rfl) ?_ _
      go_wp2_with fail
      go_meet
      exact Lib.hid ⟨t9, m9, HE9.out⟩
  case rest =>
  rename World => w6
  obtain ⟨t2, m2, har⟩ := hcut.out
  clear hcut v2 vf
  have hg6 := har.kept.heap HG1.out (fun e => e.1 HT.out)
  have hc := har.clu.c hk
  have x0 := hc.x0
  have xr := hc.r
  have hok6 : p.ok (fun j => t2 j = 0) w6 := by
    have q1 : p.ok (fun j => t j = 0 ∧ j < W1.heap.size) W1 := Src.mono HOK.out (fun j hj e => ⟨e, hj⟩) recs_some
    exact (q1.kept har.kept (fun j _ e e' => e'.1 e.1)).mono (fun j e => (har.mark j e.2).trans e.1)
  have e0 : w6.cell? ⟨w.heap.size, 0, none⟩ = some (.int .i64 p.m.k) := by rw [Lib.cell_of_heap hg6]; rfl
  have e1 : w6.cell? ⟨w.heap.size, 1, none⟩ = some (.int .i64 p.m.fr) := by rw [Lib.cell_of_heap hg6]; rfl
  have e2 : w6.cell? ⟨w.heap.size, 2, none⟩ = some (.int .i64 p.m.dst) := by rw [Lib.cell_of_heap hg6]; rfl
  have e3 : w6.cell? ⟨w.heap.size, 3, none⟩ = some (.int .i64 p.m.tm) := by rw [Lib.cell_of_heap hg6]; rfl
  have e4 : w6.cell? ⟨w.heap.size, 4, none⟩ = some (.int .i64 p.m.ix) := by rw [Lib.cell_of_heap hg6]; rfl
  have e5 : w6.cell? ⟨w.heap.size, 5, none⟩ = some (.int .i64 p.m.pv) := by rw [Lib.cell_of_heap hg6]; rfl
  have e6 : w6.cell? ⟨w.heap.size, 6, none⟩ = some (.int .i64 p.m.cm) := by rw [Lib.cell_of_heap hg6]; rfl
  have e7 : w6.cell? ⟨w.heap.size, 7, none⟩ = some (.bool p.m.yes) := by rw [Lib.cell_of_heap hg6]; rfl
  have e8 : w6.cell? ⟨w.heap.size, 8, none⟩ = some (.slice p.a p.m.rs.length p.c) := by rw [Lib.cell_of_heap hg6]; rfl
  have hbd : Below w6.heap.size w6 w6.drew := below_drew (Below.refl _ _)
  have QH := Lib.hid ((hear_k (har.clu.on hbd) (HNI.out.del keep n) (g := w.heap.size) (box_on hg6 hbd) ((har.mark _ (box_lt HG1.out)).trans HT.out) (hok6.on hbd) HSM.out hk HXE.out))
  have HAR := Lib.hid har
  clear hg6 hc hok6 hbd har
  go_upto_region 8 with ((refine (QP2.out _).mono ?_); rintro e w7 ⟨rfl, hw⟩; rw [hw]; clear hw)
  go_upto_region 8 with fail
  refine e_start [11, 12] (fun w' => w'.cell? ⟨b, 0, none⟩ = some (.slice (some ⟨m2.rb, 0, none⟩) 3 m2.rc) ∧ w'.cell? ⟨m2.rb, k, none⟩ = some (.pointer (some ⟨m2.p k, 0, none⟩)) ∧ w'.cell? ⟨w.heap.size, 0, none⟩ = some (.int .i64 p.m.k) ∧ w'.cell? ⟨w.heap.size, 1, none⟩ = some (.int .i64 p.m.fr) ∧ w'.cell? ⟨w.heap.size, 2, none⟩ = some (.int .i64 p.m.dst) ∧ w'.cell? ⟨w.heap.size, 3, none⟩ = some (.int .i64 p.m.tm) ∧ w'.cell? ⟨w.heap.size, 4, none⟩ = some (.int .i64 p.m.ix) ∧ w'.cell? ⟨w.heap.size, 5, none⟩ = some (.int .i64 p.m.pv) ∧ w'.cell? ⟨w.heap.size, 6, none⟩ = some (.int .i64 p.m.cm) ∧ w'.cell? ⟨w.heap.size, 7, none⟩ = some (.bool p.m.yes) ∧ w'.cell? ⟨w.heap.size, 8, none⟩ = some (.slice p.a p.m.rs.length p.c)) (by kernel_rfl) ⟨x0, xr, e0, e1, e2, e3, e4, e5, e6, e7, e8⟩ (fun hS => ?_)
  refine e_take (i := 0) (v := ?_) rfl (by kernel_rfl) (by kernel_rfl) (by kernel_rfl) (by kernel_rfl) (fun _ _ _ h => h) (Or.inl ⟨by rfl, ?_⟩) (by assumption) ?_
  rotate_left
  · (intro wS hSw; (try dsimp only at hSw); obtain ⟨s0, s1, s2, s3, s4, s5, s6, s7, s8, s9, s10⟩ := hSw; go_simp <;> with_reducible rfl)
  try simp only [Act.put, List.setIfInBounds_toArray, List.set_cons_zero, List.set_cons_succ]
  refine e_take (i := 1) (v := ?_) rfl (by kernel_rfl) (by kernel_rfl) (by kernel_rfl) (by kernel_rfl) (fun _ _ _ h => h) (Or.inl ⟨by rfl, ?_⟩) (by assumption) ?_
  rotate_left
  · (intro wS hSw; (try dsimp only at hSw); obtain ⟨s0, s1, s2, s3, s4, s5, s6, s7, s8, s9, s10⟩ := hSw; go_simp <;> with_reducible rfl)
  try simp only [Act.put, List.setIfInBounds_toArray, List.set_cons_zero, List.set_cons_succ]
  refine e_take (i := 2) (v := ?_) rfl (by kernel_rfl) (by kernel_rfl) (by kernel_rfl) (by kernel_rfl) (fun _ _ _ h => h) (Or.inl ⟨by rfl, ?_⟩) (by assumption) ?_
  rotate_left
  · (intro wS hSw; (try dsimp only at hSw); obtain ⟨s0, s1, s2, s3, s4, s5, s6, s7, s8, s9, s10⟩ := hSw; go_simp <;> with_reducible rfl)
  try simp only [Act.put, List.setIfInBounds_toArray, List.set_cons_zero, List.set_cons_succ]
  refine e_take (i := 3) (v := ?_) rfl (by kernel_rfl) (by kernel_rfl) (by kernel_rfl) (by kernel_rfl) (fun _ _ _ h => h) (Or.inl ⟨by rfl, ?_⟩) (by assumption) ?_
  rotate_left
  · (intro wS hSw; (try dsimp only at hSw); obtain ⟨s0, s1, s2, s3, s4, s5, s6, s7, s8, s9, s10⟩ := hSw; go_simp <;> with_reducible rfl)
  try simp only [Act.put, List.setIfInBounds_toArray, List.set_cons_zero, List.set_cons_succ]
  refine e_take (i := 4) (v := ?_) rfl (by kernel_rfl) (by kernel_rfl) (by kernel_rfl) (by kernel_rfl) (fun _ _ _ h => h) (Or.inl ⟨by rfl, ?_⟩) (by assumption) ?_
  rotate_left
  · (intro wS hSw; (try dsimp only at hSw); obtain ⟨s0, s1, s2, s3, s4, s5, s6, s7, s8, s9, s10⟩ := hSw; go_simp <;> with_reducible rfl)
  try simp only [Act.put, List.setIfInBounds_toArray, List.set_cons_zero, List.set_cons_succ]
  refine e_take (i := 5) (v := ?_) rfl (by kernel_rfl) (by kernel_rfl) (by kernel_rfl) (by kernel_rfl) (fun _ _ _ h => h) (Or.inl ⟨by rfl, ?_⟩) (by assumption) ?_
  rotate_left
  · (intro wS hSw; (try dsimp only at hSw); obtain ⟨s0, s1, s2, s3, s4, s5, s6, s7, s8, s9, s10⟩ := hSw; go_simp <;> with_reducible rfl)
  try simp only [Act.put, List.setIfInBounds_toArray, List.set_cons_zero, List.set_cons_succ]
  refine e_take (i := 6) (v := ?_) rfl (by kernel_rfl) (by kernel_rfl) (by kernel_rfl) (by kernel_rfl) (fun _ _ _ h => h) (Or.inl ⟨by rfl, ?_⟩) (by assumption) ?_
  rotate_left
  · (intro wS hSw; (try dsimp only at hSw); obtain ⟨s0, s1, s2, s3, s4, s5, s6, s7, s8, s9, s10⟩ := hSw; go_simp <;> with_reducible rfl)
  try simp only [Act.put, List.setIfInBounds_toArray, List.set_cons_zero, List.set_cons_succ]
  refine e_take (i := 7) (v := ?_) rfl (by kernel_rfl) (by kernel_rfl) (by kernel_rfl) (by kernel_rfl) (fun _ _ _ h => h) (Or.inl ⟨by rfl, ?_⟩) (by assumption) ?_
  rotate_left
  · (intro wS hSw; (try dsimp only at hSw); obtain ⟨s0, s1, s2, s3, s4, s5, s6, s7, s8, s9, s10⟩ := hSw; go_simp <;> with_reducible rfl)
  try simp only [Act.put, List.setIfInBounds_toArray, List.set_cons_zero, List.set_cons_succ]
  refine e_take (i := 8) (v := ?_) rfl (by kernel_rfl) (by kernel_rfl) (by kernel_rfl) (by kernel_rfl) (fun _ _ _ h => h) (Or.inl ⟨by rfl, ?_⟩) (by assumption) ?_
  rotate_left
  · (intro wS hSw; (try dsimp only at hSw); obtain ⟨s0, s1, s2, s3, s4, s5, s6, s7, s8, s9, s10⟩ := hSw; go_simp <;> with_reducible rfl)
  try simp only [Act.put, List.setIfInBounds_toArray, List.set_cons_zero, List.set_cons_succ]
  refine e_take (i := 9) (v := ?_) rfl (by kernel_rfl) (by kernel_rfl) (by kernel_rfl) (by kernel_rfl) (fun _ _ _ h => h) (Or.inl ⟨by rfl, ?_⟩) (by assumption) ?_
  rotate_left
  · (intro wS hSw; (try dsimp only at hSw); obtain ⟨s0, s1, s2, s3, s4, s5, s6, s7, s8, s9, s10⟩ := hSw; go_simp <;> with_reducible rfl)
  try simp only [Act.put, List.setIfInBounds_toArray, List.set_cons_zero, List.set_cons_succ]
  refine e_one (i := 10) (by kernel_rfl) rfl rfl (fun K hK => ?_)
  go_simp
  refine QH.out.mono ?_
  rintro e w8 ⟨xs, xt, xv, xf, xa, xn, xc, ya, yn, yc, rfl, n0, QD⟩
  try simp only [go_sem]
  refine hK _ _ (Or.inr n0) ?_
  try simp only [Act.put, List.setIfInBounds_toArray, List.set_cons_zero, List.set_cons_succ]
  refine e_one (i := 11) (by kernel_rfl) rfl rfl (fun K hK => ?_)
  go_simp
  refine (QD.out _ (Below.refl _ _)).mono ?_
  rintro e w9 ⟨rfl, HM⟩
  try simp only [go_sem]
  refine hK _ _ (Or.inl (by simp)) ?_
  try simp only [Act.put, List.setIfInBounds_toArray, List.set_cons_zero, List.set_cons_succ]
  refine e_one (i := 12) (by kernel_rfl) rfl rfl (fun K hK => ?_)
  go_simp
  refine hK _ _ (Or.inl (by simp)) ?_
  try simp only [Act.put, List.setIfInBounds_toArray, List.set_cons_zero, List.set_cons_succ]
  refine e_done (by kernel_rfl) ?_ _
  go_wp2_with fail
  go_ret
  exact ⟨rfl, Lib.hid (Moved.trans (t1 := t2) (((Kept.below HB1.out).trans HAR.out.kept (fun _ _ e => e)).trans (Kept.drew (fun _ => False) _) (fun _ _ e => e.elim)) (fun j hj => HAR.out.mark j (Nat.lt_of_lt_of_le hj HB1.out.size)) HM.out)⟩
set_option maxHeartbeats 1000000 in
theorem arrive_c {w : World} {b : Nat} {t : Nat → Nat} {x : Cl} {m : CM} (h : CluIs w b t x m) (hn : Nice x) (N : Int) (hN : In64 N) (keep : Bool) {x' : Cl} (hx : arriveC x (pickN N x.sent) keep = some x') :
    Calls Try.prog 49 #[.pointer (some ⟨b, 0, none⟩), .int .i64 N, .bool keep] w fun e w' => e = .returned (.bool true) ∧ Hid (Moved w w' b t x') := by
  by_cases h0 : 0 < x.sent.length
  · exact (arrive_go (h.mark (fun j hj => newT_old (n := 0) hj)) hn N hN keep (fun j hj => newT_new hj) h0 hx).mono (fun e w' hh => ⟨hh.1, Lib.hid (hh.2.out.turn (fun j hj => newT_old hj))⟩)
  · have e0 : x.sent = [] := List.eq_nil_of_length_eq_zero (by omega)
    have e1 : x' = x := by
      unfold arriveC at hx
      rw [e0] at hx
      exact (Option.some.inj hx).symm
    subst e1
    have hlen : m.ps.length = 0 := by rw [← List.length_map (f := PM.m), h.ms, e0]; rfl
    have y2 := (h.c (k := 0) (by decide)).x2
    rw [hlen] at y2
    have HM := Lib.hid h.same
    clear h hn hN hx e0 h0 hlen
    go_enter Try.func49, Try.ntmps49
    go_wp2_with fail
    go_ret
    exact ⟨rfl, HM⟩
end Go.Proofs.Ytoghaogcekappaa
