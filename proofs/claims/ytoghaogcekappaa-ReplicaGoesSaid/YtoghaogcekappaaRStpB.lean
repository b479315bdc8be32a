/-
  An operation of the law on the cluster: a message is lost; a proposal.
-/
import Derived.Test.YtoghaogcekappaaRStpA
namespace Go.Proofs.Ytoghaogcekappaa
set_option maxRecDepth 100000
open Go Go.RowKit Rp

theorem step_lose0_eq {x : Cl} (h : x.sent.length = 0) (n : Nat) : ({ x with sent := x.sent.eraseIdx n } : Cl) = x := by
  have e : x.sent.eraseIdx n = x.sent := by rw [List.eq_nil_of_length_eq_zero h]; rfl
  rw [e]
set_option maxHeartbeats 1000000 in
theorem step_lose0 {w : World} {b : Nat} {t : Nat → Nat} {x : Cl} {m : CM} (h : CluIs w b t x m) (o : Op8) (hf : Fit8 o) (hq : o.k % 16 = 8) (h0 : x.sent.length = 0) {x' : Cl} (hx : x' = x) :
    Calls Try.prog 26 #[.pointer (some ⟨b, 0, none⟩), opV8 o] w fun e w' => e = .returned (.bool true) ∧ Hid (Moved w w' b t x') := by
  obtain ⟨W1, hW1⟩ : ∃ W1, W1 = w.alloc (.cells #[.int .i64 o.k, .int .i64 o.n, .int .i64 o.q, .string ⟨o.s.toArray⟩] 37) := ⟨_, rfl⟩
  have hb1 : Below w.heap.size w W1 := by rw [hW1]; exact below_new w _
  have hx1 : W1.heap[w.heap.size]? = some (.cells #[.int .i64 o.k, .int .i64 o.n, .int .i64 o.q, .string ⟨o.s.toArray⟩] 37 (0, 0)) := by rw [hW1]; exact box_new w _
  have p0 : W1.cell? ⟨w.heap.size, 0, none⟩ = some (.int .i64 o.k) := by rw [Lib.cell_of_heap hx1]; rfl
  have p1 : W1.cell? ⟨w.heap.size, 1, none⟩ = some (.int .i64 o.n) := by rw [Lib.cell_of_heap hx1]; rfl
  have p2 : W1.cell? ⟨w.heap.size, 2, none⟩ = some (.int .i64 o.q) := by rw [Lib.cell_of_heap hx1]; rfl
  have p3 : W1.cell? ⟨w.heap.size, 3, none⟩ = some (.string ⟨o.s.toArray⟩) := by rw [Lib.cell_of_heap hx1]; rfl
  obtain ⟨i, hi, hie⟩ : ∃ i : Nat, i < 3 ∧ o.n % 3 = (i : Int) := ⟨(o.n % 3).toNat, by omega, by omega⟩
  have QP := Lib.hid (fun (W : World) => (show Calls Try.prog 48 #[.int .i64 o.n, .int .i64 3] W fun e w' => e = .returned (.int .i64 (i : Int)) ∧ w' = W from by
    have e : pickI o.n 3 = (i : Int) := by unfold pickI; rw [if_neg (by decide)]; exact hie
    rw [← e]
    exact pick_c o.n 3 hf.n (by decide) W))
  have hi3 : (i : Int) < 3 := by omega
  have h1 := h.on hb1
  have hc := h1.c hi
  have HB1 := Lib.hid hb1
  have hb : bits .and .i64 o.k 15 = 8 := (i64_and15 _).trans hq
  have hlen : m.ps.length = 0 := by rw [← List.length_map (f := PM.m), h.ms, h0]
  have y2 := hc.x2
  rw [hlen] at y2
  have HM := Lib.hid (show Moved W1 W1 b t x' by rw [hx]; exact h1.same)
  clear hq h1 hc hb1 hx1 hf hx h hie h0 hlen
  unfold opV8
  go_enter Try.func26, Try.ntmps26
  go_upto_region 1 with fail
  rw [← hW1]
  clear hW1
  go_wp2_with ((with_reducible refine (QP.out _).mono ?_); rintro e w5 ⟨rfl, hw⟩; rw [hw]; clear hw)
  go_ret
  exact ⟨rfl, Lib.hid (Moved.trans (t1 := t) (Kept.below HB1.out) (fun _ _ => rfl) HM.out)⟩
set_option maxHeartbeats 4000000 in
set_option linter.unusedSimpArgs false in
theorem step_lose1 {w : World} {b : Nat} {t : Nat → Nat} {x : Cl} {m : CM} (h : CluIs w b t x m) (hn : Nice x) (o : Op8) (hf : Fit8 o) (hq : o.k % 16 = 8) (h0 : 0 < x.sent.length) {x' : Cl} (hx : x' = { x with sent := x.sent.eraseIdx (pickN o.q x.sent) }) :
    Calls Try.prog 26 #[.pointer (some ⟨b, 0, none⟩), opV8 o] w fun e w' => e = .returned (.bool true) ∧ Hid (Moved w w' b t x') := by
  obtain ⟨W1, hW1⟩ : ∃ W1, W1 = w.alloc (.cells #[.int .i64 o.k, .int .i64 o.n, .int .i64 o.q, .string ⟨o.s.toArray⟩] 37) := ⟨_, rfl⟩
  have hb1 : Below w.heap.size w W1 := by rw [hW1]; exact below_new w _
  have hx1 : W1.heap[w.heap.size]? = some (.cells #[.int .i64 o.k, .int .i64 o.n, .int .i64 o.q, .string ⟨o.s.toArray⟩] 37 (0, 0)) := by rw [hW1]; exact box_new w _
  have p0 : W1.cell? ⟨w.heap.size, 0, none⟩ = some (.int .i64 o.k) := by rw [Lib.cell_of_heap hx1]; rfl
  have p1 : W1.cell? ⟨w.heap.size, 1, none⟩ = some (.int .i64 o.n) := by rw [Lib.cell_of_heap hx1]; rfl
  have p2 : W1.cell? ⟨w.heap.size, 2, none⟩ = some (.int .i64 o.q) := by rw [Lib.cell_of_heap hx1]; rfl
  have p3 : W1.cell? ⟨w.heap.size, 3, none⟩ = some (.string ⟨o.s.toArray⟩) := by rw [Lib.cell_of_heap hx1]; rfl
  obtain ⟨i, hi, hie⟩ : ∃ i : Nat, i < 3 ∧ o.n % 3 = (i : Int) := ⟨(o.n % 3).toNat, by omega, by omega⟩
  have QP := Lib.hid (fun (W : World) => (show Calls Try.prog 48 #[.int .i64 o.n, .int .i64 3] W fun e w' => e = .returned (.int .i64 (i : Int)) ∧ w' = W from by
    have e : pickI o.n 3 = (i : Int) := by unfold pickI; rw [if_neg (by decide)]; exact hie
    rw [← e]
    exact pick_c o.n 3 hf.n (by decide) W))
  have hi3 : (i : Int) < 3 := by omega
  have h1 := h.on hb1
  have hc := h1.c hi
  have HB1 := Lib.hid hb1
  have hb : bits .and .i64 o.k 15 = 8 := (i64_and15 _).trans hq
  obtain ⟨n, hnl, hpn, hpi⟩ := pickN_at (N := o.q) h0
  rw [hpn] at hx
  have hlen : m.ps.length = x.sent.length := by rw [← h.ms, List.length_map]
  obtain ⟨SN, hSN⟩ : ∃ SN, m.ps.length = SN := ⟨_, rfl⟩
  have hsl : SN ≤ 300 := by have := hn.len; omega
  have hns : n < SN := by omega
  rw [← hlen, hSN] at hpi
  have QP1 := Lib.hid (fun (W : World) => (show Calls Try.prog 48 #[.int .i64 o.q, .int .i64 (SN : Int)] W fun e w' => e = .returned (.int .i64 (n : Int)) ∧ w' = W from by rw [← hpi]; exact pick_c o.q SN hf.t (by omega) W))
  have HXE := Lib.hid hx
  have H1 := Lib.hid h1
  have HSN := Lib.hid hSN
  have y2 := hc.x2
  rw [hSN] at y2
  have yfx := hc.fx
  have hlc : SN ≤ m.xc := by rw [← hSN]; exact (MsgRow.src h.sent (G := fun _ => True) (fun _ _ => trivial)).1
  have hcn : (n : Int) ≤ (m.xc : Int) := by omega
  have hcn1 : (n : Int) + 1 ≤ (SN : Int) := by omega
  have hni : (n : Int) < (SN : Int) := by omega
  have hs0 : (0 : Int) < (SN : Int) := by omega
  clear hq h1 hc hb1 hx1 hf hx h hie h0 hlen hn hnl hpn hpi hSN
  unfold opV8
  go_enter Try.func26, Try.ntmps26
  go_upto_region 1 with fail
  rw [← hW1]
  clear hW1
  go_upto_region 5 with ((with_reducible refine (QP.out _).mono ?_); rintro e w5 ⟨rfl, hw⟩; rw [hw]; clear hw)
  go_cut [6] (fun t6 wx => t6 = .int .i64 (n : Int) ∧ Hid (Below W1.heap.size W1 wx))
  case first =>
    go_quiet (exact Calls.quiet_of_same (QP1.out _))
    go_wp2_with fail
    go_meet
    exact ⟨rfl, Lib.hid (below_drewN (Below.refl _ _) _)⟩
  case rest =>
  rename World => w6
  obtain ⟨rfl, hb6⟩ := hcut
  have H6 := Lib.hid (H1.out.on hb6.out)
  have hc6 := H6.out.c (k := 0) (by decide)
  have v2 := hc6.x2
  rw [HSN.out] at v2
  have vf := hc6.fx
  clear hc6 y2 yfx
  obtain ⟨A, hslB0, hA⟩ := msg_from m.xa SN m.xc (n + 1) (by omega)
  have hslA := fun wx => msg_to m.xa SN m.xc n (by omega) wx
  have hw1 : IntKind.i64.wrap ((n : Int) + 1) = (n : Int) + 1 := IntWalk.i64_in _ (by omega)
  have hslB : ∀ wx : World, (Instr.slice 26 (.slice m.xa SN m.xc) (some (.int .i64 ((n : Int) + 1))) none none).run Try.prog wx = .ok (.slice A (SN - (n + 1)) (m.xc - (n + 1))) wx := hslB0
  have hbd : Below w6.heap.size w6 w6.drew := below_drew (Below.refl _ _)
  obtain ⟨a1, c1, w1, a2, c2, w2, t9, m9, hr1, hr2, ht9, hc9, hbl1, hbl2⟩ := (H6.out.on hbd).less (n := n) (by rw [HSN.out]; exact hns) (by rw [HSN.out]; omega) hA
  rw [HSN.out] at hr2 hc9
  have hrA : (Builtin.append_ #[26, 26] 26 #[.slice (some ⟨w6.heap.size, 0, none⟩) 0 0, .slice m.xa n m.xc]).run Try.prog (w6.alloc (.cells #[] 39)).drew = .ok (.slice a1 n c1) w1 := hr1
  have hrB := hr2
  have yA : (w6.alloc (.cells #[] 39)).cell? ⟨b, 2, none⟩ = some (.slice m.xa SN m.xc) := by rw [← HSN.out]; exact ((H6.out.on (below_new _ _)).c (k := 0) (by decide)).x2
  have yfA : ∀ o, (w6.alloc (.cells #[] 39)).frozen? ⟨b, o, none⟩ = false := fun o => ((H6.out.on (below_new _ _)).c (k := 0) (by decide)).fx o
  have y1 : w1.cell? ⟨b, 2, none⟩ = some (.slice m.xa SN m.xc) := by rw [← HSN.out]; exact ((H6.out.on (hbd.trans hbl1)).c (k := 0) (by decide)).x2
  have yf1 : ∀ o, w1.frozen? ⟨b, o, none⟩ = false := fun o => ((H6.out.on (hbd.trans hbl1)).c (k := 0) (by decide)).fx o
  have y9 : w2.cell? ⟨b, 2, none⟩ = some (.slice m.xa SN m.xc) := by rw [← HSN.out]; exact ((H6.out.on (hbd.trans hbl2)).c (k := 0) (by decide)).x2
  have yf9 : ∀ o, w2.frozen? ⟨b, o, none⟩ = false := fun o => ((H6.out.on (hbd.trans hbl2)).c (k := 0) (by decide)).fx o
  have hkE : Kept (fun j => t j ≠ 0 ∧ t j < 8) w6 (w2.setCell ⟨b, 2, none⟩ (.slice a2 (n + (SN - (n + 1))) c2)) := (Kept.below (hbd.trans hbl2)).trans (Kept.set b 2 w2 _) (fun j _ e => by rw [e, H1.out.tb]; decide)
  have HE9 := Lib.hid (show Moved w6 (w2.setCell ⟨b, 2, none⟩ (.slice a2 (n + (SN - (n + 1))) c2)) b t x' from by rw [HXE.out]; exact ⟨t9, m9, ht9, hc9, hkE⟩)
  clear hr1 hr2 ht9 hc9 hbl1 hbl2 hkE hbd hslB0 hA
  go_upto_region 6 with fail
  refine e_start [19] (fun w' => w'.cell? ⟨b, 2, none⟩ = some (.slice m.xa SN m.xc) ∧ (∀ o, w'.frozen? ⟨b, o, none⟩ = false)) (by kernel_rfl) ⟨v2, vf⟩ (fun hS => ?_)
  refine e_take (i := 0) (v := ?_) rfl (by kernel_rfl) (by kernel_rfl) (by kernel_rfl) (by kernel_rfl) (fun _ _ _ h => h) (Or.inl ⟨by rfl, ?_⟩) (by assumption) ?_
  rotate_left
  · (intro wS hSw; (try dsimp only at hSw); obtain ⟨s1, s2⟩ := hSw; go_simp <;> with_reducible rfl)
  try simp only [Act.put, List.setIfInBounds_toArray, List.set_cons_zero, List.set_cons_succ]
  refine e_take (i := 2) (v := ?_) rfl (by kernel_rfl) (by kernel_rfl) (by kernel_rfl) (by kernel_rfl) (fun _ _ _ h => h) (Or.inl ⟨by rfl, ?_⟩) (by assumption) ?_
  rotate_left
  · (intro wS hSw; (try dsimp only at hSw); obtain ⟨s1, s2⟩ := hSw; go_simp <;> with_reducible rfl)
  try simp only [Act.put, List.setIfInBounds_toArray, List.set_cons_zero, List.set_cons_succ]
  refine e_take (i := 3) (v := ?_) rfl (by kernel_rfl) (by kernel_rfl) (by kernel_rfl) (by kernel_rfl) (fun _ _ _ h => h) (Or.inl ⟨by rfl, ?_⟩) (by assumption) ?_
  rotate_left
  · (intro wS hSw; (try dsimp only at hSw); obtain ⟨s1, s2⟩ := hSw; go_simp <;> with_reducible rfl)
  try simp only [Act.put, List.setIfInBounds_toArray, List.set_cons_zero, List.set_cons_succ]
  refine e_take (i := 4) (v := ?_) rfl (by kernel_rfl) (by kernel_rfl) (by kernel_rfl) (by kernel_rfl) (fun _ _ _ h => h) (Or.inl ⟨by rfl, ?_⟩) (by assumption) ?_
  rotate_left
  · (intro wS hSw; (try dsimp only at hSw); obtain ⟨s1, s2⟩ := hSw; go_simp <;> with_reducible rfl)
  try simp only [Act.put, List.setIfInBounds_toArray, List.set_cons_zero, List.set_cons_succ]
  refine e_take (i := 5) (v := ?_) rfl (by kernel_rfl) (by kernel_rfl) (by kernel_rfl) (by kernel_rfl) (fun _ _ _ h => h) (Or.inl ⟨by rfl, ?_⟩) (by assumption) ?_
  rotate_left
  · (intro wS hSw; (try dsimp only at hSw); obtain ⟨s1, s2⟩ := hSw; go_simp <;> with_reducible rfl)
  try simp only [Act.put, List.setIfInBounds_toArray, List.set_cons_zero, List.set_cons_succ]
  refine e_take (i := 6) (v := ?_) rfl (by kernel_rfl) (by kernel_rfl) (by kernel_rfl) (by kernel_rfl) (fun _ _ _ h => h) (Or.inl ⟨by rfl, ?_⟩) (by assumption) ?_
  rotate_left
  · (intro wS hSw; (try dsimp only at hSw); obtain ⟨s1, s2⟩ := hSw; go_simp <;> with_reducible rfl)
  try simp only [Act.put, List.setIfInBounds_toArray, List.set_cons_zero, List.set_cons_succ]
  refine e_take (i := 7) (v := ?_) rfl (by kernel_rfl) (by kernel_rfl) (by kernel_rfl) (by kernel_rfl) (fun _ _ _ h => h) (Or.inl ⟨by rfl, ?_⟩) (by assumption) ?_
  rotate_left
  · (intro wS hSw; (try dsimp only at hSw); obtain ⟨s1, s2⟩ := hSw; go_simp <;> with_reducible rfl)
  try simp only [Act.put, List.setIfInBounds_toArray, List.set_cons_zero, List.set_cons_succ]
  refine e_take (i := 9) (v := ?_) rfl (by kernel_rfl) (by kernel_rfl) (by kernel_rfl) (by kernel_rfl) (fun _ _ _ h => h) (Or.inl ⟨by rfl, ?_⟩) (by assumption) ?_
  rotate_left
  · (intro wS hSw; (try dsimp only at hSw); obtain ⟨s1, s2⟩ := hSw; go_simp <;> with_reducible rfl)
  try simp only [Act.put, List.setIfInBounds_toArray, List.set_cons_zero, List.set_cons_succ]
  refine e_take (i := 10) (v := ?_) rfl (by kernel_rfl) (by kernel_rfl) (by kernel_rfl) (by kernel_rfl) (fun _ _ _ h => h) (Or.inl ⟨by rfl, ?_⟩) (by assumption) ?_
  rotate_left
  · (intro wS hSw; (try dsimp only at hSw); obtain ⟨s1, s2⟩ := hSw; go_simp <;> with_reducible rfl)
  try simp only [Act.put, List.setIfInBounds_toArray, List.set_cons_zero, List.set_cons_succ]
  refine e_take (i := 11) (v := ?_) rfl (by kernel_rfl) (by kernel_rfl) (by kernel_rfl) (by kernel_rfl) (fun _ _ _ h => h) (Or.inl ⟨by rfl, ?_⟩) (by assumption) ?_
  rotate_left
  · (intro wS hSw; (try dsimp only at hSw); obtain ⟨s1, s2⟩ := hSw; go_simp <;> with_reducible rfl)
  try simp only [Act.put, List.setIfInBounds_toArray, List.set_cons_zero, List.set_cons_succ]
  refine e_take (i := 12) (v := ?_) rfl (by kernel_rfl) (by kernel_rfl) (by kernel_rfl) (by kernel_rfl) (fun _ _ _ h => h) (Or.inl ⟨by rfl, ?_⟩) (by assumption) ?_
  rotate_left
  · (intro wS hSw; (try dsimp only at hSw); obtain ⟨s1, s2⟩ := hSw; go_simp <;> with_reducible rfl)
  try simp only [Act.put, List.setIfInBounds_toArray, List.set_cons_zero, List.set_cons_succ]
  refine e_take (i := 13) (v := ?_) rfl (by kernel_rfl) (by kernel_rfl) (by kernel_rfl) (by kernel_rfl) (fun _ _ _ h => h) (Or.inl ⟨by rfl, ?_⟩) (by assumption) ?_
  rotate_left
  · (intro wS hSw; (try dsimp only at hSw); obtain ⟨s1, s2⟩ := hSw; go_simp <;> with_reducible rfl)
  try simp only [Act.put, List.setIfInBounds_toArray, List.set_cons_zero, List.set_cons_succ]
  refine e_take (i := 14) (v := ?_) rfl (by kernel_rfl) (by kernel_rfl) (by kernel_rfl) (by kernel_rfl) (fun _ _ _ h => h) (Or.inl ⟨by rfl, ?_⟩) (by assumption) ?_
  rotate_left
  · (intro wS hSw; (try dsimp only at hSw); obtain ⟨s1, s2⟩ := hSw; go_simp <;> with_reducible rfl)
  try simp only [Act.put, List.setIfInBounds_toArray, List.set_cons_zero, List.set_cons_succ]
  refine e_take (i := 15) (v := ?_) rfl (by kernel_rfl) (by kernel_rfl) (by kernel_rfl) (by kernel_rfl) (fun _ _ _ h => h) (Or.inl ⟨by rfl, ?_⟩) (by assumption) ?_
  rotate_left
  · (intro wS hSw; (try dsimp only at hSw); obtain ⟨s1, s2⟩ := hSw; go_simp <;> with_reducible rfl)
  try simp only [Act.put, List.setIfInBounds_toArray, List.set_cons_zero, List.set_cons_succ]
  refine e_one (i := 1) (by kernel_rfl) rfl rfl (fun K hK => ?_)
  go_simp
  refine hK _ _ (Or.inr ⟨yA, yfA⟩) ?_
  try simp only [Act.put, List.setIfInBounds_toArray, List.set_cons_zero, List.set_cons_succ]
  refine e_one (i := 8) (by kernel_rfl) rfl rfl (fun K hK => ?_)
  refine Lib.wp_append_run _ (.tmp 33) (.tmp 39) _ _ rfl _ _ rfl rfl _ _ hrA ?_
  refine hK _ _ (Or.inr ⟨y1, yf1⟩) ?_
  try simp only [Act.put, List.setIfInBounds_toArray, List.set_cons_zero, List.set_cons_succ]
  refine e_one (i := 16) (by kernel_rfl) rfl rfl (fun K hK => ?_)
  refine Lib.wp_append_run _ (.tmp 40) (.tmp 47) _ _ rfl _ _ rfl rfl _ _ hrB ?_
  refine hK _ _ (Or.inr ⟨y9, yf9⟩) ?_
  try simp only [Act.put, List.setIfInBounds_toArray, List.set_cons_zero, List.set_cons_succ]
  refine e_one (i := 17) (by kernel_rfl) rfl rfl (fun K hK => ?_)
  go_simp
  refine hK _ _ (Or.inr ⟨y9, yf9⟩) ?_
  try simp only [Act.put, List.setIfInBounds_toArray, List.set_cons_zero, List.set_cons_succ]
  refine e_one (i := 18) (by kernel_rfl) rfl rfl (fun K hK => ?_)
  go_simp
  refine hK _ _ (Or.inr ⟨y9, yf9⟩) ?_
  try simp only [Act.put, List.setIfInBounds_toArray, List.set_cons_zero, List.set_cons_succ]
  refine e_one (i := 19) (by kernel_rfl) rfl rfl (fun K hK => ?_)
  go_simp
  refine hK _ _ (Or.inl (by simp)) ?_
  try simp only [Act.put, List.setIfInBounds_toArray, List.set_cons_zero, List.set_cons_succ]
  refine e_done (by kernel_rfl) ?_ _
  go_wp2_with fail
  go_ret
  exact ⟨rfl, Lib.hid (Moved.trans (t1 := t) ((Kept.below HB1.out).trans (Kept.below (S := fun _ => False) hb6.out) (fun _ _ e => e.elim)) (fun _ _ => rfl) HE9.out)⟩
theorem CluIs.far8 {w w' : World} {b : Nat} {t : Nat → Nat} {x : Cl} {m : CM} (h : CluIs w b t x m) (hk : Kept (fun j => 8 ≤ t j) w w') : CluIs w' b t x m where
  box := hk.heap h.box (fun e => by have e : 8 ≤ t b := e; have := h.tb; omega)
  rbx := hk.heap h.rbx (fun e => by have e : 8 ≤ t m.rb := e; have := h.tr; omega)
  rce := h.rce
  sbx := hk.heap h.sbx (fun e => by have e : 8 ≤ t m.sb := e; have := h.ts; omega)
  s0 := h.s0
  s1 := h.s1
  s2 := h.s2
  s3 := h.s3
  rep := fun k hk3 => (h.rep k hk3).far hk (fun j e e3 => by have := h.tp k hk3 j e; omega)
  lgs := fun k hk3 => (h.lgs k hk3).kept hk (fun j _ e e3 => by omega)
  sent := h.sent.kept hk (fun j e e3 => by have := h.tx j e; omega)
  ms := h.ms
  ok := fun p hp => (h.ok p hp).kept hk (fun j _ e e3 => by omega)
  sml := h.sml
  tb := h.tb
  tr := h.tr
  ts := h.ts
  tx := h.tx
  tp := h.tp
/-- A replica is proposed something; what is to be done with the result, which is put into a block of its own. -/
theorem propose_k {w : World} {b : Nat} {t : Nat → Nat} {x : Cl} {m : CM} (h : CluIs w b t x m) (hn : Nice x) {k : Nat} (hk : k < 3) (d : List UInt8) (hd : d.length ≤ 9223372036854775807) {o : Op8} (S : Nat → Prop) (hS : ∀ j, S j → j < w.heap.size ∧ 8 ≤ t j) {g : Nat} (hg : w.heap[g]? = some (.cells #[.int .i64 o.k, .int .i64 o.n, .int .i64 o.q, .string ⟨o.s.toArray⟩] 37 (0, 0))) (hgt : t g = 0) {x' : Cl} (hx : doneC x k (proposeR (x.r k) d).1 (proposeR (x.r k) d).2.2.2 = some x') :
    Calls Try.prog 17 #[.pointer (some ⟨m.p k, 0, none⟩), .string ⟨d.toArray⟩] w fun e w' => ∃ (xs : Bool) (xt xv xf : Int) (xa : Option Addr) (xn xc : Nat) (ya : Option Addr) (yn yc : Nat) (z1 z2 : Int), e = .returned (.tuple #[.int .i64 z1, .int .i64 z2, .agg #[.bool xs, .int .i64 xt, .int .i64 xv, .int .i64 xf, .slice xa xn xc, .slice ya yn yc]]) ∧ Hid (z1 = (proposeR (x.r k) d).2.1 ∧ z2 = (proposeR (x.r k) d).2.2.1) ∧
      (w'.cell? ⟨b, 0, none⟩ = some (.slice (some ⟨m.rb, 0, none⟩) 3 m.rc) ∧ w'.cell? ⟨m.rb, k, none⟩ = some (.pointer (some ⟨m.p k, 0, none⟩)) ∧ w'.cell? ⟨g, 3, none⟩ = some (.string ⟨o.s.toArray⟩)) ∧ Hid (Kept (fun j => 5 ≤ t j ∧ t j ≤ 7) w w') ∧
      Hid (∀ W, Kept S w' W → Calls Try.prog 28 #[.pointer (some ⟨b, 0, none⟩), .int .i64 k, .agg #[.bool xs, .int .i64 xt, .int .i64 xv, .int .i64 xf, .slice xa xn xc, .slice ya yn yc]] W fun e w2 => e = .returned (.bool true) ∧ Hid (∃ t' m', (∀ j, j < w.heap.size → t' j = t j) ∧ CluIs w2 b t' x' m' ∧ Kept (fun j => (t j ≠ 0 ∧ t j < 8) ∨ S j) w w2)) := by
  have hi : isId (k : Int) := by unfold isId; omega
  refine (propose_c (h.rep k hk) d hd).mono (fun e w' hh => ?_)
  obtain ⟨xs, xt, xv, xf, xa, xn, xc, ya, yn, yc, rfl, hd⟩ := hh
  obtain ⟨f1, f2, f3⟩ := hn.propose hi d
  obtain ⟨t', m', e1, h1, h2, h3, _⟩ := h.did hk hd.out
  obtain ⟨_, _, _, hkk, _⟩ := hd.out
  have hc := h.c hk
  have hgw : w'.heap[g]? = some (.cells #[.int .i64 o.k, .int .i64 o.n, .int .i64 o.q, .string ⟨o.s.toArray⟩] 37 (0, 0)) := hkk.heap hg (fun e => by have := h.tp k hk g e; omega)
  have hcb : ¬ Own (m.p k) (m.lv k) b := fun e => by have := h.tp k hk b e; have := h.tb; omega
  have hcr : ¬ Own (m.p k) (m.lv k) m.rb := fun e => by have := h.tp k hk _ e; have := h.tr; omega
  refine ⟨xs, xt, xv, xf, xa, xn, xc, ya, yn, yc, _, _, rfl, Lib.hid ⟨rfl, rfl⟩, ⟨hkk.cell hc.x0 hcb, hkk.cell hc.r hcr, by rw [Lib.cell_of_heap hgw]; rfl⟩, Lib.hid (hkk.mono (fun j _ e => by have := h.tp k hk j e; omega)), Lib.hid (fun W hW => ?_)⟩
  have hW8 : Kept (fun j => 8 ≤ t' j) w' W := hW.mono (fun j _ e => by rw [e1 j (hS j e).1]; exact (hS j e).2)
  have ho : OutIs (fun j => t' j = 0) W (.agg #[.bool xs, .int .i64 xt, .int .i64 xv, .int .i64 xf, .slice xa xn xc, .slice ya yn yc]) (proposeR (x.r k) d).2.2.2 := (h2.mono (fun j hj => hj.1)).kept hW8 (fun j _ e e8 => by omega)
  rw [doneC_eq] at hx
  refine (done_c (h1.far8 hW8) hk ho f1 hn.len f2 f3 hx).mono (fun e w2 hh => ⟨hh.1, Lib.hid ?_⟩)
  obtain ⟨t2, m2, q1, q2, q3⟩ := hh.2.out
  have hs := h3.size
  have hsW := hW.size
  refine ⟨t2, m2, fun j hj => (q1 j (by omega)).trans (e1 j hj), q2, (((h3.mono (S' := fun j => (t j ≠ 0 ∧ t j < 8) ∨ S j) (fun j _ e => Or.inl e)).trans hW (fun j hj e => Or.inr e)).trans q3 (fun j hj e => Or.inl (by rw [← e1 j hj]; exact e)))⟩
end Go.Proofs.Ytoghaogcekappaa
