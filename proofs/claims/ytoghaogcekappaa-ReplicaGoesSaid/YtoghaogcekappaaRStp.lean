/-
  An operation of the law on the cluster: a proposal; all operations.
-/
import Derived.Test.YtoghaogcekappaaRStpB
namespace Go.Proofs.Ytoghaogcekappaa
set_option maxRecDepth 100000
open Go Go.RowKit Rp

theorem ocell6 {w : World} {g : Nat} {y0 y1 y2 y3 y4 y5 : Value} {T : TypeId} (h : w.heap[g]? = some (.cells #[y0, y1, y2, y3, y4, y5] T (0, 0))) : w.cell? ⟨g, 0, none⟩ = some y0 ∧ w.cell? ⟨g, 1, none⟩ = some y1 ∧ w.cell? ⟨g, 2, none⟩ = some y2 ∧ w.cell? ⟨g, 3, none⟩ = some y3 ∧ w.cell? ⟨g, 4, none⟩ = some y4 ∧ w.cell? ⟨g, 5, none⟩ = some y5 := by
  refine ⟨?_, ?_, ?_, ?_, ?_, ?_⟩ <;> (rw [Lib.cell_of_heap h]; rfl)
theorem zcells {w : World} {g : Nat} (h : w.heap[g]? = some (.cells #[.bool false, .int .i64 0, .int .i64 0, .int .i64 0, .slice none 0 0, .slice none 0 0] 35 (0, 0))) : w.cell? ⟨g, 0, none⟩ = some (.bool false) ∧ w.cell? ⟨g, 1, none⟩ = some (.int .i64 0) ∧ w.cell? ⟨g, 2, none⟩ = some (.int .i64 0) ∧ w.cell? ⟨g, 3, none⟩ = some (.int .i64 0) ∧ w.cell? ⟨g, 4, none⟩ = some (.slice none 0 0) ∧ w.cell? ⟨g, 5, none⟩ = some (.slice none 0 0) ∧ (∀ o, w.frozen? ⟨g, o, none⟩ = false) := by
  refine ⟨?_, ?_, ?_, ?_, ?_, ?_, fun o => Lib.frozen_of_heap h o⟩ <;> (rw [Lib.cell_of_heap h]; rfl)
set_option linter.unusedSimpArgs false in
set_option maxHeartbeats 4000000 in
theorem step_prop12 {w : World} {b : Nat} {t : Nat → Nat} {x : Cl} {m : CM} (h : CluIs w b t x m) (hn : Nice x) (o : Op8) (hf : Fit8 o) (ht : ∀ j, w.heap.size ≤ j → t j = 0) (hq : o.k % 16 = 12) {x' : Cl} (hx : doneC x (o.n % 3) (proposeR (x.r (o.n % 3)) o.s).1 (proposeR (x.r (o.n % 3)) o.s).2.2.2 = some x') :
    Calls Try.prog 26 #[.pointer (some ⟨b, 0, none⟩), opV8 o] w fun e w' => e = .returned (.bool true) ∧ Hid (Moved w w' b t x') := by
  obtain ⟨W1, hW1⟩ : ∃ W1, W1 = w.alloc (.cells #[.int .i64 o.k, .int .i64 o.n, .int .i64 o.q, .string ⟨o.s.toArray⟩] 37) := ⟨_, rfl⟩
  have hb1 : Below w.heap.size w W1 := by rw [hW1]; exact below_new w _
  have hx1 : W1.heap[w.heap.size]? = some (.cells #[.int .i64 o.k, .int .i64 o.n, .int .i64 o.q, .string ⟨o.s.toArray⟩] 37 (0, 0)) := by rw [hW1]; exact box_new w _
  have p0 : W1.cell? ⟨w.heap.size, 0, none⟩ = some (.int .i64 o.k) := by rw [Lib.cell_of_heap hx1]; rfl
  have p1 : W1.cell? ⟨w.heap.size, 1, none⟩ = some (.int .i64 o.n) := by rw [Lib.cell_of_heap hx1]; rfl
  have p2 : W1.cell? ⟨w.heap.size, 2, none⟩ = some (.int .i64 o.q) := by rw [Lib.cell_of_heap hx1]; rfl
  have p3 : W1.cell? ⟨w.heap.size, 3, none⟩ = some (.string ⟨o.s.toArray⟩) := by rw [Lib.cell_of_heap hx1]; rfl
  obtain ⟨i, hi, hie⟩ : ∃ i : Nat, i < 3 ∧ o.n % 3 = (i : Int) := ⟨(o.n % 3).toNat, by omega, by omega⟩
  have QP := Lib.hid (fun (W : World) => (show Calls Try.prog 48 #[.int .i64 o.n, .int .i64 3] W fun e w' => e = .returned (.int .i64 (i : Int)) ∧ w' = W from by
    have e : pickI o.n 3 = (i : Int) := by unfold pickI; rw [if_neg (by decide)]; exact hie
    rw [← e]
    exact pick_c o.n 3 hf.n (by decide) W))
  have hi3 : (i : Int) < 3 := by omega
  have h1 := h.on hb1
  have hc := h1.c hi
  have HB1 := Lib.hid hb1
  have hb : bits .and .i64 o.k 15 = 12 := (i64_and15 _).trans hq
  rw [hie] at hx
  have hbd : Below W1.heap.size W1 W1.drew := below_drew (Below.refl _ _)
  have hgt : t w.heap.size = 0 := ht _ (Nat.le_refl _)
  have hs1 := hb1.size
  have hgl : w.heap.size < W1.heap.size := box_lt hx1
  have QA := Lib.hid (propose_k (h1.on hbd) hn hi o.s hf.s (fun _ => False) (fun _ e => e.elim) (g := w.heap.size) (box_on hx1 hbd) hgt hx)
  have hmk : ∀ j, j < W1.heap.size → newT W1 t 9 j = t j := fun j hj => newT_old hj
  have hbz : Below W1.heap.size W1 (W1.alloc (.cells #[.bool false, .int .i64 0, .int .i64 0, .int .i64 0, .slice none 0 0, .slice none 0 0] 35)).drew := below_drew (below_new _ _)
  have QB := Lib.hid (propose_k ((h1.mark hmk).on hbz) hn hi o.s hf.s (fun j => j = W1.heap.size) (fun j e => ⟨by rw [e]; show W1.heap.size < (W1.alloc (.cells #[.bool false, .int .i64 0, .int .i64 0, .int .i64 0, .slice none 0 0, .slice none 0 0] 35)).heap.size; simp, by rw [e, newT_new (Nat.le_refl _)]; decide⟩) (g := w.heap.size) (box_on hx1 hbz) ((hmk _ hgl).trans hgt) hx)
  have x0 := hc.x0
  have xr := hc.r
  have HZ8 := Lib.hid (fun (w8 : World) (hk : Kept (fun j => 5 ≤ newT W1 t 9 j ∧ newT W1 t 9 j ≤ 7) (W1.alloc (.cells #[.bool false, .int .i64 0, .int .i64 0, .int .i64 0, .slice none 0 0, .slice none 0 0] 35)).drew w8) => zcells (hk.heap (show (W1.alloc (.cells #[.bool false, .int .i64 0, .int .i64 0, .int .i64 0, .slice none 0 0, .slice none 0 0] 35)).drew.heap[W1.heap.size]? = _ from box_new W1 _) (fun e => by have e9 : newT W1 t 9 W1.heap.size = 9 := newT_new (Nat.le_refl _); omega)))
  have HBX := Lib.hid (fun (w8 : World) (hk : Kept (fun j => 5 ≤ newT W1 t 9 j ∧ newT W1 t 9 j ≤ 7) (W1.alloc (.cells #[.bool false, .int .i64 0, .int .i64 0, .int .i64 0, .slice none 0 0, .slice none 0 0] 35)).drew w8) => hk.heap (show (W1.alloc (.cells #[.bool false, .int .i64 0, .int .i64 0, .int .i64 0, .slice none 0 0, .slice none 0 0] 35)).drew.heap[W1.heap.size]? = _ from box_new W1 _) (fun e => by have e9 : newT W1 t 9 W1.heap.size = 9 := newT_new (Nat.le_refl _); omega))
  have neb : ¬ b = W1.heap.size := by have := h1.lt; omega
  have ner : ¬ m.rb = W1.heap.size := by have := box_lt h1.rbx; omega
  have neg : ¬ w.heap.size = W1.heap.size := by omega
  have HMK := Lib.hid hmk
  have HGL := Lib.hid hs1
  clear hq h1 hc hb1 hx1 hf hn hx h hie hbd hgt ht hmk hbz hs1
  unfold opV8
  go_enter Try.func26, Try.ntmps26
  go_upto_region 1 with fail
  rw [← hW1]
  clear hW1
  go_upto_region 15 with ((with_reducible refine (QP.out _).mono ?_); rintro e w5 ⟨rfl, hw⟩; rw [hw]; clear hw)
  refine e_start [17] (fun w' => w'.cell? ⟨b, 0, none⟩ = some (.slice (some ⟨m.rb, 0, none⟩) 3 m.rc) ∧ w'.cell? ⟨m.rb, i, none⟩ = some (.pointer (some ⟨m.p i, 0, none⟩)) ∧ w'.cell? ⟨w.heap.size, 3, none⟩ = some (.string ⟨o.s.toArray⟩)) (by kernel_rfl) ⟨x0, xr, p3⟩ (fun hS => ?_)
  refine e_take (i := 0) (v := ?_) rfl (by kernel_rfl) (by kernel_rfl) (by kernel_rfl) (by kernel_rfl) (fun _ _ _ h => h) (Or.inl ⟨by rfl, ?_⟩) (by assumption) ?_
  rotate_left
  · (intro wS hSw; (try dsimp only at hSw); obtain ⟨s1, s2, s3⟩ := hSw; go_simp <;> with_reducible rfl)
  try simp only [Act.put, List.setIfInBounds_toArray, List.set_cons_zero, List.set_cons_succ]
  refine e_take (i := 1) (v := ?_) rfl (by kernel_rfl) (by kernel_rfl) (by kernel_rfl) (by kernel_rfl) (fun _ _ _ h => h) (Or.inl ⟨by rfl, ?_⟩) (by assumption) ?_
  rotate_left
  · (intro wS hSw; (try dsimp only at hSw); obtain ⟨s1, s2, s3⟩ := hSw; go_simp <;> with_reducible rfl)
  try simp only [Act.put, List.setIfInBounds_toArray, List.set_cons_zero, List.set_cons_succ]
  refine e_take (i := 2) (v := ?_) rfl (by kernel_rfl) (by kernel_rfl) (by kernel_rfl) (by kernel_rfl) (fun _ _ _ h => h) (Or.inl ⟨by rfl, ?_⟩) (by assumption) ?_
  rotate_left
  · (intro wS hSw; (try dsimp only at hSw); obtain ⟨s1, s2, s3⟩ := hSw; go_simp <;> with_reducible rfl)
  try simp only [Act.put, List.setIfInBounds_toArray, List.set_cons_zero, List.set_cons_succ]
  refine e_take (i := 3) (v := ?_) rfl (by kernel_rfl) (by kernel_rfl) (by kernel_rfl) (by kernel_rfl) (fun _ _ _ h => h) (Or.inl ⟨by rfl, ?_⟩) (by assumption) ?_
  rotate_left
  · (intro wS hSw; (try dsimp only at hSw); obtain ⟨s1, s2, s3⟩ := hSw; go_simp <;> with_reducible rfl)
  try simp only [Act.put, List.setIfInBounds_toArray, List.set_cons_zero, List.set_cons_succ]
  refine e_take (i := 4) (v := ?_) rfl (by kernel_rfl) (by kernel_rfl) (by kernel_rfl) (by kernel_rfl) (fun _ _ _ h => h) (Or.inl ⟨by rfl, ?_⟩) (by assumption) ?_
  rotate_left
  · (intro wS hSw; (try dsimp only at hSw); obtain ⟨s1, s2, s3⟩ := hSw; go_simp <;> with_reducible rfl)
  try simp only [Act.put, List.setIfInBounds_toArray, List.set_cons_zero, List.set_cons_succ]
  refine e_take (i := 5) (v := ?_) rfl (by kernel_rfl) (by kernel_rfl) (by kernel_rfl) (by kernel_rfl) (fun _ _ _ h => h) (Or.inl ⟨by rfl, ?_⟩) (by assumption) ?_
  rotate_left
  · (intro wS hSw; (try dsimp only at hSw); obtain ⟨s1, s2, s3⟩ := hSw; go_simp <;> with_reducible rfl)
  try simp only [Act.put, List.setIfInBounds_toArray, List.set_cons_zero, List.set_cons_succ]
  refine e_take (i := 6) (v := ?_) rfl (by kernel_rfl) (by kernel_rfl) (by kernel_rfl) (by kernel_rfl) (fun _ _ _ h => h) (Or.inl ⟨by rfl, ?_⟩) (by assumption) ?_
  rotate_left
  · (intro wS hSw; (try dsimp only at hSw); obtain ⟨s1, s2, s3⟩ := hSw; go_simp <;> with_reducible rfl)
  try simp only [Act.put, List.setIfInBounds_toArray, List.set_cons_zero, List.set_cons_succ]
  refine e_take (i := 7) (v := ?_) rfl (by kernel_rfl) (by kernel_rfl) (by kernel_rfl) (by kernel_rfl) (fun _ _ _ h => h) (Or.inl ⟨by rfl, ?_⟩) (by assumption) ?_
  rotate_left
  · (intro wS hSw; (try dsimp only at hSw); obtain ⟨s1, s2, s3⟩ := hSw; go_simp <;> with_reducible rfl)
  try simp only [Act.put, List.setIfInBounds_toArray, List.set_cons_zero, List.set_cons_succ]
  refine e_take (i := 8) (v := ?_) rfl (by kernel_rfl) (by kernel_rfl) (by kernel_rfl) (by kernel_rfl) (fun _ _ _ h => h) (Or.inl ⟨by rfl, ?_⟩) (by assumption) ?_
  rotate_left
  · (intro wS hSw; (try dsimp only at hSw); obtain ⟨s1, s2, s3⟩ := hSw; go_simp <;> with_reducible rfl)
  try simp only [Act.put, List.setIfInBounds_toArray, List.set_cons_zero, List.set_cons_succ]
  refine e_two (i := 9) (j := 14) (by kernel_rfl) rfl rfl rfl rfl (fun K hK => ?_) (fun K hK => ?_)
  · go_simp
    refine QA.out.mono ?_
    rintro e w8 ⟨xs, xt, xv, xf, xa, xn, xc, ya, yn, yc, z1, z2, rfl, hz, n0, HK, QD⟩
    try simp only [go_sem]
    refine hK _ _ (Or.inr n0) ?_
    try simp only [Act.put, List.setIfInBounds_toArray, List.set_cons_zero, List.set_cons_succ]
    have hS8 := n0
    refine e_take (i := 10) (v := ?_) rfl (by kernel_rfl) (by kernel_rfl) (by kernel_rfl) (by kernel_rfl) (fun _ _ _ h => h) (Or.inl ⟨by rfl, ?_⟩) (by assumption) ?_
    rotate_left
    · (intro wS hSw; (try dsimp only at hSw); obtain ⟨s1, s2, s3⟩ := hSw; go_simp <;> with_reducible rfl)
    try simp only [Act.put, List.setIfInBounds_toArray, List.set_cons_zero, List.set_cons_succ]
    refine e_take (i := 11) (v := ?_) rfl (by kernel_rfl) (by kernel_rfl) (by kernel_rfl) (by kernel_rfl) (fun _ _ _ h => h) (Or.inl ⟨by rfl, ?_⟩) (by assumption) ?_
    rotate_left
    · (intro wS hSw; (try dsimp only at hSw); obtain ⟨s1, s2, s3⟩ := hSw; go_simp <;> with_reducible rfl)
    try simp only [Act.put, List.setIfInBounds_toArray, List.set_cons_zero, List.set_cons_succ]
    refine e_take (i := 12) (v := ?_) rfl (by kernel_rfl) (by kernel_rfl) (by kernel_rfl) (by kernel_rfl) (fun _ _ _ h => h) (Or.inl ⟨by rfl, ?_⟩) (by assumption) ?_
    rotate_left
    · (intro wS hSw; (try dsimp only at hSw); obtain ⟨s1, s2, s3⟩ := hSw; go_simp <;> with_reducible rfl)
    try simp only [Act.put, List.setIfInBounds_toArray, List.set_cons_zero, List.set_cons_succ]
    refine e_take (i := 13) (v := ?_) rfl (by kernel_rfl) (by kernel_rfl) (by kernel_rfl) (by kernel_rfl) (fun _ _ _ h => h) (Or.inl ⟨by rfl, ?_⟩) (by assumption) ?_
    rotate_left
    · (intro wS hSw; (try dsimp only at hSw); obtain ⟨s1, s2, s3⟩ := hSw; go_simp <;> with_reducible rfl)
    try simp only [Act.put, List.setIfInBounds_toArray, List.set_cons_zero, List.set_cons_succ]
    refine e_one (i := 14) (by kernel_rfl) rfl rfl (fun K hK => ?_)
    go_simp
    refine hK _ _ (Or.inr ⟨(Kept.alloc (fun _ => False) _ _).cell n0.1 (fun e => e), (Kept.alloc (fun _ => False) _ _).cell n0.2.1 (fun e => e), (Kept.alloc (fun _ => False) _ _).cell n0.2.2 (fun e => e)⟩) ?_
    try simp only [Act.put, List.setIfInBounds_toArray, List.set_cons_zero, List.set_cons_succ]
    have hSA := (And.intro ((Kept.alloc (fun _ => False) w8 (.cells #[.bool false, .int .i64 0, .int .i64 0, .int .i64 0, .slice none 0 0, .slice none 0 0] 35)).cell n0.1 (fun e => e)) (And.intro ((Kept.alloc (fun _ => False) w8 (.cells #[.bool false, .int .i64 0, .int .i64 0, .int .i64 0, .slice none 0 0, .slice none 0 0] 35)).cell n0.2.1 (fun e => e)) ((Kept.alloc (fun _ => False) w8 (.cells #[.bool false, .int .i64 0, .int .i64 0, .int .i64 0, .slice none 0 0, .slice none 0 0] 35)).cell n0.2.2 (fun e => e))))
    refine e_take (i := 15) (v := ?_) rfl (by kernel_rfl) (by kernel_rfl) (by kernel_rfl) (by kernel_rfl) (fun _ _ _ h => h) (Or.inl ⟨by rfl, ?_⟩) (by assumption) ?_
    rotate_left
    · (intro wS hSw; (try dsimp only at hSw); obtain ⟨s1, s2, s3⟩ := hSw; go_simp <;> with_reducible rfl)
    try simp only [Act.put, List.setIfInBounds_toArray, List.set_cons_zero, List.set_cons_succ]
    refine e_take (i := 16) (v := ?_) rfl (by kernel_rfl) (by kernel_rfl) (by kernel_rfl) (by kernel_rfl) (fun _ _ _ h => h) (Or.inl ⟨by rfl, ?_⟩) (by assumption) ?_
    rotate_left
    · (intro wS hSw; (try dsimp only at hSw); obtain ⟨s1, s2, s3⟩ := hSw; go_simp <;> with_reducible rfl)
    try simp only [Act.put, List.setIfInBounds_toArray, List.set_cons_zero, List.set_cons_succ]
    refine e_one (i := 17) (by kernel_rfl) rfl rfl (fun K hK => ?_)
    go_simp
    refine hK _ _ (Or.inl (by simp)) ?_
    try simp only [Act.put, List.setIfInBounds_toArray, List.set_cons_zero, List.set_cons_succ]
    refine e_done (by kernel_rfl) ?_ _
    obtain ⟨U, hU⟩ : ∃ U, U = w8.alloc (.cells #[.bool xs, .int .i64 xt, .int .i64 xv, .int .i64 xf, .slice xa xn xc, .slice ya yn yc] 35) := ⟨_, rfl⟩
    obtain ⟨k0, k1, k2, k3, k4, k5⟩ := ocell6 (show U.heap[w8.heap.size]? = some (.cells #[.bool xs, .int .i64 xt, .int .i64 xv, .int .i64 xf, .slice xa xn xc, .slice ya yn yc] 35 (0, 0)) by rw [hU]; exact box_new w8 _)
    have QDU := Lib.hid (QD.out U (by rw [hU]; exact Kept.below (below_new w8 _)))
    rw [← hU]
    clear hU QD n0 hS8 hSA hS p0 p1 p2 p3 x0 xr
    go_wp2_with ((with_reducible refine QDU.out.mono ?_); rintro e w9 ⟨rfl, HM⟩)
    go_ret
    obtain ⟨t9, m9, q1, q2, q3⟩ := HM.out
    exact ⟨rfl, Lib.hid ⟨t9, m9, fun j hj => q1 j (Nat.lt_of_lt_of_le hj HB1.out.size), q2, ((Kept.below HB1.out).trans (Kept.drew (fun _ => False) _) (fun _ _ e => e.elim)).trans q3 (fun _ _ e => e.elim (fun e => e) (fun e => e.elim))⟩⟩
  · go_simp
    refine hK _ _ (Or.inr ⟨(Kept.alloc (fun _ => False) _ _).cell x0 (fun e => e), (Kept.alloc (fun _ => False) _ _).cell xr (fun e => e), (Kept.alloc (fun _ => False) _ _).cell p3 (fun e => e)⟩) ?_
    try simp only [Act.put, List.setIfInBounds_toArray, List.set_cons_zero, List.set_cons_succ]
    refine e_one (i := 9) (by kernel_rfl) rfl rfl (fun K hK => ?_)
    go_simp
    refine QB.out.mono ?_
    rintro e w8 ⟨xs, xt, xv, xf, xa, xn, xc, ya, yn, yc, z1, z2, rfl, hz, n0, HK, QD⟩
    try simp only [go_sem]
    refine hK _ _ (Or.inr n0) ?_
    try simp only [Act.put, List.setIfInBounds_toArray, List.set_cons_zero, List.set_cons_succ]
    have hS8 := n0
    refine e_take (i := 10) (v := ?_) rfl (by kernel_rfl) (by kernel_rfl) (by kernel_rfl) (by kernel_rfl) (fun _ _ _ h => h) (Or.inl ⟨by rfl, ?_⟩) (by assumption) ?_
    rotate_left
    · (intro wS hSw; (try dsimp only at hSw); obtain ⟨s1, s2, s3⟩ := hSw; go_simp <;> with_reducible rfl)
    try simp only [Act.put, List.setIfInBounds_toArray, List.set_cons_zero, List.set_cons_succ]
    refine e_take (i := 11) (v := ?_) rfl (by kernel_rfl) (by kernel_rfl) (by kernel_rfl) (by kernel_rfl) (fun _ _ _ h => h) (Or.inl ⟨by rfl, ?_⟩) (by assumption) ?_
    rotate_left
    · (intro wS hSw; (try dsimp only at hSw); obtain ⟨s1, s2, s3⟩ := hSw; go_simp <;> with_reducible rfl)
    try simp only [Act.put, List.setIfInBounds_toArray, List.set_cons_zero, List.set_cons_succ]
    refine e_take (i := 12) (v := ?_) rfl (by kernel_rfl) (by kernel_rfl) (by kernel_rfl) (by kernel_rfl) (fun _ _ _ h => h) (Or.inl ⟨by rfl, ?_⟩) (by assumption) ?_
    rotate_left
    · (intro wS hSw; (try dsimp only at hSw); obtain ⟨s1, s2, s3⟩ := hSw; go_simp <;> with_reducible rfl)
    try simp only [Act.put, List.setIfInBounds_toArray, List.set_cons_zero, List.set_cons_succ]
    refine e_take (i := 13) (v := ?_) rfl (by kernel_rfl) (by kernel_rfl) (by kernel_rfl) (by kernel_rfl) (fun _ _ _ h => h) (Or.inl ⟨by rfl, ?_⟩) (by assumption) ?_
    rotate_left
    · (intro wS hSw; (try dsimp only at hSw); obtain ⟨s1, s2, s3⟩ := hSw; go_simp <;> with_reducible rfl)
    try simp only [Act.put, List.setIfInBounds_toArray, List.set_cons_zero, List.set_cons_succ]
    refine e_take (i := 15) (v := ?_) rfl (by kernel_rfl) (by kernel_rfl) (by kernel_rfl) (by kernel_rfl) (fun _ _ _ h => h) (Or.inl ⟨by rfl, ?_⟩) (by assumption) ?_
    rotate_left
    · (intro wS hSw; (try dsimp only at hSw); obtain ⟨s1, s2, s3⟩ := hSw; go_simp <;> with_reducible rfl)
    try simp only [Act.put, List.setIfInBounds_toArray, List.set_cons_zero, List.set_cons_succ]
    refine e_take (i := 16) (v := ?_) rfl (by kernel_rfl) (by kernel_rfl) (by kernel_rfl) (by kernel_rfl) (fun _ _ _ h => h) (Or.inl ⟨by rfl, ?_⟩) (by assumption) ?_
    rotate_left
    · (intro wS hSw; (try dsimp only at hSw); obtain ⟨s1, s2, s3⟩ := hSw; go_simp <;> with_reducible rfl)
    try simp only [Act.put, List.setIfInBounds_toArray, List.set_cons_zero, List.set_cons_succ]
    obtain ⟨u0, u1, u2, u3, u4, u5, uf⟩ := HZ8.out w8 HK.out
    refine e_one (i := 17) (by kernel_rfl) rfl rfl (fun K hK => ?_)
    go_simp
    refine hK _ _ (Or.inl (by simp)) ?_
    try simp only [Act.put, List.setIfInBounds_toArray, List.set_cons_zero, List.set_cons_succ]
    refine e_done (by kernel_rfl) ?_ _
    obtain ⟨U, hU⟩ : ∃ U, U = (((((w8.setCell ⟨W1.heap.size, 0, none⟩ (.bool xs)).setCell ⟨W1.heap.size, 1, none⟩ (.int .i64 xt)).setCell ⟨W1.heap.size, 2, none⟩ (.int .i64 xv)).setCell ⟨W1.heap.size, 3, none⟩ (.int .i64 xf)).setCell ⟨W1.heap.size, 4, none⟩ (.slice xa xn xc)).setCell ⟨W1.heap.size, 5, none⟩ (.slice ya yn yc) := ⟨_, rfl⟩
    obtain ⟨k0, k1, k2, k3, k4, k5⟩ := ocell6 (show U.heap[W1.heap.size]? = some (.cells #[.bool xs, .int .i64 xt, .int .i64 xv, .int .i64 xf, .slice xa xn xc, .slice ya yn yc] 35 (0, 0)) by rw [hU]; exact cells6_set (HBX.out w8 HK.out) _ _ _ _ _ _)
    have QDU := Lib.hid (QD.out U (by rw [hU]; exact kept_set6 w8 W1.heap.size _ _ _ _ _ _))
    rw [← hU]
    clear hU QD n0 hS8 hS p0 p1 p2 p3 x0 xr u0 u1 u2 u3 u4 u5 uf
    go_wp2_with ((with_reducible refine QDU.out.mono ?_); rintro e w9 ⟨rfl, HM⟩)
    go_ret
    obtain ⟨t9, m9, q1, q2, q3⟩ := HM.out
    refine ⟨rfl, Lib.hid ⟨t9, m9, fun j hj => (q1 j ?_).trans (HMK.out j (Nat.lt_of_lt_of_le hj HB1.out.size)), q2, ((Kept.below HB1.out).trans ((Kept.alloc (fun _ => False) W1 (.cells #[.bool false, .int .i64 0, .int .i64 0, .int .i64 0, .slice none 0 0, .slice none 0 0] 35)).trans (Kept.drew (fun _ => False) _) (fun _ _ e => e)) (fun _ _ e => e.elim)).trans q3 (fun j hj e => ?_)⟩⟩
    · show j < (W1.alloc (.cells #[.bool false, .int .i64 0, .int .i64 0, .int .i64 0, .slice none 0 0, .slice none 0 0] 35)).heap.size
      have := HB1.out.size
      simp
      omega
    · rcases e with e | e
      · rw [HMK.out j (Nat.lt_of_lt_of_le hj HB1.out.size)] at e
        exact e
      · have e : j = W1.heap.size := e
        have := HB1.out.size
        omega
set_option linter.unusedSimpArgs false in
set_option maxHeartbeats 4000000 in
theorem step_prop13 {w : World} {b : Nat} {t : Nat → Nat} {x : Cl} {m : CM} (h : CluIs w b t x m) (hn : Nice x) (o : Op8) (hf : Fit8 o) (ht : ∀ j, w.heap.size ≤ j → t j = 0) (hq : o.k % 16 = 13) {x' : Cl} (hx : doneC x (o.n % 3) (proposeR (x.r (o.n % 3)) o.s).1 (proposeR (x.r (o.n % 3)) o.s).2.2.2 = some x') :
    Calls Try.prog 26 #[.pointer (some ⟨b, 0, none⟩), opV8 o] w fun e w' => e = .returned (.bool true) ∧ Hid (Moved w w' b t x') := by
  obtain ⟨W1, hW1⟩ : ∃ W1, W1 = w.alloc (.cells #[.int .i64 o.k, .int .i64 o.n, .int .i64 o.q, .string ⟨o.s.toArray⟩] 37) := ⟨_, rfl⟩
  have hb1 : Below w.heap.size w W1 := by rw [hW1]; exact below_new w _
  have hx1 : W1.heap[w.heap.size]? = some (.cells #[.int .i64 o.k, .int .i64 o.n, .int .i64 o.q, .string ⟨o.s.toArray⟩] 37 (0, 0)) := by rw [hW1]; exact box_new w _
  have p0 : W1.cell? ⟨w.heap.size, 0, none⟩ = some (.int .i64 o.k) := by rw [Lib.cell_of_heap hx1]; rfl
  have p1 : W1.cell? ⟨w.heap.size, 1, none⟩ = some (.int .i64 o.n) := by rw [Lib.cell_of_heap hx1]; rfl
  have p2 : W1.cell? ⟨w.heap.size, 2, none⟩ = some (.int .i64 o.q) := by rw [Lib.cell_of_heap hx1]; rfl
  have p3 : W1.cell? ⟨w.heap.size, 3, none⟩ = some (.string ⟨o.s.toArray⟩) := by rw [Lib.cell_of_heap hx1]; rfl
  obtain ⟨i, hi, hie⟩ : ∃ i : Nat, i < 3 ∧ o.n % 3 = (i : Int) := ⟨(o.n % 3).toNat, by omega, by omega⟩
  have QP := Lib.hid (fun (W : World) => (show Calls Try.prog 48 #[.int .i64 o.n, .int .i64 3] W fun e w' => e = .returned (.int .i64 (i : Int)) ∧ w' = W from by
    have e : pickI o.n 3 = (i : Int) := by unfold pickI; rw [if_neg (by decide)]; exact hie
    rw [← e]
    exact pick_c o.n 3 hf.n (by decide) W))
  have hi3 : (i : Int) < 3 := by omega
  have h1 := h.on hb1
  have hc := h1.c hi
  have HB1 := Lib.hid hb1
  have hb : bits .and .i64 o.k 15 = 13 := (i64_and15 _).trans hq
  rw [hie] at hx
  have hbd : Below W1.heap.size W1 W1.drew := below_drew (Below.refl _ _)
  have hgt : t w.heap.size = 0 := ht _ (Nat.le_refl _)
  have hs1 := hb1.size
  have hgl : w.heap.size < W1.heap.size := box_lt hx1
  have QA := Lib.hid (propose_k (h1.on hbd) hn hi o.s hf.s (fun _ => False) (fun _ e => e.elim) (g := w.heap.size) (box_on hx1 hbd) hgt hx)
  have hmk : ∀ j, j < W1.heap.size → newT W1 t 9 j = t j := fun j hj => newT_old hj
  have hbz : Below W1.heap.size W1 (W1.alloc (.cells #[.bool false, .int .i64 0, .int .i64 0, .int .i64 0, .slice none 0 0, .slice none 0 0] 35)).drew := below_drew (below_new _ _)
  have QB := Lib.hid (propose_k ((h1.mark hmk).on hbz) hn hi o.s hf.s (fun j => j = W1.heap.size) (fun j e => ⟨by rw [e]; show W1.heap.size < (W1.alloc (.cells #[.bool false, .int .i64 0, .int .i64 0, .int .i64 0, .slice none 0 0, .slice none 0 0] 35)).heap.size; simp, by rw [e, newT_new (Nat.le_refl _)]; decide⟩) (g := w.heap.size) (box_on hx1 hbz) ((hmk _ hgl).trans hgt) hx)
  have x0 := hc.x0
  have xr := hc.r
  have HZ8 := Lib.hid (fun (w8 : World) (hk : Kept (fun j => 5 ≤ newT W1 t 9 j ∧ newT W1 t 9 j ≤ 7) (W1.alloc (.cells #[.bool false, .int .i64 0, .int .i64 0, .int .i64 0, .slice none 0 0, .slice none 0 0] 35)).drew w8) => zcells (hk.heap (show (W1.alloc (.cells #[.bool false, .int .i64 0, .int .i64 0, .int .i64 0, .slice none 0 0, .slice none 0 0] 35)).drew.heap[W1.heap.size]? = _ from box_new W1 _) (fun e => by have e9 : newT W1 t 9 W1.heap.size = 9 := newT_new (Nat.le_refl _); omega)))
  have HBX := Lib.hid (fun (w8 : World) (hk : Kept (fun j => 5 ≤ newT W1 t 9 j ∧ newT W1 t 9 j ≤ 7) (W1.alloc (.cells #[.bool false, .int .i64 0, .int .i64 0, .int .i64 0, .slice none 0 0, .slice none 0 0] 35)).drew w8) => hk.heap (show (W1.alloc (.cells #[.bool false, .int .i64 0, .int .i64 0, .int .i64 0, .slice none 0 0, .slice none 0 0] 35)).drew.heap[W1.heap.size]? = _ from box_new W1 _) (fun e => by have e9 : newT W1 t 9 W1.heap.size = 9 := newT_new (Nat.le_refl _); omega))
  have neb : ¬ b = W1.heap.size := by have := h1.lt; omega
  have ner : ¬ m.rb = W1.heap.size := by have := box_lt h1.rbx; omega
  have neg : ¬ w.heap.size = W1.heap.size := by omega
  have HMK := Lib.hid hmk
  have HGL := Lib.hid hs1
  clear hq h1 hc hb1 hx1 hf hn hx h hie hbd hgt ht hmk hbz hs1
  unfold opV8
  go_enter Try.func26, Try.ntmps26
  go_upto_region 1 with fail
  rw [← hW1]
  clear hW1
  go_upto_region 15 with ((with_reducible refine (QP.out _).mono ?_); rintro e w5 ⟨rfl, hw⟩; rw [hw]; clear hw)
  refine e_start [17] (fun w' => w'.cell? ⟨b, 0, none⟩ = some (.slice (some ⟨m.rb, 0, none⟩) 3 m.rc) ∧ w'.cell? ⟨m.rb, i, none⟩ = some (.pointer (some ⟨m.p i, 0, none⟩)) ∧ w'.cell? ⟨w.heap.size, 3, none⟩ = some (.string ⟨o.s.toArray⟩)) (by kernel_rfl) ⟨x0, xr, p3⟩ (fun hS => ?_)
  refine e_take (i := 0) (v := ?_) rfl (by kernel_rfl) (by kernel_rfl) (by kernel_rfl) (by kernel_rfl) (fun _ _ _ h => h) (Or.inl ⟨by rfl, ?_⟩) (by assumption) ?_
  rotate_left
  · (intro wS hSw; (try dsimp only at hSw); obtain ⟨s1, s2, s3⟩ := hSw; go_simp <;> with_reducible rfl)
  try simp only [Act.put, List.setIfInBounds_toArray, List.set_cons_zero, List.set_cons_succ]
  refine e_take (i := 1) (v := ?_) rfl (by kernel_rfl) (by kernel_rfl) (by kernel_rfl) (by kernel_rfl) (fun _ _ _ h => h) (Or.inl ⟨by rfl, ?_⟩) (by assumption) ?_
  rotate_left
  · (intro wS hSw; (try dsimp only at hSw); obtain ⟨s1, s2, s3⟩ := hSw; go_simp <;> with_reducible rfl)
  try simp only [Act.put, List.setIfInBounds_toArray, List.set_cons_zero, List.set_cons_succ]
  refine e_take (i := 2) (v := ?_) rfl (by kernel_rfl) (by kernel_rfl) (by kernel_rfl) (by kernel_rfl) (fun _ _ _ h => h) (Or.inl ⟨by rfl, ?_⟩) (by assumption) ?_
  rotate_left
  · (intro wS hSw; (try dsimp only at hSw); obtain ⟨s1, s2, s3⟩ := hSw; go_simp <;> with_reducible rfl)
  try simp only [Act.put, List.setIfInBounds_toArray, List.set_cons_zero, List.set_cons_succ]
  refine e_take (i := 3) (v := ?_) rfl (by kernel_rfl) (by kernel_rfl) (by kernel_rfl) (by kernel_rfl) (fun _ _ _ h => h) (Or.inl ⟨by rfl, ?_⟩) (by assumption) ?_
  rotate_left
  · (intro wS hSw; (try dsimp only at hSw); obtain ⟨s1, s2, s3⟩ := hSw; go_simp <;> with_reducible rfl)
  try simp only [Act.put, List.setIfInBounds_toArray, List.set_cons_zero, List.set_cons_succ]
  refine e_take (i := 4) (v := ?_) rfl (by kernel_rfl) (by kernel_rfl) (by kernel_rfl) (by kernel_rfl) (fun _ _ _ h => h) (Or.inl ⟨by rfl, ?_⟩) (by assumption) ?_
  rotate_left
  · (intro wS hSw; (try dsimp only at hSw); obtain ⟨s1, s2, s3⟩ := hSw; go_simp <;> with_reducible rfl)
  try simp only [Act.put, List.setIfInBounds_toArray, List.set_cons_zero, List.set_cons_succ]
  refine e_take (i := 5) (v := ?_) rfl (by kernel_rfl) (by kernel_rfl) (by kernel_rfl) (by kernel_rfl) (fun _ _ _ h => h) (Or.inl ⟨by rfl, ?_⟩) (by assumption) ?_
  rotate_left
  · (intro wS hSw; (try dsimp only at hSw); obtain ⟨s1, s2, s3⟩ := hSw; go_simp <;> with_reducible rfl)
  try simp only [Act.put, List.setIfInBounds_toArray, List.set_cons_zero, List.set_cons_succ]
  refine e_take (i := 6) (v := ?_) rfl (by kernel_rfl) (by kernel_rfl) (by kernel_rfl) (by kernel_rfl) (fun _ _ _ h => h) (Or.inl ⟨by rfl, ?_⟩) (by assumption) ?_
  rotate_left
  · (intro wS hSw; (try dsimp only at hSw); obtain ⟨s1, s2, s3⟩ := hSw; go_simp <;> with_reducible rfl)
  try simp only [Act.put, List.setIfInBounds_toArray, List.set_cons_zero, List.set_cons_succ]
  refine e_take (i := 7) (v := ?_) rfl (by kernel_rfl) (by kernel_rfl) (by kernel_rfl) (by kernel_rfl) (fun _ _ _ h => h) (Or.inl ⟨by rfl, ?_⟩) (by assumption) ?_
  rotate_left
  · (intro wS hSw; (try dsimp only at hSw); obtain ⟨s1, s2, s3⟩ := hSw; go_simp <;> with_reducible rfl)
  try simp only [Act.put, List.setIfInBounds_toArray, List.set_cons_zero, List.set_cons_succ]
  refine e_take (i := 8) (v := ?_) rfl (by kernel_rfl) (by kernel_rfl) (by kernel_rfl) (by kernel_rfl) (fun _ _ _ h => h) (Or.inl ⟨by rfl, ?_⟩) (by assumption) ?_
  rotate_left
  · (intro wS hSw; (try dsimp only at hSw); obtain ⟨s1, s2, s3⟩ := hSw; go_simp <;> with_reducible rfl)
  try simp only [Act.put, List.setIfInBounds_toArray, List.set_cons_zero, List.set_cons_succ]
  refine e_two (i := 9) (j := 14) (by kernel_rfl) rfl rfl rfl rfl (fun K hK => ?_) (fun K hK => ?_)
  · go_simp
    refine QA.out.mono ?_
    rintro e w8 ⟨xs, xt, xv, xf, xa, xn, xc, ya, yn, yc, z1, z2, rfl, hz, n0, HK, QD⟩
    try simp only [go_sem]
    refine hK _ _ (Or.inr n0) ?_
    try simp only [Act.put, List.setIfInBounds_toArray, List.set_cons_zero, List.set_cons_succ]
    have hS8 := n0
    refine e_take (i := 10) (v := ?_) rfl (by kernel_rfl) (by kernel_rfl) (by kernel_rfl) (by kernel_rfl) (fun _ _ _ h => h) (Or.inl ⟨by rfl, ?_⟩) (by assumption) ?_
    rotate_left
    · (intro wS hSw; (try dsimp only at hSw); obtain ⟨s1, s2, s3⟩ := hSw; go_simp <;> with_reducible rfl)
    try simp only [Act.put, List.setIfInBounds_toArray, List.set_cons_zero, List.set_cons_succ]
    refine e_take (i := 11) (v := ?_) rfl (by kernel_rfl) (by kernel_rfl) (by kernel_rfl) (by kernel_rfl) (fun _ _ _ h => h) (Or.inl ⟨by rfl, ?_⟩) (by assumption) ?_
    rotate_left
    · (intro wS hSw; (try dsimp only at hSw); obtain ⟨s1, s2, s3⟩ := hSw; go_simp <;> with_reducible rfl)
    try simp only [Act.put, List.setIfInBounds_toArray, List.set_cons_zero, List.set_cons_succ]
    refine e_take (i := 12) (v := ?_) rfl (by kernel_rfl) (by kernel_rfl) (by kernel_rfl) (by kernel_rfl) (fun _ _ _ h => h) (Or.inl ⟨by rfl, ?_⟩) (by assumption) ?_
    rotate_left
    · (intro wS hSw; (try dsimp only at hSw); obtain ⟨s1, s2, s3⟩ := hSw; go_simp <;> with_reducible rfl)
    try simp only [Act.put, List.setIfInBounds_toArray, List.set_cons_zero, List.set_cons_succ]
    refine e_take (i := 13) (v := ?_) rfl (by kernel_rfl) (by kernel_rfl) (by kernel_rfl) (by kernel_rfl) (fun _ _ _ h => h) (Or.inl ⟨by rfl, ?_⟩) (by assumption) ?_
    rotate_left
    · (intro wS hSw; (try dsimp only at hSw); obtain ⟨s1, s2, s3⟩ := hSw; go_simp <;> with_reducible rfl)
    try simp only [Act.put, List.setIfInBounds_toArray, List.set_cons_zero, List.set_cons_succ]
    refine e_one (i := 14) (by kernel_rfl) rfl rfl (fun K hK => ?_)
    go_simp
    refine hK _ _ (Or.inr ⟨(Kept.alloc (fun _ => False) _ _).cell n0.1 (fun e => e), (Kept.alloc (fun _ => False) _ _).cell n0.2.1 (fun e => e), (Kept.alloc (fun _ => False) _ _).cell n0.2.2 (fun e => e)⟩) ?_
    try simp only [Act.put, List.setIfInBounds_toArray, List.set_cons_zero, List.set_cons_succ]
    have hSA := (And.intro ((Kept.alloc (fun _ => False) w8 (.cells #[.bool false, .int .i64 0, .int .i64 0, .int .i64 0, .slice none 0 0, .slice none 0 0] 35)).cell n0.1 (fun e => e)) (And.intro ((Kept.alloc (fun _ => False) w8 (.cells #[.bool false, .int .i64 0, .int .i64 0, .int .i64 0, .slice none 0 0, .slice none 0 0] 35)).cell n0.2.1 (fun e => e)) ((Kept.alloc (fun _ => False) w8 (.cells #[.bool false, .int .i64 0, .int .i64 0, .int .i64 0, .slice none 0 0, .slice none 0 0] 35)).cell n0.2.2 (fun e => e))))
    refine e_take (i := 15) (v := ?_) rfl (by kernel_rfl) (by kernel_rfl) (by kernel_rfl) (by kernel_rfl) (fun _ _ _ h => h) (Or.inl ⟨by rfl, ?_⟩) (by assumption) ?_
    rotate_left
    · (intro wS hSw; (try dsimp only at hSw); obtain ⟨s1, s2, s3⟩ := hSw; go_simp <;> with_reducible rfl)
    try simp only [Act.put, List.setIfInBounds_toArray, List.set_cons_zero, List.set_cons_succ]
    refine e_take (i := 16) (v := ?_) rfl (by kernel_rfl) (by kernel_rfl) (by kernel_rfl) (by kernel_rfl) (fun _ _ _ h => h) (Or.inl ⟨by rfl, ?_⟩) (by assumption) ?_
    rotate_left
    · (intro wS hSw; (try dsimp only at hSw); obtain ⟨s1, s2, s3⟩ := hSw; go_simp <;> with_reducible rfl)
    try simp only [Act.put, List.setIfInBounds_toArray, List.set_cons_zero, List.set_cons_succ]
    refine e_one (i := 17) (by kernel_rfl) rfl rfl (fun K hK => ?_)
    go_simp
    refine hK _ _ (Or.inl (by simp)) ?_
    try simp only [Act.put, List.setIfInBounds_toArray, List.set_cons_zero, List.set_cons_succ]
    refine e_done (by kernel_rfl) ?_ _
    obtain ⟨U, hU⟩ : ∃ U, U = w8.alloc (.cells #[.bool xs, .int .i64 xt, .int .i64 xv, .int .i64 xf, .slice xa xn xc, .slice ya yn yc] 35) := ⟨_, rfl⟩
    obtain ⟨k0, k1, k2, k3, k4, k5⟩ := ocell6 (show U.heap[w8.heap.size]? = some (.cells #[.bool xs, .int .i64 xt, .int .i64 xv, .int .i64 xf, .slice xa xn xc, .slice ya yn yc] 35 (0, 0)) by rw [hU]; exact box_new w8 _)
    have QDU := Lib.hid (QD.out U (by rw [hU]; exact Kept.below (below_new w8 _)))
    rw [← hU]
    clear hU QD n0 hS8 hSA hS p0 p1 p2 p3 x0 xr
    go_wp2_with ((with_reducible refine QDU.out.mono ?_); rintro e w9 ⟨rfl, HM⟩)
    go_ret
    obtain ⟨t9, m9, q1, q2, q3⟩ := HM.out
    exact ⟨rfl, Lib.hid ⟨t9, m9, fun j hj => q1 j (Nat.lt_of_lt_of_le hj HB1.out.size), q2, ((Kept.below HB1.out).trans (Kept.drew (fun _ => False) _) (fun _ _ e => e.elim)).trans q3 (fun _ _ e => e.elim (fun e => e) (fun e => e.elim))⟩⟩
  · go_simp
    refine hK _ _ (Or.inr ⟨(Kept.alloc (fun _ => False) _ _).cell x0 (fun e => e), (Kept.alloc (fun _ => False) _ _).cell xr (fun e => e), (Kept.alloc (fun _ => False) _ _).cell p3 (fun e => e)⟩) ?_
    try simp only [Act.put, List.setIfInBounds_toArray, List.set_cons_zero, List.set_cons_succ]
    refine e_one (i := 9) (by kernel_rfl) rfl rfl (fun K hK => ?_)
    go_simp
    refine QB.out.mono ?_
    rintro e w8 ⟨xs, xt, xv, xf, xa, xn, xc, ya, yn, yc, z1, z2, rfl, hz, n0, HK, QD⟩
    try simp only [go_sem]
    refine hK _ _ (Or.inr n0) ?_
    try simp only [Act.put, List.setIfInBounds_toArray, List.set_cons_zero, List.set_cons_succ]
    have hS8 := n0
    refine e_take (i := 10) (v := ?_) rfl (by kernel_rfl) (by kernel_rfl) (by kernel_rfl) (by kernel_rfl) (fun _ _ _ h => h) (Or.inl ⟨by rfl, ?_⟩) (by assumption) ?_
    rotate_left
    · (intro wS hSw; (try dsimp only at hSw); obtain ⟨s1, s2, s3⟩ := hSw; go_simp <;> with_reducible rfl)
    try simp only [Act.put, List.setIfInBounds_toArray, List.set_cons_zero, List.set_cons_succ]
    refine e_take (i := 11) (v := ?_) rfl (by kernel_rfl) (by kernel_rfl) (by kernel_rfl) (by kernel_rfl) (fun _ _ _ h => h) (Or.inl ⟨by rfl, ?_⟩) (by assumption) ?_
    rotate_left
    · (intro wS hSw; (try dsimp only at hSw); obtain ⟨s1, s2, s3⟩ := hSw; go_simp <;> with_reducible rfl)
    try simp only [Act.put, List.setIfInBounds_toArray, List.set_cons_zero, List.set_cons_succ]
    refine e_take (i := 12) (v := ?_) rfl (by kernel_rfl) (by kernel_rfl) (by kernel_rfl) (by kernel_rfl) (fun _ _ _ h => h) (Or.inl ⟨by rfl, ?_⟩) (by assumption) ?_
    rotate_left
    · (intro wS hSw; (try dsimp only at hSw); obtain ⟨s1, s2, s3⟩ := hSw; go_simp <;> with_reducible rfl)
    try simp only [Act.put, List.setIfInBounds_toArray, List.set_cons_zero, List.set_cons_succ]
    refine e_take (i := 13) (v := ?_) rfl (by kernel_rfl) (by kernel_rfl) (by kernel_rfl) (by kernel_rfl) (fun _ _ _ h => h) (Or.inl ⟨by rfl, ?_⟩) (by assumption) ?_
    rotate_left
    · (intro wS hSw; (try dsimp only at hSw); obtain ⟨s1, s2, s3⟩ := hSw; go_simp <;> with_reducible rfl)
    try simp only [Act.put, List.setIfInBounds_toArray, List.set_cons_zero, List.set_cons_succ]
    refine e_take (i := 15) (v := ?_) rfl (by kernel_rfl) (by kernel_rfl) (by kernel_rfl) (by kernel_rfl) (fun _ _ _ h => h) (Or.inl ⟨by rfl, ?_⟩) (by assumption) ?_
    rotate_left
    · (intro wS hSw; (try dsimp only at hSw); obtain ⟨s1, s2, s3⟩ := hSw; go_simp <;> with_reducible rfl)
    try simp only [Act.put, List.setIfInBounds_toArray, List.set_cons_zero, List.set_cons_succ]
    refine e_take (i := 16) (v := ?_) rfl (by kernel_rfl) (by kernel_rfl) (by kernel_rfl) (by kernel_rfl) (fun _ _ _ h => h) (Or.inl ⟨by rfl, ?_⟩) (by assumption) ?_
    rotate_left
    · (intro wS hSw; (try dsimp only at hSw); obtain ⟨s1, s2, s3⟩ := hSw; go_simp <;> with_reducible rfl)
    try simp only [Act.put, List.setIfInBounds_toArray, List.set_cons_zero, List.set_cons_succ]
    obtain ⟨u0, u1, u2, u3, u4, u5, uf⟩ := HZ8.out w8 HK.out
    refine e_one (i := 17) (by kernel_rfl) rfl rfl (fun K hK => ?_)
    go_simp
    refine hK _ _ (Or.inl (by simp)) ?_
    try simp only [Act.put, List.setIfInBounds_toArray, List.set_cons_zero, List.set_cons_succ]
    refine e_done (by kernel_rfl) ?_ _
    obtain ⟨U, hU⟩ : ∃ U, U = (((((w8.setCell ⟨W1.heap.size, 0, none⟩ (.bool xs)).setCell ⟨W1.heap.size, 1, none⟩ (.int .i64 xt)).setCell ⟨W1.heap.size, 2, none⟩ (.int .i64 xv)).setCell ⟨W1.heap.size, 3, none⟩ (.int .i64 xf)).setCell ⟨W1.heap.size, 4, none⟩ (.slice xa xn xc)).setCell ⟨W1.heap.size, 5, none⟩ (.slice ya yn yc) := ⟨_, rfl⟩
    obtain ⟨k0, k1, k2, k3, k4, k5⟩ := ocell6 (show U.heap[W1.heap.size]? = some (.cells #[.bool xs, .int .i64 xt, .int .i64 xv, .int .i64 xf, .slice xa xn xc, .slice ya yn yc] 35 (0, 0)) by rw [hU]; exact cells6_set (HBX.out w8 HK.out) _ _ _ _ _ _)
    have QDU := Lib.hid (QD.out U (by rw [hU]; exact kept_set6 w8 W1.heap.size _ _ _ _ _ _))
    rw [← hU]
    clear hU QD n0 hS8 hS p0 p1 p2 p3 x0 xr u0 u1 u2 u3 u4 u5 uf
    go_wp2_with ((with_reducible refine QDU.out.mono ?_); rintro e w9 ⟨rfl, HM⟩)
    go_ret
    obtain ⟨t9, m9, q1, q2, q3⟩ := HM.out
    refine ⟨rfl, Lib.hid ⟨t9, m9, fun j hj => (q1 j ?_).trans (HMK.out j (Nat.lt_of_lt_of_le hj HB1.out.size)), q2, ((Kept.below HB1.out).trans ((Kept.alloc (fun _ => False) W1 (.cells #[.bool false, .int .i64 0, .int .i64 0, .int .i64 0, .slice none 0 0, .slice none 0 0] 35)).trans (Kept.drew (fun _ => False) _) (fun _ _ e => e)) (fun _ _ e => e.elim)).trans q3 (fun j hj e => ?_)⟩⟩
    · show j < (W1.alloc (.cells #[.bool false, .int .i64 0, .int .i64 0, .int .i64 0, .slice none 0 0, .slice none 0 0] 35)).heap.size
      have := HB1.out.size
      simp
      omega
    · rcases e with e | e
      · rw [HMK.out j (Nat.lt_of_lt_of_le hj HB1.out.size)] at e
        exact e
      · have e : j = W1.heap.size := e
        have := HB1.out.size
        omega
/-- An operation. -/
theorem step_c {w : World} {b : Nat} {t : Nat → Nat} {x : Cl} {m : CM} (h : CluIs w b t x m) (hn : Nice x) (o : Op8) (hf : Fit8 o) {x' : Cl} (hx : stepC x (o.k % 16) o.n o.q o.s = some x') : Calls Try.prog 26 #[.pointer (some ⟨b, 0, none⟩), opV8 o] w fun e w' => e = .returned (.bool true) ∧ Hid (Moved w w' b t x') := by
  unfold stepC at hx
  split at hx
  · next q =>
    have e := (Option.some.inj hx).symm
    by_cases h0 : x.sent.length = 0
    · exact step_lose0 h o hf q h0 (e.trans (step_lose0_eq h0 _))
    · exact step_lose1 h hn o hf q (by omega) e
  split at hx
  · next q => exact step_keep h hn o hf q hx
  split at hx
  · next q =>
    rcases q with q | q
    · exact step_tick10 h hn o hf q hx
    · exact step_tick11 h hn o hf q hx
  split at hx
  · next q =>
    have hT : ∀ {t1 : Nat → Nat}, (∀ j, j < w.heap.size → t1 j = t j) → ∀ (e : Ending) (w' : World), (e = .returned (.bool true) ∧ Hid (Moved w w' b t1 x')) → (e = .returned (.bool true) ∧ Hid (Moved w w' b t x')) := fun he e w' hh => ⟨hh.1, Lib.hid (hh.2.out.turn he)⟩
    rcases q with q | q
    · exact (step_prop12 (h.mark (fun j hj => newT_old (n := 0) hj)) hn o hf (fun j hj => newT_new hj) q hx).mono (hT (fun j hj => newT_old hj))
    · exact (step_prop13 (h.mark (fun j hj => newT_old (n := 0) hj)) hn o hf (fun j hj => newT_new hj) q hx).mono (hT (fun j hj => newT_old hj))
  split at hx
  · next q => exact step_start h hn o hf q hx
  split at hx
  · next q => exact step_stop h o hf q (Option.some.inj hx).symm
  · exact step_else h hn o hf (by omega) hx
end Go.Proofs.Ytoghaogcekappaa
