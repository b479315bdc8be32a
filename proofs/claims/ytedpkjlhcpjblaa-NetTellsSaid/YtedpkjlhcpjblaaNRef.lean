/-
  The reference's network in a heap: what its methods return and leave is what the same model says.
-/
import Derived.Test.YtedpkjlhcpjblaaNCuts
import Derived.BigRegion
namespace Go.Proofs.Ytedpkjlhcpjblaa
set_option maxRecDepth 100000
open Go Go.RowKit Nt

/-- The network in block b. -/
structure RefAt (w : World) (b : Nat) (lv : Value) (n : N) : Prop where
  blk : w.heap[b]? = some (.cells #[lv, .int .i64 n.m] 29 (0, 0))
  row : PkRow w 0 lv n.l
  apart : lv.ownBlock ≠ some b
theorem RefAt.c0 {w : World} {b : Nat} {lv : Value} {n : N} (h : RefAt w b lv n) : w.cell? ⟨b, 0, none⟩ = some lv := by rw [Lib.cell_of_heap h.blk]; rfl
theorem RefAt.c1 {w : World} {b : Nat} {lv : Value} {n : N} (h : RefAt w b lv n) : w.cell? ⟨b, 1, none⟩ = some (.int .i64 n.m) := by rw [Lib.cell_of_heap h.blk]; rfl
theorem RefAt.z {w : World} {b : Nat} {lv : Value} {n : N} (h : RefAt w b lv n) (o : Nat) : w.frozen? ⟨b, o, none⟩ = false := Lib.frozen_of_heap h.blk o
theorem RefAt.lt {w : World} {b : Nat} {lv : Value} {n : N} (h : RefAt w b lv n) : b < w.heap.size := (Array.getElem?_eq_some_iff.1 h.blk).1
theorem RefAt.kept {w w' : World} {b : Nat} {lv : Value} {n : N} {S : Nat → Prop} (h : RefAt w b lv n) (hk : Kept S w w') (hb : ¬ S b) (hl : ∀ k, lv.ownBlock = some k → ¬ S k) : RefAt w' b lv n :=
  ⟨hk.heap h.blk hb, h.row.kept hk hl, h.apart⟩
theorem RefAt.on {w w' : World} {b : Nat} {lv : Value} {n : N} (h : RefAt w b lv n) (hb : Below w.heap.size w w') : RefAt w' b lv n := h.kept (Kept.below (S := fun _ => False) hb) (fun e => e) (fun _ _ e => e)

/-- What an operation leaves of the reference's network: its list may lie in another block of its own, or in a new one. -/
def RTurned (w w' : World) (b : Nat) (lv : Value) (n' : N) : Prop := ∃ lv', RefAt w' b lv' n' ∧ (∀ k, lv'.ownBlock = some k → lv.ownBlock = some k ∨ w.heap.size ≤ k) ∧ Kept (fun k => k = b ∨ lv.ownBlock = some k) w w'
theorem RefAt.same {w w' : World} {b : Nat} {lv : Value} {n : N} (h : RefAt w b lv n) (hb : Below w.heap.size w w') : RTurned w w' b lv n := ⟨lv, h.on hb, fun _ e => Or.inl e, Kept.below hb⟩
theorem RTurned.from {w0 w w' : World} {b : Nat} {lv : Value} {n : N} (h : RTurned w w' b lv n) (hb : Below w0.heap.size w0 w) : RTurned w0 w' b lv n := by
  obtain ⟨lv', h1, h2, h3⟩ := h
  exact ⟨lv', h1, fun k e => (h2 k e).imp id (Nat.le_trans hb.size), (Kept.below hb).trans h3 (fun _ _ e => e)⟩
/-- Another list is put into the network. -/
theorem RefAt.put {w w1 : World} {b : Nat} {lv : Value} {n : N} (h : RefAt w b lv n) (hk : Kept (fun k => lv.ownBlock = some k) w w1) {lv' : Value} {l' : List Pk} (hr : PkRow w1 0 lv' l') (hb : ∀ k, lv'.ownBlock = some k → lv.ownBlock = some k ∨ w.heap.size ≤ k) :
    RTurned w (w1.setCell ⟨b, 0, none⟩ lv') b lv ⟨l', n.m⟩ := by
  have hb1 := hk.heap h.blk h.apart
  have hk2 := Kept.set b 0 w1 lv'
  have hne : lv'.ownBlock ≠ some b := fun e => by
    rcases hb b e with hb | hb
    · exact h.apart hb
    · have := h.lt; omega
  refine ⟨lv', ⟨(cells2_set hb1 lv').1, hr.kept hk2 (fun k e e' => hne (by rw [e, e'])), hne⟩, hb, ?_⟩
  exact (hk.mono (S' := fun k => k = b ∨ lv.ownBlock = some k) (fun _ _ e => Or.inr e)).trans hk2 (fun _ _ e => Or.inl e)
/-- Blocks that were made on the way are turned at the end. -/
theorem RTurned.far {w W1 w2 w3 : World} {b : Nat} {lv : Value} {n' : N} {S : Nat → Prop} (h : RTurned W1 w2 b lv n') (hb : Below w.heap.size w W1) (hk : Kept S w2 w3) (hS : ∀ k, S k → w.heap.size ≤ k ∧ k < W1.heap.size) (hlt : b < w.heap.size) (hl : ∀ k, lv.ownBlock = some k → k < w.heap.size) : RTurned w w3 b lv n' := by
  obtain ⟨lv', h1, h2, h3⟩ := h
  refine ⟨lv', h1.kept hk (fun e => by have := (hS _ e).1; omega) (fun k e e' => ?_), fun k e => (h2 k e).imp id (Nat.le_trans hb.size), ?_⟩
  · rcases h2 k e with h2 | h2
    · have := hl k h2; have := (hS _ e').1; omega
    · have := (hS _ e').2; omega
  · exact ((Kept.below hb).trans h3 (fun _ _ e => e)).trans hk (fun k hk' e => by have := (hS _ e).1; omega)
theorem RefAt.resplit {w : World} {b : Nat} {lv : Value} {n : N} (h : RefAt w b lv n) (m : Int) : RTurned w (w.setCell ⟨b, 1, none⟩ (.int .i64 m)) b lv ⟨n.l, m⟩ := by
  have hk := Kept.set b 1 w (.int .i64 m)
  exact ⟨lv, ⟨(cells2_set h.blk _).2, h.row.kept hk (fun k e e' => h.apart (by rw [e, e'])), h.apart⟩, fun _ e => Or.inl e, hk.mono (fun _ _ e => Or.inl e)⟩

theorem rside_c {w : World} {b : Nat} {lv : Value} {n : N} (h : RefAt w b lv n) (a : Int) (ha : isEnd a = true) : Calls Try.prog 34 #[.pointer (some ⟨b, 0, none⟩), .int .i64 a] w fun e w' => e = .returned (.int .i64 (side n.m a)) ∧ w' = w := by
  have c1 := h.c1
  obtain ⟨h0, h1⟩ := isEnd_iff.1 ha
  have h2 : ¬ a < 0 := by omega
  have hq : bits .and .i64 (n.m / 2 ^ a.toNat) 1 = side n.m a := i64_and1 _
  clear h
  go_enter Try.func34, Try.ntmps34
  go_wp2_with fail
  go_ret
  exact ⟨by rw [← hq]; rfl, rfl⟩
set_option maxHeartbeats 1000000 in
theorem rhear_c {w : World} {b : Nat} {lv : Value} {n : N} (h : RefAt w b lv n) (x y : Int) : Calls Try.prog 16 #[.pointer (some ⟨b, 0, none⟩), .int .i64 x, .int .i64 y] w fun e w' => e = .returned (.bool (hear n.m x y)) ∧ w' = w := by
  have S := Lib.hid (fun z hz => rside_c h z hz)
  by_cases hx : isEnd x = true
  · obtain ⟨x0, x1⟩ := isEnd_iff.1 hx
    by_cases hy : isEnd y = true
    · obtain ⟨y0, y1⟩ := isEnd_iff.1 hy
      have hr : hear n.m x y = (side n.m x == side n.m y) := by unfold hear; rw [hx, hy]; rfl
      rw [hr]
      have HX := Lib.hid hx
      have HY := Lib.hid hy
      have x2 : ¬ x < 0 := by omega
      have x3 : ¬ 15 < x := by omega
      have y2 : ¬ y < 0 := by omega
      have y3 : ¬ 15 < y := by omega
      clear h hr hx hy
      go_enter Try.func16, Try.ntmps16
      go_wp2_with (go_at_call 34; refine (S.out _ (by first | exact HX.out | exact HY.out)).mono ?_; rintro e w1 ⟨rfl, hw⟩; rw [hw]; clear hw)
      go_ret
      exact ⟨rfl, rfl⟩
    · have hr : hear n.m x y = false := by unfold hear; rw [hx]; simp [hy]
      have hy' : y < 0 ∨ 15 < y := by
        have : ¬ (0 ≤ y ∧ y ≤ 15) := fun h => hy (isEnd_iff.2 h)
        omega
      rw [hr]
      have x2 : ¬ x < 0 := by omega
      have x3 : ¬ 15 < x := by omega
      clear h hr hx hy S
      by_cases y2 : y < 0
      · clear hy'
        go_enter Try.func16, Try.ntmps16
        go_wp2_with fail
        go_ret
        exact ⟨rfl, rfl⟩
      · have y3 : 15 < y := by omega
        clear hy'
        go_enter Try.func16, Try.ntmps16
        go_wp2_with fail
        go_ret
        exact ⟨rfl, rfl⟩
  · have hr : hear n.m x y = false := by unfold hear; simp [hx]
    have hx' : x < 0 ∨ 15 < x := by
      have : ¬ (0 ≤ x ∧ x ≤ 15) := fun h => hx (isEnd_iff.2 h)
      omega
    rw [hr]
    clear h hr hx S
    by_cases x2 : x < 0
    · clear hx'
      go_enter Try.func16, Try.ntmps16
      go_wp2_with fail
      go_ret
      exact ⟨rfl, rfl⟩
    · have x3 : 15 < x := by omega
      clear hx'
      go_enter Try.func16, Try.ntmps16
      go_wp2_with fail
      go_ret
      exact ⟨rfl, rfl⟩
theorem rsplit_c {w : World} {b : Nat} {lv : Value} {n : N} (h : RefAt w b lv n) (mask : Int) : Calls Try.prog 30 #[.pointer (some ⟨b, 0, none⟩), .int .i64 mask] w fun e w' => e = .returned (.tuple #[]) ∧ RTurned w w' b lv (split n mask) := by
  have c1 := h.c1
  have z1 := h.z 1
  have hq : bits .and .i64 mask 65535 = mask % 65536 := i64_and65535 _
  have HE := Lib.hid (h.resplit (mask % 65536))
  clear h
  go_enter Try.func30, Try.ntmps30
  go_wp2_with fail
  go_end0
  exact ⟨rfl, HE.out⟩


/-! ### A packet taken out -/
set_option maxHeartbeats 2000000 in
theorem remove_c {w : World} {b : Nat} {lv : Value} {n : N} (h : RefAt w b lv n) (hl : n.l.length ≤ 500) (k : Nat) (hk : k < n.l.length) : Calls Try.prog 38 #[.pointer (some ⟨b, 0, none⟩), .int .i64 (k : Int)] w fun e w' => e = .returned (.tuple #[]) ∧ RTurned w w' b lv ⟨cut n.l k, n.m⟩ := by
  obtain ⟨a, c, rfl, _⟩ := h.row.shape
  obtain ⟨J, A, D, E, a1, c1, W1, a2, K2, c2, W2, hcr⟩ := cut_run h.row hk (by omega)
  have hsto := hcr.sto
  have hsfr := hcr.sfrom
  have hwr := hcr.wrap
  have hb2 := hcr.below
  have hk2 : Kept (fun k => (Value.slice a n.l.length c).ownBlock = some k) w W2 := Kept.below hb2
  have hend := h.put hk2 (lv' := .slice a2 K2 c2) (l' := cut n.l k) (hcr.row.low (Nat.zero_le _)) (fun y e => Or.inr (hcr.row.above e))
  have c0 := h.c0
  have q0 : (w.alloc (.cells #[] 33)).cell? ⟨b, 0, none⟩ = some (.slice a n.l.length c) := (Kept.alloc (fun _ => False) w _).cell c0 (fun e => e)
  have q1 : W1.cell? ⟨b, 0, none⟩ = some (.slice a n.l.length c) := (Kept.below (S := fun _ => False) hcr.mid).cell c0 (fun e => e)
  have q2 : W2.cell? ⟨b, 0, none⟩ = some (.slice a n.l.length c) := (Kept.below (S := fun _ => False) hb2).cell c0 (fun e => e)
  have z2 : W2.frozen? ⟨b, 0, none⟩ = false := Lib.frozen_of_heap ((Kept.below (S := fun _ => False) hb2).heap h.blk (fun e => e)) 0
  have HR1 := Lib.hid hcr.run1
  have HR2 := Lib.hid hcr.run2
  have HE := Lib.hid hend
  obtain ⟨L, hL⟩ : ∃ L, L = n.l.length := ⟨_, rfl⟩
  rw [← hL] at hsto hsfr c0 q0 q1 q2 HE hk hl ⊢
  clear h hcr hb2 hk2 hend hL
  go_enter Try.func38, Try.ntmps38
  go_region_law (first | (refine step_append_run rfl (.tmp 5) (.tmp 11) _ _ rfl _ _ rfl rfl _ _ HR1.out ?_) | (refine step_append_run rfl (.tmp 12) (.tmp 19) _ _ rfl _ _ rfl rfl _ _ HR2.out ?_))
  all_goals
    go_wp2_with fail
    go_end0
    exact ⟨rfl, HE.out⟩
end Go.Proofs.Ytedpkjlhcpjblaa
