/-
  The reference's cell on the reference's disk: what each step leaves; begin, Get.
  The reference's Set: the steps, one behind the other.
-/
import Derived.Test.YtninopllfbiccaaDoorDGs
import Derived.Test.YtninopllfbiccaaDoorCForm
namespace Go.Proofs.YtninopllfbiccaaDoor
set_option maxRecDepth 100000
open Go Go.RowKit Go.Maps Dk

/-- The reference's disk, as the model has it. -/
def RD (w : World) (r : Nat) (S : Nat → Prop) (Y : D) : Prop := ∃ X, RIn w r S X ∧ Sim X Y
theorem RD.kept {w w' : World} {S T : Nat → Prop} {r : Nat} {Y : D} (h : RD w r S Y) (hk : Kept T w w') (hn : ∀ k, S k → ¬ T k) : RD w' r S Y := by
  obtain ⟨X, h1, h2⟩ := h
  exact ⟨X, h1.kept hk hn, h2⟩
theorem RD.mono {w : World} {S T : Nat → Prop} {r : Nat} {Y : D} (h : RD w r S Y) (hs : ∀ k, k < w.heap.size → S k → T k) : RD w r T Y := by
  obtain ⟨X, h1, h2⟩ := h
  exact ⟨X, h1.mono hs, h2⟩
theorem RD.same {w : World} {r : Nat} {S : Nat → Prop} {Y : D} (h : RD w r S Y) (w0 : World) : RD w r (After S w0) Y := h.mono (fun _ _ e => Or.inl e)
theorem RD.new' {w w2 : World} {r : Nat} {S : Nat → Prop} {Y : D} (h : RD w r S Y) (hb : Below w.heap.size w w2) : RD w2 r (fun k => S k ∧ k < w.heap.size) Y := (h.mono (fun _ hk hs => ⟨hs, hk⟩)).kept (Kept.below hb) (fun _ e1 e2 => absurd e1.2 (Nat.not_lt.2 e2))
theorem RD.inv {w : World} {r : Nat} {S : Nat → Prop} {Y : D} (h : RD w r S Y) : Y.Inv := by
  obtain ⟨X, _, h2⟩ := h
  exact h2.inv
theorem rd_read {r : Nat} {S : Nat → Prop} {Y : D} (f a n : Int) (hn : n ≤ 9223372036854775807) {w : World} (h : RD w r S Y) :
    Calls Tryd.prog 29 #[.pointer (some ⟨r, 0, none⟩), .int .i64 f, .int .i64 a, .int .i64 n] w fun e w' => e = .returned (.tuple #[.string ⟨(Y.read f a n).1.toArray⟩, .int .i64 (Y.read f a n).2]) ∧ Below w.heap.size w w' := by
  obtain ⟨X, ⟨fv, qv, kv, h1, _⟩, h2⟩ := h
  rw [← h2.read]
  exact rread_c r fv qv kv X h2.rok f a n hn w h1
theorem rd_size {r : Nat} {S : Nat → Prop} {Y : D} (f : Int) {w : World} (h : RD w r S Y) :
    Calls Tryd.prog 30 #[.pointer (some ⟨r, 0, none⟩), .int .i64 f] w fun e w' => e = .returned (.int .i64 (Y.size f)) ∧ Below w.heap.size w w' := by
  obtain ⟨X, ⟨fv, qv, kv, h1, _⟩, h2⟩ := h
  rw [← h2.size]
  exact rsize_c r fv qv kv X f w h1 (by have := h2.rok.few; omega)
theorem rd_write {r : Nat} {S : Nat → Prop} {Y : D} (f a : Int) (hf : In64 f) (ha : In64 a) (s : List UInt8) (hs : s.length ≤ 1000000) {w : World} (h : RD w r S Y) :
    Calls Tryd.prog 32 #[.pointer (some ⟨r, 0, none⟩), .int .i64 f, .int .i64 a, .string ⟨s.toArray⟩] w fun e w' => e = .returned (.int .i64 (Y.write f a s).2) ∧ RD w' r (After S w) (Y.write f a s).1 ∧ Kept S w w' := by
  obtain ⟨X, h1, h2⟩ := h
  have hw := h2.write f a s
  refine (xwrite_c r S X ⟨0, f, a, s, []⟩ (h2.tellOk ⟨0, f, a, s, []⟩ hs) hf ha w h1).mono ?_
  rintro e w' ⟨rfl, g1, g2⟩
  exact ⟨by rw [← hw.2], ⟨_, g1, hw.1⟩, g2⟩
theorem rd_sync {r : Nat} {S : Nat → Prop} {Y : D} (f : Int) (hf : In64 f) {w : World} (h : RD w r S Y) :
    Calls Tryd.prog 42 #[.pointer (some ⟨r, 0, none⟩), .int .i64 f] w fun e w' => e = .returned (.int .i64 (Y.sync f).2) ∧ RD w' r (After S w) (Y.sync f).1 ∧ Kept S w w' := by
  obtain ⟨X, h1, h2⟩ := h
  have hw := h2.sync f
  refine (xsync_c r S X ⟨0, f, 0, [], []⟩ (h2.tellOk ⟨0, f, 0, [], []⟩ (Nat.zero_le _)) hf w h1).mono ?_
  rintro e w' ⟨rfl, g1, g2⟩
  exact ⟨by rw [← hw.2], ⟨_, g1, hw.1⟩, g2⟩
theorem rd_lose {r : Nat} {S : Nat → Prop} {Y : D} (n : Int) (hn : n ≤ 9223372036854775807) {w : World} (h : RD w r S Y) :
    Calls Tryd.prog 17 #[.pointer (some ⟨r, 0, none⟩), .int .i64 n] w fun e w' => e = .returned (.tuple #[]) ∧ RD w' r (After S w) (Y.lose n) ∧ Kept S w w' := by
  obtain ⟨X, h1, h2⟩ := h
  refine (xlose_c r S X n w h1).mono ?_
  rintro e w' ⟨rfl, g1, g2⟩
  exact ⟨rfl, ⟨_, g1, h2.turn rfl rfl rfl rfl rfl h2.down h2.left h2.keep (by show (n.toNat : Int) ≤ _; omega) h2.leftB h2.keepIn h2.keepLen⟩, g2⟩
theorem rd_arm {r : Nat} {S : Nat → Prop} {Y : D} (n : Int) (hn : n ≤ 9223372036854775807) (v : Value) (l : List Int) (hl : l.length ≤ 4398046511104) (hi : ∀ k ∈ l, -9223372036854775808 ≤ k ∧ k ≤ 9223372036854775807) {w : World} (h : RD w r S Y) (hk : KeepAt w v l S) :
    Calls Tryd.prog 19 #[.pointer (some ⟨r, 0, none⟩), .int .i64 n, v] w fun e w' => e = .returned (.tuple #[]) ∧ RD w' r (After S w) (Y.arm n l) ∧ Kept S w w' := by
  obtain ⟨X, h1, h2⟩ := h
  refine (xarm_c r S X n v l w h1 hk hl).mono ?_
  rintro e w' ⟨rfl, g1, g2⟩
  exact ⟨rfl, ⟨_, g1, h2.turn rfl rfl rfl rfl h2.lost h2.down rfl (fun _ => rfl) h2.lostB (by show (n.toNat : Int) ≤ _; omega) hi hl⟩, g2⟩
theorem rd_crash {r : Nat} {S : Nat → Prop} {Y : D} (v : Value) (l : List Int) (hl : l.length ≤ 4398046511104) {w : World} (h : RD w r S Y) (hk : KeepAt w v l S) :
    Calls Tryd.prog 21 #[.pointer (some ⟨r, 0, none⟩), v] w fun e w' => e = .returned (.tuple #[]) ∧ RD w' r (After S w) (Y.crash l) ∧ Kept S w w' := by
  obtain ⟨X, h1, h2⟩ := h
  refine (xcrash_c r S X h2.rok v l w h1 hk (by omega)).mono ?_
  rintro e w' ⟨rfl, g1, g2⟩
  exact ⟨rfl, ⟨_, g1, h2.crash l⟩, g2⟩
theorem rd_start {r : Nat} {S : Nat → Prop} {Y : D} {w : World} (h : RD w r S Y) :
    Calls Tryd.prog 22 #[.pointer (some ⟨r, 0, none⟩)] w fun e w' => e = .returned (.tuple #[]) ∧ RD w' r (After S w) Y.start ∧ Kept S w w' := by
  obtain ⟨X, h1, h2⟩ := h
  refine (xstart_c r S X w h1).mono ?_
  rintro e w' ⟨rfl, g1, g2⟩
  exact ⟨rfl, ⟨_, g1, h2.turn rfl rfl rfl rfl h2.lost rfl h2.left h2.keep h2.lostB h2.leftB h2.keepIn h2.keepLen⟩, g2⟩
theorem rd_new (w : World) : Calls Tryd.prog 11 #[] w fun e w' => ∃ r, e = .returned (.pointer (some ⟨r, 0, none⟩)) ∧ RD w' r (fun k => w.heap.size ≤ k) D.new ∧ Below w.heap.size w w' := by
  refine (rnew_c w).mono ?_
  rintro e w' ⟨r, rfl, h1, h2, h3⟩
  refine ⟨r, rfl, ⟨_, ⟨_, _, _, h2, fun k e => ?_⟩, sim_new⟩, h3⟩
  rcases e with e | e | e | e
  · rw [e]; exact h1
  · cases e
  · cases e
  · cases e

/-- The reference's cell in a heap. -/
def RCellAt (w : World) (b r : Nat) (f : Int) (c : Ck.C) : Prop :=
  w.heap[b]? = some (.cells #[.pointer (some ⟨r, 0, none⟩), .int .i64 f, .int .i64 (c.slot : Int), .string ⟨c.val.toArray⟩, .bool c.sure] 72 (0, 0))
theorem RCellAt.kept {w w' : World} {S : Nat → Prop} {b r : Nat} {f : Int} {c : Ck.C} (h : RCellAt w b r f c) (hk : Kept S w w') (hn : ¬ S b) : RCellAt w' b r f c := hk.heap h hn
theorem RCellAt.lt {w : World} {b r : Nat} {f : Int} {c : Ck.C} (h : RCellAt w b r f c) : b < w.heap.size := (Array.getElem?_eq_some_iff.1 h).1
theorem RCellAt.c0 {w : World} {b r : Nat} {f : Int} {c : Ck.C} (h : RCellAt w b r f c) : w.cell? ⟨b, 0, none⟩ = some (.pointer (some ⟨r, 0, none⟩)) := by rw [Lib.cell_of_heap h]; rfl
theorem RCellAt.c1 {w : World} {b r : Nat} {f : Int} {c : Ck.C} (h : RCellAt w b r f c) : w.cell? ⟨b, 1, none⟩ = some (.int .i64 f) := by rw [Lib.cell_of_heap h]; rfl
theorem RCellAt.c2 {w : World} {b r : Nat} {f : Int} {c : Ck.C} (h : RCellAt w b r f c) : w.cell? ⟨b, 2, none⟩ = some (.int .i64 (c.slot : Int)) := by rw [Lib.cell_of_heap h]; rfl
theorem RCellAt.c3 {w : World} {b r : Nat} {f : Int} {c : Ck.C} (h : RCellAt w b r f c) : w.cell? ⟨b, 3, none⟩ = some (.string ⟨c.val.toArray⟩) := by rw [Lib.cell_of_heap h]; rfl
theorem RCellAt.c4 {w : World} {b r : Nat} {f : Int} {c : Ck.C} (h : RCellAt w b r f c) : w.cell? ⟨b, 4, none⟩ = some (.bool c.sure) := by rw [Lib.cell_of_heap h]; rfl
theorem RCellAt.z {w : World} {b r : Nat} {f : Int} {c : Ck.C} (h : RCellAt w b r f c) (o : Nat) : w.frozen? ⟨b, o, none⟩ = false := Lib.frozen_of_heap h o

set_option maxRecDepth 100000 in
theorem rbegin_c (k : Nat) (hk : k = 1 ∨ k = 2) (w : World) : Calls Tryd.prog 37 #[.int .i64 (k : Int)] w fun e w' => e = .returned (.int .i64 (Ck.start k : Nat)) ∧ w' = w := by
  rcases hk with rfl | rfl
  · show Calls Tryd.prog 37 #[.int .i64 1] w fun e w' => e = .returned (.int .i64 64) ∧ w' = w
    go_enter Tryd.func37, Tryd.ntmps37
    go_wp2_with fail
    go_ret
    exact ⟨rfl, rfl⟩
  · show Calls Tryd.prog 37 #[.int .i64 2] w fun e w' => e = .returned (.int .i64 131072) ∧ w' = w
    go_enter Tryd.func37, Tryd.ntmps37
    go_wp2_with fail
    go_ret
    exact ⟨rfl, rfl⟩

set_option maxRecDepth 100000 in
theorem rcget_c (b r : Nat) (f : Int) (c : Ck.C) (w : World) (h : RCellAt w b r f c) : Calls Tryd.prog 24 #[.pointer (some ⟨b, 0, none⟩)] w fun e w' => e = .returned (.tuple #[.string ⟨c.val.toArray⟩, .bool (c.slot != 0)]) ∧ Below w.heap.size w w' := by
  have k2 := h.c2
  have k3 := h.c3
  obtain ⟨k, v, sure⟩ := c
  dsimp only at k2 k3 ⊢
  clear h
  cases k with
  | zero =>
    go_enter Tryd.func24, Tryd.ntmps24
    rw [show ((0 : Nat) : Int) = 0 from rfl] at k2
    go_wp2_with fail
    go_quiet (fail)
    go_wp2_with fail
    go_ret2
    exact ⟨rfl, below_drewN' w nq⟩
  | succ n =>
    obtain ⟨m, hm⟩ : ∃ m : Int, m = ((n + 1 : Nat) : Int) := ⟨_, rfl⟩
    have hm0 : (m == 0) = false := by simp; omega
    have hm1 : (m != 0) = true := by simp; omega
    rw [← hm] at k2
    clear hm
    go_enter Tryd.func24, Tryd.ntmps24
    go_wp2_with fail
    go_quiet (fail)
    go_wp2_with fail
    go_ret2
    exact ⟨rfl, below_drewN' w nq⟩
end Go.Proofs.YtninopllfbiccaaDoor

namespace Go.Proofs.YtninopllfbiccaaDoor
set_option maxRecDepth 100000
open Go Go.RowKit Go.Maps Dk

def RCStep (w w' : World) (r b : Nat) (f : Int) (S : Nat → Prop) (Y : D) (c : Ck.C) : Prop := RD w' r (After S w) Y ∧ RCellAt w' b r f c ∧ Kept (fun k => S k ∨ k = b) w w'
theorem RCStep.start {w : World} {r b : Nat} {f : Int} {S : Nat → Prop} {Y : D} {c : Ck.C} (h : RD w r S Y) (hc : RCellAt w b r f c) : RCStep w w r b f S Y c := ⟨h.same w, hc, Kept.refl _ _⟩
theorem RCStep.after {w w1 w2 : World} {r b : Nat} {f : Int} {S : Nat → Prop} {Y : D} {c : Ck.C} (h : RCStep w w1 r b f S Y c) (hk : Kept (fun _ => False) w1 w2) : RCStep w w2 r b f S Y c :=
  ⟨h.1.kept hk (fun _ _ e => e), h.2.1.kept hk (fun e => e), h.2.2.trans hk (fun _ _ e => e.elim)⟩
theorem RCStep.drew {w w1 : World} {r b : Nat} {f : Int} {S : Nat → Prop} {Y : D} {c : Ck.C} (h : RCStep w w1 r b f S Y c) : RCStep w w1.drew r b f S Y c := h.after (Kept.drew _ _)
theorem RCStep.below {w w1 w2 : World} {r b : Nat} {f : Int} {S : Nat → Prop} {Y : D} {c : Ck.C} (h : RCStep w w1 r b f S Y c) (hb : Below w1.heap.size w1 w2) : RCStep w w2 r b f S Y c := h.after (Kept.below hb)
theorem RCStep.on {w w1 w2 : World} {r b : Nat} {f : Int} {S : Nat → Prop} {Y Y' : D} {c : Ck.C} (h : RCStep w w1 r b f S Y c) (hb : ¬ S b) (hbl : b < w.heap.size) (h1 : RD w2 r (After (After S w) w1) Y') (h2 : Kept (After S w) w1 w2) : RCStep w w2 r b f S Y' c :=
  ⟨h1.mono (fun k _ e => After.trans h.2.2.size k e), h.2.1.kept h2 (fun e => e.elim hb (fun e => absurd hbl (Nat.not_lt.2 e))), h.2.2.trans h2 (fun _ hk e => e.elim (fun e => Or.inl e) (fun e => absurd hk (Nat.not_lt.2 e)))⟩
theorem RCStep.set {w w1 : World} {r b : Nat} {f : Int} {S : Nat → Prop} {Y : D} {c c' : Ck.C} (h : RCStep w w1 r b f S Y c) (hb : ¬ S b) (hbl : b < w.heap.size) (o : Nat) (v : Value)
    (hc : (w1.setCell ⟨b, o, none⟩ v).heap[b]? = some (.cells #[.pointer (some ⟨r, 0, none⟩), .int .i64 f, .int .i64 (c'.slot : Int), .string ⟨c'.val.toArray⟩, .bool c'.sure] 72 (0, 0))) : RCStep w (w1.setCell ⟨b, o, none⟩ v) r b f S Y c' :=
  ⟨h.1.kept (Kept.set b o w1 v) (fun k e e' => by
    subst e'
    exact e.elim hb (fun e => absurd hbl (Nat.not_lt.2 e))), hc, h.2.2.trans (Kept.set b o w1 v) (fun _ _ e => Or.inr e)⟩
structure RCFacts (w1 : World) (r b : Nat) (f : Int) (c : Ck.C) : Prop where
  c0 : w1.cell? ⟨b, 0, none⟩ = some (.pointer (some ⟨r, 0, none⟩))
  c1 : w1.cell? ⟨b, 1, none⟩ = some (.int .i64 f)
  c2 : w1.cell? ⟨b, 2, none⟩ = some (.int .i64 (c.slot : Int))
  c3 : w1.cell? ⟨b, 3, none⟩ = some (.string ⟨c.val.toArray⟩)
  c4 : w1.cell? ⟨b, 4, none⟩ = some (.bool c.sure)
  z2 : w1.frozen? ⟨b, 2, none⟩ = false
  z3 : w1.frozen? ⟨b, 3, none⟩ = false
  z4 : w1.frozen? ⟨b, 4, none⟩ = false
theorem RCStep.facts {w w1 : World} {r b : Nat} {f : Int} {S : Nat → Prop} {Y : D} {c : Ck.C} (h : RCStep w w1 r b f S Y c) : RCFacts w1 r b f c := ⟨h.2.1.c0, h.2.1.c1, h.2.1.c2, h.2.1.c3, h.2.1.c4, h.2.1.z 2, h.2.1.z 3, h.2.1.z 4⟩
theorem rstep_write {w w1 : World} {r b : Nat} {f : Int} {S : Nat → Prop} {Y : D} {c : Ck.C} (h : RCStep w w1 r b f S Y c) (hf : In64 f) (hb : ¬ S b) (hbl : b < w.heap.size) (a : Nat) (ha : a ≤ 131072) (s : List UInt8) (hs : s.length ≤ 65536) :
    Calls Tryd.prog 32 #[.pointer (some ⟨r, 0, none⟩), .int .i64 f, .int .i64 (a : Int), .string ⟨s.toArray⟩] w1 fun e w2 => e = .returned (.int .i64 (Y.write f a s).2) ∧ Hid (RCStep w w2 r b f S (Y.write f a s).1 c) := by
  refine (rd_write f a hf (by unfold In64; omega) s (by omega) h.1).mono ?_
  rintro e w2 ⟨rfl, h1, h2⟩
  exact ⟨rfl, h.on hb hbl h1 h2⟩
theorem rstep_sync {w w1 : World} {r b : Nat} {f : Int} {S : Nat → Prop} {Y : D} {c : Ck.C} (h : RCStep w w1 r b f S Y c) (hf : In64 f) (hb : ¬ S b) (hbl : b < w.heap.size) :
    Calls Tryd.prog 42 #[.pointer (some ⟨r, 0, none⟩), .int .i64 f] w1 fun e w2 => e = .returned (.int .i64 (Y.sync f).2) ∧ Hid (RCStep w w2 r b f S (Y.sync f).1 c) := by
  refine (rd_sync f hf h.1).mono ?_
  rintro e w2 ⟨rfl, h1, h2⟩
  exact ⟨rfl, h.on hb hbl h1 h2⟩
end Go.Proofs.YtninopllfbiccaaDoor
