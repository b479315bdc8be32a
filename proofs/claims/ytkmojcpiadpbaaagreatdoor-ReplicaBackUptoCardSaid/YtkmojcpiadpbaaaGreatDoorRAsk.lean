/-
  The messages that a replica sends to both others.
-/
import Derived.Test.YtkmojcpiadpbaaaGreatDoorRRead
namespace Go.Proofs.YtkmojcpiadpbaaaGreatDoor
set_option maxRecDepth 100000
open Go Go.RowKit Rp

/-- The message that asks for a vote. -/
def ask (r : R) (d : Int) : Msg := { msg r 0 d with ix := (r.l.length : Int), pv := lastT r.l }
set_option maxHeartbeats 4000000 in
theorem request_c {w : World} {b : Nat} {lv : Value} {r : R} (h : RepAt w b lv r) (d : Int) : Calls Tryz.prog 46 #[.pointer (some ⟨b, 0, none⟩), .int .i64 d] w fun e w' => ∃ a c, e = .returned (PM.val ⟨ask r d, a, c⟩) ∧ PM.ok (fun k => w.heap.size ≤ k) w' ⟨ask r d, a, c⟩ ∧ Below w.heap.size w w' := by
  obtain ⟨W1, hW1⟩ : ∃ W1, W1 = w.alloc (.cells #[.int .i64 0, .int .i64 0, .int .i64 0, .int .i64 0, .int .i64 0, .int .i64 0, .int .i64 0, .bool false, .slice none 0 0] 24) := ⟨_, rfl⟩
  have hb1 : Below w.heap.size w W1 := by rw [hW1]; exact below_new w _
  have hx1 : PM.zero.at W1 w.heap.size := by rw [hW1]; exact box_new w _
  have HB1 := Lib.hid hb1
  have HX1 := Lib.hid hx1
  have HS1 := Lib.hid (show w.heap.size < W1.heap.size by rw [hW1]; simp)
  have HR := Lib.hid h
  have QM := Lib.hid (message_a (h.on hb1) 0 d)
  have hask : ask r d = ⟨0, r.id, d, r.h.tm, r.l.length, tI r.l r.l.length, 0, false, []⟩ := by unfold ask msg; rw [lastT_tI]
  rw [hask]
  obtain ⟨a, c, rfl, _⟩ := h.row.shape
  have hlen := h.fine.len
  have hl63 : (r.l.length : Int) ≤ 4000 := by omega
  obtain ⟨L, hL⟩ : ∃ L : Nat, r.l.length = L := ⟨_, rfl⟩
  have HL := Lib.hid hL
  rw [hL] at HR hl63 ⊢
  clear h hb1 hx1 hask hlen hL
  go_enter Tryz.func46, Tryz.ntmps46
  go_upto_region 1 with fail
  rw [← hW1]
  clear hW1
  go_upto_region 2 with (refine QM.out.mono ?_; rintro e w1 ⟨rfl, hb1⟩)
  obtain ⟨W2, hW2⟩ : ∃ W2, W2 = w1.alloc (.cells #[.int .i64 0, .int .i64 r.id, .int .i64 d, .int .i64 r.h.tm, .int .i64 0, .int .i64 0, .int .i64 0, .bool false, .slice none 0 0] 24) := ⟨_, rfl⟩
  have hb2 : Below w.heap.size w W2 := by rw [hW2]; exact (HB1.out.trans (hb1.mono HB1.out.size)).alloc (Nat.le_trans HB1.out.size hb1.size) _
  have hx2 : PM.at ⟨⟨0, r.id, d, r.h.tm, 0, 0, 0, false, []⟩, none, 0⟩ W2 w1.heap.size := by rw [hW2]; exact box_new w1 _
  have hz2 : PM.zero.at W2 w.heap.size := by rw [hW2]; exact box_on (box_on HX1.out hb1) (below_new _ _)
  have hne : w.heap.size ≠ w1.heap.size := by have := HS1.out; have := hb1.size; omega
  have hlo : w.heap.size ≤ w1.heap.size := Nat.le_trans HB1.out.size hb1.size
  obtain ⟨W3, hW3⟩ : ∃ W3, W3 = W2.setCell ⟨w1.heap.size, 4, none⟩ (.int .i64 (L : Int)) := ⟨_, rfl⟩
  have hb3 : Below w.heap.size w W3 := by rw [hW3]; exact below_set hb2 hlo _ _
  have hx3 : PM.at ⟨⟨0, r.id, d, r.h.tm, L, 0, 0, false, []⟩, none, 0⟩ W3 w1.heap.size := by rw [hW3]; exact box_set hx2 4 _
  have hz3 : PM.zero.at W3 w.heap.size := by rw [hW3]; exact box_other hz2 hne 4 _
  obtain ⟨W4, hW4⟩ : ∃ W4, W4 = W3.setCell ⟨w1.heap.size, 5, none⟩ (.int .i64 (tI r.l L)) := ⟨_, rfl⟩
  have hb4 : Below w.heap.size w W4 := by rw [hW4]; exact below_set hb3 hlo _ _
  have hx4 : PM.at ⟨⟨0, r.id, d, r.h.tm, L, tI r.l L, 0, false, []⟩, none, 0⟩ W4 w1.heap.size := by rw [hW4]; exact box_set hx3 5 _
  have hz4 : PM.zero.at W4 w.heap.size := by rw [hW4]; exact box_other hz3 hne 5 _
  have m2 := (HR.out.on hb2).c.c3
  have QT := Lib.hid (termOf_c (HR.out.on hb3) (L : Int) (by omega) (by rw [HL.out]; omega))
  have k2 := hx2.c.c4
  have y2 := hx2.c.z 4
  have k3 := hx3.c.c4
  have k35 := hx3.c.c5
  have y3 := hx3.c.z 5
  have f0 := hx4.c.c0
  have zf0 := hx4.c.z 0
  have f1 := hx4.c.c1
  have zf1 := hx4.c.z 1
  have f2 := hx4.c.c2
  have zf2 := hx4.c.z 2
  have f3 := hx4.c.c3
  have zf3 := hx4.c.z 3
  have f4 := hx4.c.c4
  have zf4 := hx4.c.z 4
  have f5 := hx4.c.c5
  have zf5 := hx4.c.z 5
  have f6 := hx4.c.c6
  have zf6 := hx4.c.z 6
  have f7 := hx4.c.c7
  have zf7 := hx4.c.z 7
  have f8 := hx4.c.c8
  have zf8 := hx4.c.z 8
  have g0 := hz4.c.c0
  have zg0 := hz4.c.z 0
  have g1 := hz4.c.c1
  have zg1 := hz4.c.z 1
  have g2 := hz4.c.c2
  have zg2 := hz4.c.z 2
  have g3 := hz4.c.c3
  have zg3 := hz4.c.z 3
  have g4 := hz4.c.c4
  have zg4 := hz4.c.z 4
  have g5 := hz4.c.c5
  have zg5 := hz4.c.z 5
  have g6 := hz4.c.c6
  have zg6 := hz4.c.z 6
  have g7 := hz4.c.c7
  have zg7 := hz4.c.z 7
  have g8 := hz4.c.c8
  have zg8 := hz4.c.z 8
  have HX4 := Lib.hid hx4
  have HZ4 := Lib.hid hz4
  have HB4 := Lib.hid hb4
  rw [← hW2]
  clear hW2 hb2 hx2 hz2 hb3 hx3 hz3 hb4 hx4 hz4 hb1 hne hlo
  go_upto_region 3 with fail
  rw [← hW3]
  clear hW3 k2 y2 m2
  go_upto_region 4 with (refine QT.out.mono ?_; rintro e w' ⟨rfl, hw⟩; rw [hw]; clear hw)
  rw [← hW4]
  clear hW4 k3 k35 y3
  go_wp2_with fail
  (try simp only [Exit.inBlock, Exit.then])
  refine bodyPost_ret (ret_msg rfl _ _ w.heap.size ⟨⟨0, r.id, d, r.h.tm, L, tI r.l L, 0, false, []⟩, none, 0⟩ rfl (HZ4.out.set9 ⟨⟨0, r.id, d, r.h.tm, L, tI r.l L, 0, false, []⟩, none, 0⟩)) rfl ?_
  exact ⟨none, 0, rfl, Src.nil _ _, below_set9 HB4.out (Nat.le_refl _) _ _ _ _ _ _ _ _ _⟩

theorem others_turn {i : Int} (hi : 0 ≤ i ∧ i ≤ 2) (k : Nat) (hk : k < 3) : (others i).filter (fun j => decide (j < ((k + 1 : Nat) : Int))) = (others i).filter (fun j => decide (j < (k : Int))) ++ (if (k : Int) = i then [] else [(k : Int)]) := by
  have hi : i = 0 ∨ i = 1 ∨ i = 2 := by omega
  have hk : k = 0 ∨ k = 1 ∨ k = 2 := by omega
  rcases hi with rfl | rfl | rfl <;> rcases hk with rfl | rfl | rfl <;> decide
theorem others_end {i : Int} (hi : 0 ≤ i ∧ i ≤ 2) : (others i).filter (fun j => decide (j < ((3 : Nat) : Int))) = others i := by
  have hi : i = 0 ∨ i = 1 ∨ i = 2 := by omega
  rcases hi with rfl | rfl | rfl <;> decide
theorem others_none {i : Int} (hi : 0 ≤ i ∧ i ≤ 2) : (others i).filter (fun j => decide (j < ((0 : Nat) : Int))) = [] := by
  have hi : i = 0 ∨ i = 1 ∨ i = 2 := by omega
  rcases hi with rfl | rfl | rfl <;> decide
/-- A message in a block of its own, appended to a row. -/
theorem app_msg (w : World) (base : Nat) (v : Value) (l : List PM) (h : MsgRow w base v l) (p : PM) (hl : l.length ≤ 90000) (hb : base ≤ w.heap.size) :
    ∃ a c w', (Builtin.append_ #[40, 40] 40 #[v, .slice (some ⟨w.heap.size, 0, none⟩) 1 1]).run Tryz.prog (w.alloc p.obj) = .ok (.slice a (l.length + 1) c) w' ∧
      MsgRow w' base (.slice a (l.length + 1) c) (l ++ [p]) ∧ ((Value.slice a (l.length + 1) c).ownBlock = v.ownBlock ∨ ∃ y, (Value.slice a (l.length + 1) c).ownBlock = some y ∧ w.heap.size ≤ y) ∧ Kept (fun k => v.ownBlock = some k) w w' := by
  obtain ⟨a, c, w', h1, h2, h3, h4⟩ := app_msgs (w.alloc p.obj) base v l (h.on (below_new w _)) (G := fun _ => True) (some ⟨w.heap.size, 0, none⟩) 1 [p] (PM.at.src (box_new w p.obj) trivial) (by simp; omega) (by simp; omega)
  refine ⟨a, c, w', h1, h2, ?_, (Kept.alloc _ w _).trans h4 (fun _ _ e => e)⟩
  rcases h3 with h3 | ⟨y, h3, h5⟩
  · exact Or.inl h3
  · exact Or.inr ⟨y, h3, by simp at h5; omega⟩
/-- What a list of messages being made is. -/
structure Made (w wr : World) (a : Option Addr) (c L : Nat) (ps : List PM) (ms : List Msg) : Prop where
  len : ps.length = L
  row : MsgRow wr w.heap.size (.slice a L c) ps
  map : ps.map PM.m = ms
  ok : ∀ p ∈ ps, p.ok (fun i => w.heap.size ≤ i ∧ (Value.slice a L c).ownBlock ≠ some i) wr
  few : L ≤ 1000
  base : Below w.heap.size w wr
theorem Made.on {w wr w1 : World} {a : Option Addr} {c L : Nat} {ps : List PM} {ms : List Msg} (h : Made w wr a c L ps ms) (hb : Below wr.heap.size wr w1) : Made w w1 a c L ps ms :=
  ⟨h.len, h.row.on hb, h.map, fun p hp => (h.ok p hp).on hb, h.few, h.base.trans (hb.mono h.base.size)⟩
theorem Made.push {w w1 : World} {a : Option Addr} {c L : Nat} {ps : List PM} {ms : List Msg} (h : Made w w1 a c L ps ms) (m : Msg) (pa : Option Addr) (pc : Nat) (hp : PM.ok (fun i => w.heap.size ≤ i ∧ (Value.slice a L c).ownBlock ≠ some i) w1 ⟨m, pa, pc⟩) (hL : L < 1000) :
    ∃ a' c' w2, (Builtin.append_ #[40, 40] 40 #[.slice a L c, .slice (some ⟨w1.heap.size, 0, none⟩) 1 1]).run Tryz.prog (w1.alloc (.cells #[.int .i64 m.k, .int .i64 m.fr, .int .i64 m.dst, .int .i64 m.tm, .int .i64 m.ix, .int .i64 m.pv, .int .i64 m.cm, .bool m.yes, .slice pa m.rs.length pc] 24)) = .ok (.slice a' (L + 1) c') w2 ∧ Made w w2 a' c' (L + 1) (ps ++ [⟨m, pa, pc⟩]) (ms ++ [m]) := by
  obtain ⟨a', c', w2, h1, h2, h3, h4⟩ := app_msg w1 w.heap.size _ ps h.row ⟨m, pa, pc⟩ (by rw [h.len]; omega) h.base.size
  rw [h.len] at h1 h2 h3
  refine ⟨a', c', w2, h1, by rw [List.length_append, h.len]; rfl, h2, by rw [List.map_append, h.map]; rfl, fun p hpp => ?_, by omega, h.base.trans (h4.toBelow h.base.size (fun k hk => h.row.above hk))⟩
  have hold : p.ok (fun i => w.heap.size ≤ i ∧ (Value.slice a L c).ownBlock ≠ some i) w1 := by
    rcases List.mem_append.1 hpp with hpp | hpp
    · exact h.ok p hpp
    · obtain rfl := List.mem_singleton.1 hpp
      exact hp
  have hlt := Src.mono (G' := fun i => (w.heap.size ≤ i ∧ (Value.slice a L c).ownBlock ≠ some i) ∧ i < w1.heap.size) hold (fun k hk hg => ⟨hg, hk⟩) (fun h0 => fun e => by
    have := recsV_length p.m.rs
    rw [e] at this
    simp at this
    omega)
  refine (Src.kept hlt h4 (fun k _ hg e => hg.1.2 e)).mono' (fun k hg => ⟨hg.1.1, fun e => ?_⟩)
  rcases h3 with h3 | ⟨y, h3, hy⟩
  · exact hg.1.2 (by rw [← h3]; exact e)
  · rw [h3] at e
    injection e with e
    omega
theorem Made.none (w : World) : Made w w none 0 0 [] [] := ⟨rfl, msgRow_nil _ _, rfl, (fun p hp => by cases hp), Nat.zero_le _, Below.refl _ _⟩
theorem ok_above {w w1 : World} {p : PM} (h : p.ok (fun k => w.heap.size ≤ k) w1) {v : Value} (hv : ∀ k, v.ownBlock = some k → k < w.heap.size) {B : Nat} (hB : B ≤ w.heap.size) : p.ok (fun i => B ≤ i ∧ v.ownBlock ≠ some i) w1 := h.mono (fun k hk => ⟨Nat.le_trans hB hk, fun e => by have := hv k e; omega⟩)
end Go.Proofs.YtkmojcpiadpbaaaGreatDoor
