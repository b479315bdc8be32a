/-
  A replica in a heap, messages and results; the small functions of the replica.
-/
import Derived.Test.YtkmojcpiadpbaaaGreatDoorRBase
import Derived.Laws.StructEq
import Derived.Lib.MinMax
namespace Go.Proofs.YtkmojcpiadpbaaaGreatDoor
set_option maxRecDepth 100000
open Go Go.RowKit Rp

/-! ### Messages -/
/-- A message, with where its entries lie. -/
structure PM where
  m : Msg
  a : Option Addr
  c : Nat
def PM.cells (p : PM) : List Value := [.int .i64 p.m.k, .int .i64 p.m.fr, .int .i64 p.m.dst, .int .i64 p.m.tm, .int .i64 p.m.ix, .int .i64 p.m.pv, .int .i64 p.m.cm, .bool p.m.yes, .slice p.a p.m.rs.length p.c]
def PM.val (p : PM) : Value := .agg #[.int .i64 p.m.k, .int .i64 p.m.fr, .int .i64 p.m.dst, .int .i64 p.m.tm, .int .i64 p.m.ix, .int .i64 p.m.pv, .int .i64 p.m.cm, .bool p.m.yes, .slice p.a p.m.rs.length p.c]
def PM.obj (p : PM) : Obj := .cells #[.int .i64 p.m.k, .int .i64 p.m.fr, .int .i64 p.m.dst, .int .i64 p.m.tm, .int .i64 p.m.ix, .int .i64 p.m.pv, .int .i64 p.m.cm, .bool p.m.yes, .slice p.a p.m.rs.length p.c] 24 (0, 0)
def PM.ok (G : Nat → Prop) (w : World) (p : PM) : Prop := Src G w p.a p.c p.m.rs.length (recsV p.m.rs)
theorem PM.ok.kept {G S : Nat → Prop} {w w' : World} {p : PM} (h : p.ok G w) (hk : Kept S w w') (hd : ∀ k, k < w.heap.size → G k → ¬ S k) : p.ok G w' := Src.kept h hk hd
theorem PM.ok.on {G : Nat → Prop} {w w' : World} {p : PM} (h : p.ok G w) (hb : Below w.heap.size w w') : p.ok G w' := Src.on h hb
theorem PM.ok.mono {G G' : Nat → Prop} {w : World} {p : PM} (h : p.ok G w) (hg : ∀ k, G k → G' k) : p.ok G' w := Src.mono' h hg
def msgsV (l : List PM) : List Value := l.flatMap PM.cells
theorem msgsV_cons (x : PM) (l : List PM) : msgsV (x :: l) = x.cells ++ msgsV l := by simp [msgsV]
theorem msgsV_app (a b : List PM) : msgsV (a ++ b) = msgsV a ++ msgsV b := by simp [msgsV]
theorem msgsV_length (l : List PM) : (msgsV l).length = l.length * 9 := by
  induction l with
  | nil => rfl
  | cons x l ih => rw [msgsV_cons, List.length_append, ih]; simp [PM.cells]; omega
theorem msgsV_one (l : List PM) : ∀ u ∈ msgsV l, u.oneCell' = true := by
  intro u hu
  obtain ⟨x, _, hx⟩ := List.mem_flatMap.1 hu
  simp [PM.cells] at hx
  rcases hx with rfl | rfl | rfl | rfl | rfl | rfl | rfl | rfl | rfl <;> rfl
theorem msgsV_get (l : List PM) : ∀ (k : Nat) (x : PM), l[k]? = some x → ∀ j u, x.cells[j]? = some u → (msgsV l)[k * 9 + j]? = some u := by
  induction l with
  | nil => intro k x h; simp at h
  | cons a l ih =>
    intro k x h j u hu
    have ha : a.cells.length = 9 := rfl
    rw [msgsV_cons]
    cases k with
    | zero =>
      simp at h
      subst h
      rw [Nat.zero_mul, Nat.zero_add, List.getElem?_append_left (List.getElem?_eq_some_iff.1 hu).1]
      exact hu
    | succ k =>
      have := ih k x (by simpa using h) j u hu
      rw [List.getElem?_append_right (by omega), ← this]
      congr 1
      omega
theorem msgsV_take (l : List PM) (k : Nat) : (msgsV l).take (k * 9) = msgsV (l.take k) := by
  induction l generalizing k with
  | nil => simp [msgsV]
  | cons x l ih =>
    cases k with
    | zero => simp [msgsV]
    | succ k =>
      have e : (k + 1) * 9 = x.cells.length + k * 9 := by simp [PM.cells]; omega
      rw [List.take_succ_cons, msgsV_cons, msgsV_cons, e, List.take_length_add_append, ih]
theorem msgsV_drop (l : List PM) (k : Nat) : (msgsV l).drop (k * 9) = msgsV (l.drop k) := by
  induction l generalizing k with
  | nil => simp [msgsV]
  | cons x l ih =>
    cases k with
    | zero => simp [msgsV]
    | succ k =>
      have e : (k + 1) * 9 = x.cells.length + k * 9 := by simp [PM.cells]; omega
      rw [List.drop_succ_cons, msgsV_cons, e, List.drop_length_add_append, ih]
theorem infoMsg : (Tryz.prog.info? 24).map (fun i => (i.zero, i.size, i.bytes)) = some (some (.agg #[.int .i64 0, .int .i64 0, .int .i64 0, .int .i64 0, .int .i64 0, .int .i64 0, .int .i64 0, .bool false, .slice none 0 0]), 9, 88) := by kernel_rfl
def MsgRow (w : World) (base : Nat) (v : Value) (l : List PM) : Prop := w.ownsRow base 24 9 v l.length (msgsV l)
theorem MsgRow.shape {w : World} {base : Nat} {v : Value} {l : List PM} (h : MsgRow w base v l) : ∃ a c, v = .slice a l.length c ∧ l.length ≤ c ∧ c ≤ maxLen ∧ (a = none → l.length = 0 ∧ c = 0) := own_shape (own_base h)
theorem MsgRow.kept {w w' : World} {S : Nat → Prop} {base : Nat} {v : Value} {l : List PM} (h : MsgRow w base v l) (hk : Kept S w w') (hn : ∀ k, v.ownBlock = some k → ¬ S k) : MsgRow w' base v l := own_kept h hk hn
theorem MsgRow.on {w w' : World} {base : Nat} {v : Value} {l : List PM} (h : MsgRow w base v l) (hb : Below w.heap.size w w') : MsgRow w' base v l := own_kept h (Kept.below (S := fun _ => False) hb) (fun _ _ e => e)
theorem MsgRow.lt {w : World} {base : Nat} {v : Value} {l : List PM} (h : MsgRow w base v l) {k : Nat} (hk : v.ownBlock = some k) : k < w.heap.size := own_lt (own_base h) hk
theorem MsgRow.above {w : World} {base : Nat} {v : Value} {l : List PM} (h : MsgRow w base v l) {k : Nat} (hk : v.ownBlock = some k) : base ≤ k := own_above h hk
theorem MsgRow.low {w : World} {B B' : Nat} {v : Value} {l : List PM} (h : MsgRow w B v l) (hB : B' ≤ B) : MsgRow w B' v l := by
  refine ⟨h.1, ?_⟩
  rcases h.2 with h1 | ⟨g, cap, cur, h1, h2, h3⟩
  · exact Or.inl h1
  · exact Or.inr ⟨g, cap, cur, h1, by omega, h3⟩
theorem msgRow_nil (w : World) (base : Nat) : MsgRow w base (.slice none 0 0) [] := World.ownsRow_nil _ _ _ _
theorem MsgRow.src {w : World} {base : Nat} {a : Option Addr} {n c : Nat} {l : List PM} (h : MsgRow w base (.slice a n c) l) {G : Nat → Prop} (hg : ∀ k, (Value.slice a n c).ownBlock = some k → G k) : Src G w a c l.length (msgsV l) := by
  obtain ⟨a', c', e, _⟩ := h.shape
  injection e with e1 e2 e3
  subst e1 e2 e3
  exact Src.own h hg
/-- Messages appended to a row of messages. -/
theorem app_msgs (w : World) (base : Nat) (v : Value) (l : List PM) (h : MsgRow w base v l) {G : Nat → Prop} (sa : Option Addr) (sc : Nat) (m : List PM) (hs : Src G w sa sc m.length (msgsV m)) (hl : l.length + m.length ≤ 100000) (hb : base ≤ w.heap.size) :
    ∃ a c w', (Builtin.append_ #[40, 40] 40 #[v, .slice sa m.length sc]).run Tryz.prog w = .ok (.slice a (l.length + m.length) c) w' ∧
      MsgRow w' base (.slice a (l.length + m.length) c) (l ++ m) ∧ ((Value.slice a (l.length + m.length) c).ownBlock = v.ownBlock ∨ ∃ y, (Value.slice a (l.length + m.length) c).ownBlock = some y ∧ w.heap.size ≤ y) ∧ Kept (fun k => v.ownBlock = some k) w w' := by
  obtain ⟨i0, hi0, hz0, hz1, hz2⟩ := info_parts infoMsg
  obtain ⟨v5, w5, hr, hown5, hgr5, hbl5⟩ := run_append_any_own (P := Tryz.prog) w base 40 40 24 i0 _ 9 88 Tryz.underlying40 hi0 hz0 hz1 hz2 rfl (by decide) v l.length (msgsV l) h
    sa m.length sc (msgsV m) (msgsV_length m) (fun h0 => by
      obtain ⟨b, off, e, _, hc⟩ := hs.2 h0
      exact ⟨⟨b, off, none⟩, e, fun j u hu => by rw [Lib.add_plain]; exact hc j u hu⟩) (msgsV_one m) (by unfold maxLen; omega) (by omega) hb
  obtain ⟨a, c, rfl, _⟩ := own_shape (own_base hown5)
  refine ⟨a, c, w5, hr, ?_, ?_, Kept.grown hgr5 (fun k e => e)⟩
  · unfold MsgRow; rw [msgsV_app, List.length_append]; exact hown5
  · rcases hbl5 with e | e
    · exact Or.inl e
    · exact Or.inr ⟨_, e, Nat.le_refl _⟩
/-- A message in a block of its own. -/
def PM.at (p : PM) (w : World) (b : Nat) : Prop := w.heap[b]? = some p.obj
theorem PM.at.src {p : PM} {w : World} {b : Nat} (h : p.at w b) {G : Nat → Prop} (hg : G b) : Src G w (some ⟨b, 0, none⟩) 1 1 (msgsV [p]) := by
  refine ⟨Nat.le_refl _, fun _ => ⟨b, 0, rfl, hg, fun j u hu => ?_⟩⟩
  rw [Nat.zero_add, Lib.cell_of_heap h]
  have e : msgsV [p] = p.cells := by simp [msgsV]
  rw [e] at hu
  exact (by simpa [PM.cells] using hu)

/-! ### Results -/
def OutIs (G : Nat → Prop) (w : World) (v : Value) (o : Out) : Prop :=
  ∃ ra rc sa sc, ∃ ps : List PM, v = .agg #[.bool o.save, .int .i64 o.h.tm, .int .i64 o.h.vt, .int .i64 o.fr, .slice ra o.rs.length rc, .slice sa ps.length sc] ∧
    Src G w ra rc o.rs.length (recsV o.rs) ∧ ps.map PM.m = o.send ∧ Src G w sa sc ps.length (msgsV ps) ∧ ∀ p ∈ ps, p.ok G w
theorem OutIs.kept {G S : Nat → Prop} {w w' : World} {v : Value} {o : Out} (h : OutIs G w v o) (hk : Kept S w w') (hd : ∀ k, k < w.heap.size → G k → ¬ S k) : OutIs G w' v o := by
  obtain ⟨ra, rc, sa, sc, ps, h1, h2, h3, h4, h5⟩ := h
  exact ⟨ra, rc, sa, sc, ps, h1, h2.kept hk hd, h3, h4.kept hk hd, fun p hp => (h5 p hp).kept hk hd⟩
theorem OutIs.on {G : Nat → Prop} {w w' : World} {v : Value} {o : Out} (h : OutIs G w v o) (hb : Below w.heap.size w w') : OutIs G w' v o := h.kept (Kept.below (S := fun _ => False) hb) (fun _ _ _ e => e)
theorem OutIs.mono {G G' : Nat → Prop} {w : World} {v : Value} {o : Out} (h : OutIs G w v o) (hg : ∀ k, G k → G' k) : OutIs G' w v o := by
  obtain ⟨ra, rc, sa, sc, ps, h1, h2, h3, h4, h5⟩ := h
  exact ⟨ra, rc, sa, sc, ps, h1, h2.mono' hg, h3, h4.mono' hg, fun p hp => (h5 p hp).mono hg⟩
theorem OutIs.zero (G : Nat → Prop) (w : World) : OutIs G w (.agg #[.bool false, .int .i64 0, .int .i64 0, .int .i64 0, .slice none 0 0, .slice none 0 0]) Out.zero :=
  ⟨none, 0, none, 0, [], rfl, Src.nil _ _, rfl, Src.nil _ _, fun p hp => by cases hp⟩

/-! ### A replica -/
structure RepAt (w : World) (b : Nat) (lv : Value) (r : R) : Prop where
  blk : w.heap[b]? = some (.cells #[.int .i64 r.id, .int .i64 r.h.tm, .int .i64 r.h.vt, lv, .int .i64 r.role, .int .i64 r.cm, .int .i64 (r.nxt 0), .int .i64 (r.nxt 1), .int .i64 (r.nxt 2), .int .i64 (r.mat 0), .int .i64 (r.mat 1), .int .i64 (r.mat 2)] 75 (0, 0))
  row : RecRow w 0 lv r.l
  apart : lv.ownBlock ≠ some b
  fine : Fine r
theorem RepAt.lt {w : World} {b : Nat} {lv : Value} {r : R} (h : RepAt w b lv r) : b < w.heap.size := (Array.getElem?_eq_some_iff.1 h.blk).1
theorem RepAt.kept {w w' : World} {b : Nat} {lv : Value} {r : R} {S : Nat → Prop} (h : RepAt w b lv r) (hk : Kept S w w') (hb : ¬ S b) (hl : ∀ k, lv.ownBlock = some k → ¬ S k) : RepAt w' b lv r :=
  ⟨hk.heap h.blk hb, h.row.kept hk hl, h.apart, h.fine⟩
theorem RepAt.on {w w' : World} {b : Nat} {lv : Value} {r : R} (h : RepAt w b lv r) (hb : Below w.heap.size w w') : RepAt w' b lv r := h.kept (Kept.below (S := fun _ => False) hb) (fun e => e) (fun _ _ e => e)
/-- What is read of a replica in block b. -/
structure RepC (w : World) (b : Nat) (lv : Value) (r : R) : Prop where
  c0 : w.cell? ⟨b, 0, none⟩ = some (.int .i64 r.id)
  c1 : w.cell? ⟨b, 1, none⟩ = some (.int .i64 r.h.tm)
  c2 : w.cell? ⟨b, 2, none⟩ = some (.int .i64 r.h.vt)
  c3 : w.cell? ⟨b, 3, none⟩ = some lv
  c4 : w.cell? ⟨b, 4, none⟩ = some (.int .i64 r.role)
  c5 : w.cell? ⟨b, 5, none⟩ = some (.int .i64 r.cm)
  c6 : w.cell? ⟨b, 6, none⟩ = some (.int .i64 (r.nxt 0))
  c7 : w.cell? ⟨b, 7, none⟩ = some (.int .i64 (r.nxt 1))
  c8 : w.cell? ⟨b, 8, none⟩ = some (.int .i64 (r.nxt 2))
  c9 : w.cell? ⟨b, 9, none⟩ = some (.int .i64 (r.mat 0))
  c10 : w.cell? ⟨b, 10, none⟩ = some (.int .i64 (r.mat 1))
  c11 : w.cell? ⟨b, 11, none⟩ = some (.int .i64 (r.mat 2))
  z : ∀ o, w.frozen? ⟨b, o, none⟩ = false
theorem RepAt.c {w : World} {b : Nat} {lv : Value} {r : R} (h : RepAt w b lv r) : RepC w b lv r := by
  refine ⟨?_, ?_, ?_, ?_, ?_, ?_, ?_, ?_, ?_, ?_, ?_, ?_, fun o => Lib.frozen_of_heap h.blk o⟩ <;> (rw [Lib.cell_of_heap h.blk]; rfl)

/-! ### Variables in blocks of their own -/
theorem box_set {w : World} {b : Nat} {cs : Array Value} {T : TypeId} {f : Nat × Nat} (h : w.heap[b]? = some (.cells cs T f)) (o : Nat) (v : Value) : (w.setCell ⟨b, o, none⟩ v).heap[b]? = some (.cells (cs.setIfInBounds o v) T f) := by
  simp [World.setCell, Array.getElem?_modify, h]
theorem box_other {w : World} {b b' : Nat} {O : Obj} (h : w.heap[b]? = some O) (hne : b ≠ b') (o : Nat) (v : Value) : (w.setCell ⟨b', o, none⟩ v).heap[b]? = some O := (Kept.set b' o w v).heap h hne
theorem box_new (w : World) (O : Obj) : (w.alloc O).heap[w.heap.size]? = some O := heap_alloc_new w O
theorem box_on {w w' : World} {b : Nat} {O : Obj} (h : w.heap[b]? = some O) (hb : Below w.heap.size w w') : w'.heap[b]? = some O := (Kept.below (S := fun _ => False) hb).heap h (fun e => e)
theorem box_lt {w : World} {b : Nat} {O : Obj} (h : w.heap[b]? = some O) : b < w.heap.size := (Array.getElem?_eq_some_iff.1 h).1
theorem below_new (w : World) (O : Obj) : Below w.heap.size w (w.alloc O) := (Below.refl _ _).alloc (Nat.le_refl _) _
theorem below_drew {B : Nat} {w0 w : World} (h : Below B w0 w) : Below B w0 w.drew := ⟨h.os, h.tape, h.output, h.size, h.block⟩
theorem below_set {B : Nat} {w0 w : World} (h : Below B w0 w) {b : Nat} (hb : B ≤ b) (o : Nat) (v : Value) : Below B w0 (w.setCell ⟨b, o, none⟩ v) := h.setCell (p := ⟨b, o, none⟩) hb v
theorem cells2_set {w : World} {b : Nat} {T : TypeId} {x0 x1 : Value} (h : w.heap[b]? = some (.cells #[x0, x1] T (0, 0))) (y0 y1 : Value) :
    ((w.setCell ⟨b, 0, none⟩ y0).setCell ⟨b, 1, none⟩ y1).heap[b]? = some (.cells #[y0, y1] T (0, 0)) := by
  have h0 : (w.setCell ⟨b, 0, none⟩ y0).heap[b]? = some (.cells #[y0, x1] T (0, 0)) := box_set h 0 y0
  have h1 : ((w.setCell ⟨b, 0, none⟩ y0).setCell ⟨b, 1, none⟩ y1).heap[b]? = some (.cells #[y0, y1] T (0, 0)) := box_set h0 1 y1
  exact h1
theorem below_set2 {B : Nat} {w0 w : World} (h : Below B w0 w) {b : Nat} (hb : B ≤ b) (y0 y1 : Value) : Below B w0 ((w.setCell ⟨b, 0, none⟩ y0).setCell ⟨b, 1, none⟩ y1) := (below_set (below_set h hb 0 _) hb 1 _)
theorem cells6_set {w : World} {b : Nat} {T : TypeId} {x0 x1 x2 x3 x4 x5 : Value} (h : w.heap[b]? = some (.cells #[x0, x1, x2, x3, x4, x5] T (0, 0))) (y0 y1 y2 y3 y4 y5 : Value) :
    ((((((w.setCell ⟨b, 0, none⟩ y0).setCell ⟨b, 1, none⟩ y1).setCell ⟨b, 2, none⟩ y2).setCell ⟨b, 3, none⟩ y3).setCell ⟨b, 4, none⟩ y4).setCell ⟨b, 5, none⟩ y5).heap[b]? = some (.cells #[y0, y1, y2, y3, y4, y5] T (0, 0)) := by
  have h0 : (w.setCell ⟨b, 0, none⟩ y0).heap[b]? = some (.cells #[y0, x1, x2, x3, x4, x5] T (0, 0)) := box_set h 0 y0
  have h1 : ((w.setCell ⟨b, 0, none⟩ y0).setCell ⟨b, 1, none⟩ y1).heap[b]? = some (.cells #[y0, y1, x2, x3, x4, x5] T (0, 0)) := box_set h0 1 y1
  have h2 : (((w.setCell ⟨b, 0, none⟩ y0).setCell ⟨b, 1, none⟩ y1).setCell ⟨b, 2, none⟩ y2).heap[b]? = some (.cells #[y0, y1, y2, x3, x4, x5] T (0, 0)) := box_set h1 2 y2
  have h3 : ((((w.setCell ⟨b, 0, none⟩ y0).setCell ⟨b, 1, none⟩ y1).setCell ⟨b, 2, none⟩ y2).setCell ⟨b, 3, none⟩ y3).heap[b]? = some (.cells #[y0, y1, y2, y3, x4, x5] T (0, 0)) := box_set h2 3 y3
  have h4 : (((((w.setCell ⟨b, 0, none⟩ y0).setCell ⟨b, 1, none⟩ y1).setCell ⟨b, 2, none⟩ y2).setCell ⟨b, 3, none⟩ y3).setCell ⟨b, 4, none⟩ y4).heap[b]? = some (.cells #[y0, y1, y2, y3, y4, x5] T (0, 0)) := box_set h3 4 y4
  have h5 : ((((((w.setCell ⟨b, 0, none⟩ y0).setCell ⟨b, 1, none⟩ y1).setCell ⟨b, 2, none⟩ y2).setCell ⟨b, 3, none⟩ y3).setCell ⟨b, 4, none⟩ y4).setCell ⟨b, 5, none⟩ y5).heap[b]? = some (.cells #[y0, y1, y2, y3, y4, y5] T (0, 0)) := box_set h4 5 y5
  exact h5
theorem below_set6 {B : Nat} {w0 w : World} (h : Below B w0 w) {b : Nat} (hb : B ≤ b) (y0 y1 y2 y3 y4 y5 : Value) : Below B w0 ((((((w.setCell ⟨b, 0, none⟩ y0).setCell ⟨b, 1, none⟩ y1).setCell ⟨b, 2, none⟩ y2).setCell ⟨b, 3, none⟩ y3).setCell ⟨b, 4, none⟩ y4).setCell ⟨b, 5, none⟩ y5) := (below_set (below_set (below_set (below_set (below_set (below_set h hb 0 _) hb 1 _) hb 2 _) hb 3 _) hb 4 _) hb 5 _)
theorem cells9_set {w : World} {b : Nat} {T : TypeId} {x0 x1 x2 x3 x4 x5 x6 x7 x8 : Value} (h : w.heap[b]? = some (.cells #[x0, x1, x2, x3, x4, x5, x6, x7, x8] T (0, 0))) (y0 y1 y2 y3 y4 y5 y6 y7 y8 : Value) :
    (((((((((w.setCell ⟨b, 0, none⟩ y0).setCell ⟨b, 1, none⟩ y1).setCell ⟨b, 2, none⟩ y2).setCell ⟨b, 3, none⟩ y3).setCell ⟨b, 4, none⟩ y4).setCell ⟨b, 5, none⟩ y5).setCell ⟨b, 6, none⟩ y6).setCell ⟨b, 7, none⟩ y7).setCell ⟨b, 8, none⟩ y8).heap[b]? = some (.cells #[y0, y1, y2, y3, y4, y5, y6, y7, y8] T (0, 0)) := by
  have h0 : (w.setCell ⟨b, 0, none⟩ y0).heap[b]? = some (.cells #[y0, x1, x2, x3, x4, x5, x6, x7, x8] T (0, 0)) := box_set h 0 y0
  have h1 : ((w.setCell ⟨b, 0, none⟩ y0).setCell ⟨b, 1, none⟩ y1).heap[b]? = some (.cells #[y0, y1, x2, x3, x4, x5, x6, x7, x8] T (0, 0)) := box_set h0 1 y1
  have h2 : (((w.setCell ⟨b, 0, none⟩ y0).setCell ⟨b, 1, none⟩ y1).setCell ⟨b, 2, none⟩ y2).heap[b]? = some (.cells #[y0, y1, y2, x3, x4, x5, x6, x7, x8] T (0, 0)) := box_set h1 2 y2
  have h3 : ((((w.setCell ⟨b, 0, none⟩ y0).setCell ⟨b, 1, none⟩ y1).setCell ⟨b, 2, none⟩ y2).setCell ⟨b, 3, none⟩ y3).heap[b]? = some (.cells #[y0, y1, y2, y3, x4, x5, x6, x7, x8] T (0, 0)) := box_set h2 3 y3
  have h4 : (((((w.setCell ⟨b, 0, none⟩ y0).setCell ⟨b, 1, none⟩ y1).setCell ⟨b, 2, none⟩ y2).setCell ⟨b, 3, none⟩ y3).setCell ⟨b, 4, none⟩ y4).heap[b]? = some (.cells #[y0, y1, y2, y3, y4, x5, x6, x7, x8] T (0, 0)) := box_set h3 4 y4
  have h5 : ((((((w.setCell ⟨b, 0, none⟩ y0).setCell ⟨b, 1, none⟩ y1).setCell ⟨b, 2, none⟩ y2).setCell ⟨b, 3, none⟩ y3).setCell ⟨b, 4, none⟩ y4).setCell ⟨b, 5, none⟩ y5).heap[b]? = some (.cells #[y0, y1, y2, y3, y4, y5, x6, x7, x8] T (0, 0)) := box_set h4 5 y5
  have h6 : (((((((w.setCell ⟨b, 0, none⟩ y0).setCell ⟨b, 1, none⟩ y1).setCell ⟨b, 2, none⟩ y2).setCell ⟨b, 3, none⟩ y3).setCell ⟨b, 4, none⟩ y4).setCell ⟨b, 5, none⟩ y5).setCell ⟨b, 6, none⟩ y6).heap[b]? = some (.cells #[y0, y1, y2, y3, y4, y5, y6, x7, x8] T (0, 0)) := box_set h5 6 y6
  have h7 : ((((((((w.setCell ⟨b, 0, none⟩ y0).setCell ⟨b, 1, none⟩ y1).setCell ⟨b, 2, none⟩ y2).setCell ⟨b, 3, none⟩ y3).setCell ⟨b, 4, none⟩ y4).setCell ⟨b, 5, none⟩ y5).setCell ⟨b, 6, none⟩ y6).setCell ⟨b, 7, none⟩ y7).heap[b]? = some (.cells #[y0, y1, y2, y3, y4, y5, y6, y7, x8] T (0, 0)) := box_set h6 7 y7
  have h8 : (((((((((w.setCell ⟨b, 0, none⟩ y0).setCell ⟨b, 1, none⟩ y1).setCell ⟨b, 2, none⟩ y2).setCell ⟨b, 3, none⟩ y3).setCell ⟨b, 4, none⟩ y4).setCell ⟨b, 5, none⟩ y5).setCell ⟨b, 6, none⟩ y6).setCell ⟨b, 7, none⟩ y7).setCell ⟨b, 8, none⟩ y8).heap[b]? = some (.cells #[y0, y1, y2, y3, y4, y5, y6, y7, y8] T (0, 0)) := box_set h7 8 y8
  exact h8
theorem below_set9 {B : Nat} {w0 w : World} (h : Below B w0 w) {b : Nat} (hb : B ≤ b) (y0 y1 y2 y3 y4 y5 y6 y7 y8 : Value) : Below B w0 (((((((((w.setCell ⟨b, 0, none⟩ y0).setCell ⟨b, 1, none⟩ y1).setCell ⟨b, 2, none⟩ y2).setCell ⟨b, 3, none⟩ y3).setCell ⟨b, 4, none⟩ y4).setCell ⟨b, 5, none⟩ y5).setCell ⟨b, 6, none⟩ y6).setCell ⟨b, 7, none⟩ y7).setCell ⟨b, 8, none⟩ y8) := (below_set (below_set (below_set (below_set (below_set (below_set (below_set (below_set (below_set h hb 0 _) hb 1 _) hb 2 _) hb 3 _) hb 4 _) hb 5 _) hb 6 _) hb 7 _) hb 8 _)
theorem kept_set2 (w : World) (b : Nat) (y0 y1 : Value) : Kept (fun k => k = b) w ((w.setCell ⟨b, 0, none⟩ y0).setCell ⟨b, 1, none⟩ y1) := ((((Kept.refl _ _).trans (Kept.set b 0 _ _) (fun _ _ e => e))).trans (Kept.set b 1 _ _) (fun _ _ e => e))
theorem kept_set6 (w : World) (b : Nat) (y0 y1 y2 y3 y4 y5 : Value) : Kept (fun k => k = b) w ((((((w.setCell ⟨b, 0, none⟩ y0).setCell ⟨b, 1, none⟩ y1).setCell ⟨b, 2, none⟩ y2).setCell ⟨b, 3, none⟩ y3).setCell ⟨b, 4, none⟩ y4).setCell ⟨b, 5, none⟩ y5) := ((((((((((((Kept.refl _ _).trans (Kept.set b 0 _ _) (fun _ _ e => e))).trans (Kept.set b 1 _ _) (fun _ _ e => e))).trans (Kept.set b 2 _ _) (fun _ _ e => e))).trans (Kept.set b 3 _ _) (fun _ _ e => e))).trans (Kept.set b 4 _ _) (fun _ _ e => e))).trans (Kept.set b 5 _ _) (fun _ _ e => e))
theorem kept_set9 (w : World) (b : Nat) (y0 y1 y2 y3 y4 y5 y6 y7 y8 : Value) : Kept (fun k => k = b) w (((((((((w.setCell ⟨b, 0, none⟩ y0).setCell ⟨b, 1, none⟩ y1).setCell ⟨b, 2, none⟩ y2).setCell ⟨b, 3, none⟩ y3).setCell ⟨b, 4, none⟩ y4).setCell ⟨b, 5, none⟩ y5).setCell ⟨b, 6, none⟩ y6).setCell ⟨b, 7, none⟩ y7).setCell ⟨b, 8, none⟩ y8) := ((((((((((((((((((Kept.refl _ _).trans (Kept.set b 0 _ _) (fun _ _ e => e))).trans (Kept.set b 1 _ _) (fun _ _ e => e))).trans (Kept.set b 2 _ _) (fun _ _ e => e))).trans (Kept.set b 3 _ _) (fun _ _ e => e))).trans (Kept.set b 4 _ _) (fun _ _ e => e))).trans (Kept.set b 5 _ _) (fun _ _ e => e))).trans (Kept.set b 6 _ _) (fun _ _ e => e))).trans (Kept.set b 7 _ _) (fun _ _ e => e))).trans (Kept.set b 8 _ _) (fun _ _ e => e))
theorem sizeHard : (Tryz.prog.info? 39).map (·.size) = some 2 := by kernel_rfl
theorem sizeMsg : (Tryz.prog.info? 24).map (·.size) = some 9 := by kernel_rfl
theorem sizeOut : (Tryz.prog.info? 42).map (·.size) = some 6 := by kernel_rfl
theorem ret_hard {fn : Func} {p : Tmp} (hr : fn.results = #[.cell p 39]) (tmps : Array Value) (w : World) (b : Nat) (x y : Value) (hp : tmps.getD p undef = .pointer (some ⟨b, 0, none⟩)) (h : w.heap[b]? = some (.cells #[x, y] 39 (0, 0))) :
    (results fn tmps).run Tryz.prog w = .ok (.agg #[x, y]) w :=
  results_cell_row hr tmps w b _ _ _ _ hp h Tryz.underlying39 rfl (by rw [sizeHard]; rfl)
theorem ret_msg {fn : Func} {p : Tmp} (hr : fn.results = #[.cell p 24]) (tmps : Array Value) (w : World) (b : Nat) (m : PM) (hp : tmps.getD p undef = .pointer (some ⟨b, 0, none⟩)) (h : m.at w b) :
    (results fn tmps).run Tryz.prog w = .ok m.val w :=
  results_cell_row hr tmps w b _ _ _ _ hp h Tryz.underlying24 rfl (by rw [sizeMsg]; rfl)
theorem ret_out {fn : Func} {p : Tmp} (hr : fn.results = #[.cell p 42]) (tmps : Array Value) (w : World) (b : Nat) (x0 x1 x2 x3 x4 x5 : Value) (hp : tmps.getD p undef = .pointer (some ⟨b, 0, none⟩)) (h : w.heap[b]? = some (.cells #[x0, x1, x2, x3, x4, x5] 42 (0, 0))) :
    (results fn tmps).run Tryz.prog w = .ok (.agg #[x0, x1, x2, x3, x4, x5]) w :=
  results_cell_row hr tmps w b _ _ _ _ hp h Tryz.underlying42 rfl (by rw [sizeOut]; rfl)

/-! ### The small functions -/
theorem within_c (n a b : Int) (w : World) : Calls Tryz.prog 27 #[.int .i64 n, .int .i64 a, .int .i64 b] w fun e w' => e = .returned (.bool (decide (a ≤ n) && decide (n ≤ b))) ∧ w' = w := by
  by_cases h : a ≤ n
  · have e : (decide (a ≤ n) && decide (n ≤ b)) = decide (n ≤ b) := by simp [h]
    rw [e]
    clear e
    go_enter Tryz.func27, Tryz.ntmps27
    go_wp2_with fail
    go_ret
    exact ⟨rfl, rfl⟩
  · have e : (decide (a ≤ n) && decide (n ≤ b)) = false := by simp [h]
    rw [e]
    clear e
    go_enter Tryz.func27, Tryz.ntmps27
    go_wp2_with fail
    go_ret
    exact ⟨rfl, rfl⟩
theorem isReplica_c (n : Int) (w : World) : Calls Tryz.prog 41 #[.int .i64 n] w fun e w' => e = .returned (.bool (decide (0 ≤ n) && decide (n ≤ 2))) ∧ w' = w := by
  have Q := Lib.hid (fun a b c => within_c a b c w)
  go_enter Tryz.func41, Tryz.ntmps41
  go_wp2_with (go_at_call 27; refine (Q.out _ _ _).mono ?_; rintro e w1 ⟨rfl, hw⟩; rw [hw]; clear hw)
  go_ret
  exact ⟨rfl, rfl⟩
set_option maxHeartbeats 1000000 in
theorem rightRecs_c {G : Nat → Prop} {w : World} {a : Option Addr} {c : Nat} {l : List Rec} (h : Src G w a c l.length (recsV l)) (hn : l.length ≤ 9223372036854775807) (hd : ∀ x ∈ l, x.d.length ≤ 9223372036854775807) (least most : Int) :
    Calls Tryz.prog 60 #[.slice a l.length c, .int .i64 least, .int .i64 most] w fun e w' => e = .returned (.bool (sound l least most)) ∧ Below w.heap.size w w' := by
  obtain ⟨L, hL⟩ : ∃ L, L = l.length := ⟨_, rfl⟩
  have HS := Lib.hid (fun (W : World) (hW : Below w.heap.size w W) => h.on hW)
  have HL := Lib.hid hL
  have HD := Lib.hid hd
  have Q := Lib.hid within_c
  rw [← hL] at hn ⊢
  clear h hL hd
  go_enter Tryz.func60, Tryz.ntmps60
  go_wp2_with fail
  go_loopw [1, 11] (fun v1 v11 wr => ∃ (k : Nat) (p : Int), k ≤ L ∧ v1 = .int .i64 p ∧ v11 = .int .i64 (k : Int) ∧ sound l least most = sound (l.drop k) p most ∧ Below w.heap.size w wr) (fun _ v11 _ => L - (intOf v11).toNat)
  case atStart => exact ⟨0, least, Nat.zero_le _, rfl, rfl, rfl, Below.refl _ _⟩
  case round =>
    obtain ⟨k, p, hk, rfl, rfl, hs, hb⟩ := hrel
    by_cases hkl : k < L
    · have hkl' : (k : Int) < (L : Int) := by omega
      obtain ⟨x, hx⟩ : ∃ x, l[k]? = some x := ⟨l[k]'(by have := HL.out; omega), List.getElem?_eq_getElem _⟩
      obtain ⟨b, off, rfl, c0, c1⟩ := rec_cells (HS.out wr hb) rfl hx
      obtain ⟨W1, hW1⟩ : ∃ W1, W1 = wr.alloc (.cells #[.int .i64 x.t, .string ⟨x.d.toArray⟩] 27) := ⟨_, rfl⟩
      have hb1 : Below wr.heap.size wr W1 := by rw [hW1]; exact (Below.refl _ _).alloc (Nat.le_refl _) _
      have hx1 : W1.heap[wr.heap.size]? = some (.cells #[.int .i64 x.t, .string ⟨x.d.toArray⟩] 27) := by rw [hW1]; exact heap_alloc_new wr _
      have e0 : W1.cell? ⟨wr.heap.size, 0, none⟩ = some (.int .i64 x.t) := by rw [Lib.cell_of_heap hx1]; rfl
      have e1 : W1.cell? ⟨wr.heap.size, 1, none⟩ = some (.string ⟨x.d.toArray⟩) := by rw [Lib.cell_of_heap hx1]; rfl
      have hxd : x.d.length ≤ 9223372036854775807 := HD.out x (List.mem_of_getElem? hx)
      have HT := Lib.hid (show sound l least most = if x.t < p ∨ most < x.t ∨ 2000 < x.d.length then false else sound (l.drop (k + 1)) x.t most by
        rw [hs, List.drop_eq_getElem_cons (show k < l.length by have := HL.out; omega), sound_cons]
        obtain ⟨h1, h2⟩ := List.getElem?_eq_some_iff.1 hx
        rw [h2])
      have HB := Lib.hid (hb.trans (hb1.mono hb.size))
      clear hb hb1 hx1 hs hx
      cases hq : (decide (p ≤ x.t) && decide (x.t ≤ most)) with
      | false =>
        have hf : sound l least most = false := by
          rw [HT.out, if_pos]
          simp at hq
          omega
        have HQ := Lib.hid hq
        have HF := Lib.hid hf
        clear hq hf
        go_upto_region 4 with fail
        rw [← hW1]
        clear hW1 c0 c1
        go_wp2_with (go_at_call 27; refine (Q.out _ _ _ _).mono ?_; rintro e w1 ⟨rfl, hw⟩; rw [hw, HQ.out]; clear hw)
        go_ret
        exact ⟨by rw [HF.out]; rfl, HB.out⟩
      | true =>
        have hq2 := hq
        simp only [Bool.and_eq_true, decide_eq_true_eq] at hq2
        have HQ := Lib.hid hq
        have HQ2 := Lib.hid hq2
        clear hq hq2
        go_upto_region 4 with fail
        rw [← hW1]
        clear hW1 c0 c1
        by_cases hlen : 2000 < x.d.length
        · have hlen' : (2000 : Int) < (x.d.length : Int) := by omega
          have HF := Lib.hid (show sound l least most = false by rw [HT.out, if_pos (by omega)])
          go_wp2_with (go_at_call 27; refine (Q.out _ _ _ _).mono ?_; rintro e w1 ⟨rfl, hw⟩; rw [hw, HQ.out]; clear hw)
          go_ret
          exact ⟨by rw [HF.out]; rfl, HB.out⟩
        · have hlen' : ¬ (2000 : Int) < (x.d.length : Int) := by omega
          have HF := Lib.hid (show sound l least most = sound (l.drop (k + 1)) x.t most by rw [HT.out, if_neg (by have := HQ2.out; omega)])
          go_wp2_with (go_at_call 27; refine (Q.out _ _ _ _).mono ?_; rintro e w1 ⟨rfl, hw⟩; rw [hw, HQ.out]; clear hw)
          go_roundw
          case rel => exact ⟨k + 1, x.t, hkl, rfl, by go_num, HF.out, HB.out⟩
          case measure => simp [intOf]; omega
    · have hkl' : ¬ (k : Int) < (L : Int) := by omega
      have HF := Lib.hid (show sound l least most = true by rw [hs, sound_end (by have := HL.out; omega)])
      have HB := Lib.hid hb
      clear hb hs
      go_wp2_with fail
      go_ret
      exact ⟨by rw [HF.out]; rfl, HB.out⟩
theorem role_c {w : World} {b : Nat} {lv : Value} {r : R} (h : RepAt w b lv r) : Calls Tryz.prog 16 #[.pointer (some ⟨b, 0, none⟩)] w fun e w' => e = .returned (.int .i64 r.role) ∧ w' = w := by
  have c4 := h.c.c4
  clear h
  go_enter Tryz.func16, Tryz.ntmps16
  go_wp2_with fail
  go_ret
  exact ⟨rfl, rfl⟩
theorem commit_c {w : World} {b : Nat} {lv : Value} {r : R} (h : RepAt w b lv r) : Calls Tryz.prog 17 #[.pointer (some ⟨b, 0, none⟩)] w fun e w' => e = .returned (.int .i64 r.cm) ∧ w' = w := by
  have c5 := h.c.c5
  clear h
  go_enter Tryz.func17, Tryz.ntmps17
  go_wp2_with fail
  go_ret
  exact ⟨rfl, rfl⟩
theorem log_c {w : World} {b : Nat} {lv : Value} {r : R} (h : RepAt w b lv r) : Calls Tryz.prog 18 #[.pointer (some ⟨b, 0, none⟩)] w fun e w' => ∃ a c, e = .returned (.slice a r.l.length c) ∧ RecRow w' w.heap.size (.slice a r.l.length c) r.l ∧ Below w.heap.size w w' := by
  have c3 := h.c.c3
  obtain ⟨a, c, rfl, hc, _, hn⟩ := h.row.shape
  have Q := Lib.hid (clone_c (G := fun _ => True) a c r.l w (h.row.src (fun _ _ => trivial)) (by have := h.fine.len; omega))
  clear h hc hn
  go_enter Tryz.func18, Tryz.ntmps18
  go_wp2_with (go_at_call 43; refine Q.out.mono ?_; rintro e w1 ⟨a1, c1, rfl, h1, h2⟩)
  go_ret
  exact ⟨a1, c1, rfl, h1, h2⟩
/-- The term of an entry. -/
theorem termOf_c {w : World} {b : Nat} {lv : Value} {r : R} (h : RepAt w b lv r) (n : Int) (h0 : 0 ≤ n) (h1 : n ≤ (r.l.length : Int)) : Calls Tryz.prog 62 #[.pointer (some ⟨b, 0, none⟩), .int .i64 n] w fun e w' => e = .returned (.int .i64 (tI r.l n)) ∧ w' = w := by
  by_cases hz : n = 0
  · subst hz
    have e : tI r.l 0 = 0 := tI_out (by omega)
    rw [e]
    clear h e
    go_enter Tryz.func62, Tryz.ntmps62
    go_wp2_with fail
    go_ret
    exact ⟨rfl, rfl⟩
  · have c3 := h.c.c3
    obtain ⟨a, c, rfl, _⟩ := h.row.shape
    have hsrc : Src (fun _ => True) w a c r.l.length (recsV r.l) := h.row.src (fun _ _ => trivial)
    obtain ⟨k, hk⟩ : ∃ k : Nat, n = (k : Int) + 1 := ⟨(n - 1).toNat, by omega⟩
    obtain ⟨x, hx⟩ : ∃ x, r.l[k]? = some x := ⟨r.l[k]'(by omega), List.getElem?_eq_getElem _⟩
    obtain ⟨g, off, rfl, d0, d1⟩ := rec_cells hsrc rfl hx
    have e : tI r.l n = x.t := by
      rw [tI_in (by omega) h1]
      have e1 : n.toNat - 1 = k := by omega
      obtain ⟨h3, h4⟩ := List.getElem?_eq_some_iff.1 hx
      simp only [e1, h4]
    rw [e]
    have hl := h.fine.len
    have hw : IntKind.i64.wrap (n - 1) = (k : Int) := by rw [show n - 1 = (k : Int) by omega]; rw [IntKind.wrap_i64]; omega
    have hz' : (n == 0) = false := by simpa using hz
    have hkl : (k : Int) < (r.l.length : Int) := by omega
    obtain ⟨L, hL⟩ : ∃ L, L = r.l.length := ⟨_, rfl⟩
    rw [← hL] at c3 hkl
    clear h hsrc hx e hk h1 hL hl hz h0
    go_enter Tryz.func62, Tryz.ntmps62
    go_wp2_with fail
    go_ret
    exact ⟨rfl, rfl⟩

/-- A message of a replica, as yet without anything. -/
def PM.zero : PM := ⟨⟨0, 0, 0, 0, 0, 0, 0, false, []⟩, none, 0⟩
/-- The cells of a message in a block of its own. -/
structure PMC (p : PM) (w : World) (b : Nat) : Prop where
  c0 : w.cell? ⟨b, 0, none⟩ = some (.int .i64 p.m.k)
  c1 : w.cell? ⟨b, 1, none⟩ = some (.int .i64 p.m.fr)
  c2 : w.cell? ⟨b, 2, none⟩ = some (.int .i64 p.m.dst)
  c3 : w.cell? ⟨b, 3, none⟩ = some (.int .i64 p.m.tm)
  c4 : w.cell? ⟨b, 4, none⟩ = some (.int .i64 p.m.ix)
  c5 : w.cell? ⟨b, 5, none⟩ = some (.int .i64 p.m.pv)
  c6 : w.cell? ⟨b, 6, none⟩ = some (.int .i64 p.m.cm)
  c7 : w.cell? ⟨b, 7, none⟩ = some (.bool p.m.yes)
  c8 : w.cell? ⟨b, 8, none⟩ = some (.slice p.a p.m.rs.length p.c)
  z : ∀ o, w.frozen? ⟨b, o, none⟩ = false
theorem PM.at.c {p : PM} {w : World} {b : Nat} (h : p.at w b) : PMC p w b := by
  refine ⟨?_, ?_, ?_, ?_, ?_, ?_, ?_, ?_, ?_, fun o => Lib.frozen_of_heap h o⟩ <;> (rw [Lib.cell_of_heap h]; rfl)
theorem PM.at.set9 {p : PM} {w : World} {b : Nat} (h : p.at w b) (q : PM) : q.at (((((((((w.setCell ⟨b, 0, none⟩ (.int .i64 q.m.k)).setCell ⟨b, 1, none⟩ (.int .i64 q.m.fr)).setCell ⟨b, 2, none⟩ (.int .i64 q.m.dst)).setCell ⟨b, 3, none⟩ (.int .i64 q.m.tm)).setCell ⟨b, 4, none⟩ (.int .i64 q.m.ix)).setCell ⟨b, 5, none⟩ (.int .i64 q.m.pv)).setCell ⟨b, 6, none⟩ (.int .i64 q.m.cm)).setCell ⟨b, 7, none⟩ (.bool q.m.yes)).setCell ⟨b, 8, none⟩ (.slice q.a q.m.rs.length q.c)) b := cells9_set h _ _ _ _ _ _ _ _ _
theorem PM.at.drew {p : PM} {w : World} {b : Nat} (h : p.at w b) : p.at w.drew b := h
set_option maxHeartbeats 1000000 in
theorem message_c {w : World} {b : Nat} {lv : Value} {r : R} (h : RepAt w b lv r) (k dst : Int) : Calls Tryz.prog 61 #[.pointer (some ⟨b, 0, none⟩), .int .i64 k, .int .i64 dst] w fun e w' => e = .returned (PM.val ⟨msg r k dst, none, 0⟩) ∧ Below w.heap.size w w' := by
  obtain ⟨W1, hW1⟩ : ∃ W1, W1 = w.alloc (.cells #[.int .i64 0, .int .i64 0, .int .i64 0, .int .i64 0, .int .i64 0, .int .i64 0, .int .i64 0, .bool false, .slice none 0 0] 24) := ⟨_, rfl⟩
  have hb1 : Below w.heap.size w W1 := by rw [hW1]; exact below_new w _
  have hx1 : PM.zero.at W1 w.heap.size := by rw [hW1]; exact box_new w _
  have hc := (h.on hb1).c
  have c0 := hc.c0
  have c1 := hc.c1
  have hp := hx1.c
  have d0 := hp.c0
  have d1 := hp.c1
  have d2 := hp.c2
  have d3 := hp.c3
  have d4 := hp.c4
  have d5 := hp.c5
  have d6 := hp.c6
  have d7 := hp.c7
  have d8 := hp.c8
  have z0 := hp.z 0
  have z1 := hp.z 1
  have z2 := hp.z 2
  have z3 := hp.z 3
  have z4 := hp.z 4
  have z5 := hp.z 5
  have z6 := hp.z 6
  have z7 := hp.z 7
  have z8 := hp.z 8
  have HB := Lib.hid hb1
  have HX := Lib.hid hx1
  clear h hc hb1 hx1 hp
  go_enter Tryz.func61, Tryz.ntmps61
  go_upto_region 1 with fail
  rw [← hW1]
  clear hW1
  go_wp2_with fail
  go_region
  go_wp2_with fail
  (try simp only [Exit.inBlock, Exit.then])
  refine bodyPost_ret (ret_msg rfl _ _ w.heap.size ⟨msg r k dst, none, 0⟩ rfl (HX.out.set9 ⟨msg r k dst, none, 0⟩).drew) rfl ?_
  exact ⟨rfl, below_drew (below_set9 HB.out (Nat.le_refl _) _ _ _ _ _ _ _ _ _)⟩
end Go.Proofs.YtkmojcpiadpbaaaGreatDoor
