/-
  Two replicas in one memory beside blocks that are held.
  The law's examples.
  The law's examples: the walk.
-/
import Derived.Test.YtkmojcpiadpbaaaGreatDoorRHearC
import Derived.Test.YtkmojcpiadpbaaaGreatDoorRProp
import Derived.Test.YtkmojcpiadpbaaaGreatDoorRNew
namespace Go.Proofs.YtkmojcpiadpbaaaGreatDoor
set_option maxRecDepth 100000
open Go Go.RowKit Rp

theorem OutIs.mono2 {G G' : Nat → Prop} {w : World} {v : Value} {o : Out} (h : OutIs G w v o) (hg : ∀ k, k < w.heap.size → G k → G' k) : OutIs G' w v o := by
  obtain ⟨ra, rc, sa, sc, ps, h1, h2, h3, h4, h5⟩ := h
  refine ⟨ra, rc, sa, sc, ps, h1, h2.mono hg (fun h0 e => ?_), h3, h4.mono hg (fun h0 e => ?_), fun p hp => Src.mono (h5 p hp) hg (fun h0 e => ?_)⟩
  · have := recsV_length o.rs; rw [e] at this; simp at this; omega
  · have := msgsV_length ps; rw [e] at this; simp at this; omega
  · have := recsV_length p.m.rs; rw [e] at this; simp at this; omega
/-- A result, taken apart. -/
theorem OutIs.parts {G : Nat → Prop} {w : World} {o : Out} {xs : Bool} {xt xv xf : Int} {xa : Option Addr} {xn xc : Nat} {ya : Option Addr} {yn yc : Nat} (h : OutIs G w (.agg #[.bool xs, .int .i64 xt, .int .i64 xv, .int .i64 xf, .slice xa xn xc, .slice ya yn yc]) o) :
    xs = o.save ∧ xt = o.h.tm ∧ xv = o.h.vt ∧ xf = o.fr ∧ xn = o.rs.length ∧ yn = o.send.length ∧ Src G w xa xc o.rs.length (recsV o.rs) ∧ ∃ ps : List PM, ps.length = yn ∧ ps.map PM.m = o.send ∧ Src G w ya yc yn (msgsV ps) ∧ ∀ p ∈ ps, p.ok G w := by
  obtain ⟨ra, rc, sa, sc, ps, h1, h2, h3, h4, h5⟩ := h
  injection h1 with h1
  simp only [Array.mk.injEq, List.cons.injEq, and_true, Value.bool.injEq, Value.int.injEq, Value.slice.injEq, true_and] at h1
  obtain ⟨q0, q1, q2, q3, ⟨q4, q5, q6⟩, q7, q8, q9⟩ := h1
  subst q0 q1 q2 q3 q4 q5 q6 q7 q8 q9
  exact ⟨rfl, rfl, rfl, rfl, rfl, by rw [← h3, List.length_map], h2, ps, rfl, h3, h4, h5⟩
/-- The cells of a message in a row of messages. -/
structure MCell (p : PM) (w : World) (b o : Nat) : Prop where
  c0 : w.cell? ⟨b, o, none⟩ = some (.int .i64 p.m.k)
  c1 : w.cell? ⟨b, o + 1, none⟩ = some (.int .i64 p.m.fr)
  c2 : w.cell? ⟨b, o + 2, none⟩ = some (.int .i64 p.m.dst)
  c3 : w.cell? ⟨b, o + 3, none⟩ = some (.int .i64 p.m.tm)
  c4 : w.cell? ⟨b, o + 4, none⟩ = some (.int .i64 p.m.ix)
  c5 : w.cell? ⟨b, o + 5, none⟩ = some (.int .i64 p.m.pv)
  c6 : w.cell? ⟨b, o + 6, none⟩ = some (.int .i64 p.m.cm)
  c7 : w.cell? ⟨b, o + 7, none⟩ = some (.bool p.m.yes)
  c8 : w.cell? ⟨b, o + 8, none⟩ = some (.slice p.a p.m.rs.length p.c)
theorem msg_cells {G : Nat → Prop} {w : World} {a : Option Addr} {c n : Nat} {l : List PM} (h : Src G w a c n (msgsV l)) (hn : n = l.length) {k : Nat} {p : PM} (hp : l[k]? = some p) : ∃ b off, a = some ⟨b, off, none⟩ ∧ G b ∧ MCell p w b (off + k * 9) := by
  have hk : k < l.length := (List.getElem?_eq_some_iff.1 hp).1
  obtain ⟨b, off, h1, h2, h3⟩ := h.2 (by omega)
  have hc : ∀ j u, p.cells[j]? = some u → w.cell? ⟨b, off + k * 9 + j, none⟩ = some u := fun j u hu => by
    have := h3 _ _ (msgsV_get l k p hp j u hu)
    rwa [← Nat.add_assoc] at this
  exact ⟨b, off, h1, h2, ⟨hc 0 _ rfl, hc 1 _ rfl, hc 2 _ rfl, hc 3 _ rfl, hc 4 _ rfl, hc 5 _ rfl, hc 6 _ rfl, hc 7 _ rfl, hc 8 _ rfl⟩⟩
theorem MCell.kept {p : PM} {w w' : World} {b o : Nat} {S : Nat → Prop} (h : MCell p w b o) (hk : Kept S w w') (hb : ¬ S b) : MCell p w' b o :=
  ⟨hk.cell h.c0 hb, hk.cell h.c1 hb, hk.cell h.c2 hb, hk.cell h.c3 hb, hk.cell h.c4 hb, hk.cell h.c5 hb, hk.cell h.c6 hb, hk.cell h.c7 hb, hk.cell h.c8 hb⟩
/-- The blocks of a replica. -/
def Own (b : Nat) (lv : Value) (k : Nat) : Prop := k = b ∨ lv.ownBlock = some k
theorem RepAt.own_lt {w : World} {b : Nat} {lv : Value} {r : R} (h : RepAt w b lv r) {k : Nat} (hk : Own b lv k) : k < w.heap.size := hk.elim (fun e => by rw [e]; exact h.lt) (fun e => h.row.lt e)
theorem RepAt.far {w w' : World} {b : Nat} {lv : Value} {r : R} {S : Nat → Prop} (h : RepAt w b lv r) (hk : Kept S w w') (hd : ∀ k, Own b lv k → ¬ S k) : RepAt w' b lv r := h.kept hk (hd _ (Or.inl rfl)) (fun k e => hd k (Or.inr e))
/-- A replica, and blocks that are none of its. -/
structure RF (w : World) (b : Nat) (lv : Value) (r : R) (F : Nat → Prop) : Prop where
  rep : RepAt w b lv r
  far : ∀ k, Own b lv k → ¬ F k
  flt : ∀ k, F k → k < w.heap.size
/-- The blocks that are held once a call is over: its result's too. -/
def Fro (F : Nat → Prop) (w w' : World) (b : Nat) (lv : Value) (k : Nat) : Prop := F k ∨ (w.heap.size ≤ k ∧ k < w'.heap.size ∧ ¬ Own b lv k)
theorem RF.did {w w' : World} {b : Nat} {lv : Value} {r r' : R} {F : Nat → Prop} {v : Value} {o : Out} (h : RF w b lv r F) (hd : Did w w' b lv r' v o) :
    ∃ lv', RF w' b lv' r' (Fro F w w' b lv') ∧ OutIs (fun k => Fro F w w' b lv' k ∧ w.heap.size ≤ k) w' v o ∧ Kept (fun k => Own b lv k) w w' ∧ (∀ k, Own b lv' k → Own b lv k ∨ (w.heap.size ≤ k ∧ k < w'.heap.size)) := by
  obtain ⟨lv', h1, h2, h3, h4⟩ := hd
  have hs := h3.size
  have hbl := h.rep.lt
  have hnew : ∀ k, Own b lv' k → Own b lv k ∨ (w.heap.size ≤ k ∧ k < w'.heap.size) := fun k e => by
    rcases e with e | e
    · exact Or.inl (Or.inl e)
    · rcases h2 with q | ⟨y, q, q2⟩
      · exact Or.inl (Or.inr (by rw [← q]; exact e))
      · exact Or.inr ⟨by rw [q] at e; injection e with e; omega, h1.row.lt e⟩
  refine ⟨lv', ⟨h1, fun k e hf => ?_, fun k hf => ?_⟩, h4.mono2 (fun k hk hg => ⟨Or.inr ⟨hg.1, hk, fun e => ?_⟩, hg.1⟩), h3, hnew⟩
  · rcases hf with hf | hf
    · rcases hnew k e with q | q
      · exact h.far k q hf
      · have := h.flt k hf; omega
    · exact hf.2.2 e
  · rcases hf with hf | hf
    · exact Nat.lt_of_lt_of_le (h.flt k hf) hs
    · exact hf.2.1
  · rcases e with e | e
    · omega
    · exact hg.2 e
theorem RF.on {w w' : World} {b : Nat} {lv : Value} {r : R} {F F' : Nat → Prop} (h : RF w b lv r F) (hb : Below w.heap.size w w') (hF : ∀ k, F' k → (F k ∨ w.heap.size ≤ k) ∧ k < w'.heap.size) : RF w' b lv r F' :=
  ⟨h.rep.on hb, fun k e hf => by
    rcases (hF k hf).1 with q | q
    · exact h.far k e q
    · have := h.rep.own_lt e; omega, fun k hf => (hF k hf).2⟩
/-- Two replicas. -/
structure Two (w : World) (pa : Nat) (la : Value) (ra : R) (pb : Nat) (lb : Value) (rb : R) : Prop where
  a : RepAt w pa la ra
  b : RepAt w pb lb rb
  apart : ∀ k, Own pa la k → ¬ Own pb lb k
theorem Two.flip {w : World} {pa : Nat} {la : Value} {ra : R} {pb : Nat} {lb : Value} {rb : R} (h : Two w pa la ra pb lb rb) : Two w pb lb rb pa la ra := ⟨h.b, h.a, fun k e e' => h.apart k e' e⟩
theorem Two.on {w w' : World} {pa : Nat} {la : Value} {ra : R} {pb : Nat} {lb : Value} {rb : R} (h : Two w pa la ra pb lb rb) (hb : Below w.heap.size w w') : Two w' pa la ra pb lb rb := ⟨h.a.on hb, h.b.on hb, h.apart⟩
/-- A block that is none of theirs. -/
def Free (w : World) (pa : Nat) (la : Value) (pb : Nat) (lb : Value) (k : Nat) : Prop := k < w.heap.size ∧ ¬ Own pa la k ∧ ¬ Own pb lb k
theorem Free.flip {w : World} {pa : Nat} {la : Value} {pb : Nat} {lb : Value} {k : Nat} (h : Free w pa la pb lb k) : Free w pb lb pa la k := ⟨h.1, h.2.2, h.2.1⟩
theorem Two.did {w w' : World} {pa : Nat} {la : Value} {ra ra' : R} {pb : Nat} {lb : Value} {rb : R} {v : Value} {o : Out} (h : Two w pa la ra pb lb rb) (hd : Did w w' pa la ra' v o) :
    ∃ la', Two w' pa la' ra' pb lb rb ∧ OutIs (Free w' pa la' pb lb) w' v o ∧ Kept (fun k => Own pa la k) w w' ∧ (∀ k, Free w pa la pb lb k → Free w' pa la' pb lb k) := by
  obtain ⟨lv', h1, h2, h3, h4⟩ := hd
  have hs := h3.size
  have hnew : ∀ k, Own pa lv' k → Own pa la k ∨ w.heap.size ≤ k := fun k e => by
    rcases e with e | e
    · exact Or.inl (Or.inl e)
    · rcases h2 with q | ⟨y, q, q2⟩
      · exact Or.inl (Or.inr (by rw [← q]; exact e))
      · exact Or.inr (by rw [q] at e; injection e with e; omega)
  refine ⟨lv', ⟨h1, h.b.far h3 (fun k e e' => h.apart k e' e), fun k e e' => ?_⟩, h4.mono2 (fun k hk hg => ⟨hk, fun e => ?_, fun e => ?_⟩), h3, fun k hf => ⟨Nat.lt_of_lt_of_le hf.1 hs, fun e => ?_, hf.2.2⟩⟩
  · rcases hnew k e with q | q
    · exact h.apart k q e'
    · have := h.b.own_lt e'; omega
  · rcases e with e | e
    · have := h.a.lt; omega
    · exact hg.2 e
  · have := h.b.own_lt e; omega
  · rcases hnew k e with q | q
    · exact hf.2.1 q
    · have := hf.1; omega
theorem Free.on {w w' : World} {pa : Nat} {la : Value} {pb : Nat} {lb : Value} {k : Nat} (h : Free w pa la pb lb k) (hs : w.heap.size ≤ w'.heap.size) : Free w' pa la pb lb k := ⟨Nat.lt_of_lt_of_le h.1 hs, h.2⟩
theorem Two.new {w w' : World} {pa : Nat} {la : Value} {ra : R} {pb : Nat} {lb : Value} {rb : R} (h : Two w pa la ra pb lb rb) (hs : w.heap.size < w'.heap.size) : Free w' pa la pb lb w.heap.size := ⟨hs, fun e => by have := h.a.own_lt e; omega, fun e => by have := h.b.own_lt e; omega⟩
end Go.Proofs.YtkmojcpiadpbaaaGreatDoor

namespace Go.Proofs.YtkmojcpiadpbaaaGreatDoor
set_option maxRecDepth 100000
open Go Go.RowKit Rp

def q0 : R := ⟨0, ⟨0, -1⟩, [], 0, 0, fun _ => false, fun _ => 0, fun _ => 0⟩
def q1 : R := ⟨1, ⟨0, -1⟩, [], 0, 0, fun _ => false, fun _ => 0, fun _ => 0⟩
def e1 : Msg := ⟨0, 0, 1, 1, 0, 0, 0, false, []⟩
def e2 : Msg := ⟨1, 1, 0, 1, 0, 0, 0, true, []⟩
def e4 : Msg := ⟨2, 0, 1, 1, 0, 0, 0, false, [⟨1, [97]⟩]⟩
def e5 : Msg := ⟨3, 1, 0, 1, 1, 0, 0, true, []⟩
theorem x_new0 : newR 0 ⟨0, -1⟩ [] = some q0 := rfl
theorem x_new1 : newR 1 ⟨0, -1⟩ [] = some q1 := rfl
theorem x1 : (tickR q0).2 = ⟨true, ⟨1, 0⟩, 0, [], [e1, ⟨0, 0, 2, 1, 0, 0, 0, false, []⟩]⟩ := by decide
theorem x2 : (hearR q1 e1).2 = ⟨true, ⟨1, 0⟩, 0, [], [e2]⟩ := by decide
theorem x3 : (hearR (tickR q0).1 e2).2 = ⟨false, ⟨0, 0⟩, 0, [], [⟨2, 0, 1, 1, 0, 0, 0, false, []⟩, ⟨2, 0, 2, 1, 0, 0, 0, false, []⟩]⟩ := by decide
theorem x4 : (proposeR (hearR (tickR q0).1 e2).1 [97]).2 = (1, 0, ⟨false, ⟨0, 0⟩, 1, [⟨1, [97]⟩], [e4, ⟨2, 0, 2, 1, 0, 0, 0, false, [⟨1, [97]⟩]⟩]⟩) := by decide
theorem x4r : (proposeR (hearR (tickR q0).1 e2).1 [97]).1.role = 2 := by decide
theorem x5 : (hearR (hearR q1 e1).1 e4).2 = ⟨false, ⟨0, 0⟩, 1, [⟨1, [97]⟩], [e5]⟩ := by decide
theorem x5l : (hearR (hearR q1 e1).1 e4).1.l.length = 1 := by decide
theorem x6c : (hearR (proposeR (hearR (tickR q0).1 e2).1 [97]).1 e5).1.cm = 1 := by decide
theorem x6l : (hearR (proposeR (hearR (tickR q0).1 e2).1 [97]).1 e5).1.l.length = 1 := by decide
/-- The first message of a list. -/
theorem first_msg {G : Nat → Prop} {w : World} {ya : Option Addr} {yc yn : Nat} {ps : List PM} {m : Msg} {rest : List Msg} (h1 : ps.length = yn) (h2 : ps.map PM.m = m :: rest) (h3 : Src G w ya yc yn (msgsV ps)) (h5 : ∀ p ∈ ps, p.ok G w) : ∃ pa pc b off, ya = some ⟨b, off, none⟩ ∧ G b ∧ MCell ⟨m, pa, pc⟩ w b off ∧ PM.ok G w ⟨m, pa, pc⟩ := by
  cases ps with
  | nil => cases h2
  | cons p ps =>
    rw [List.map_cons] at h2
    injection h2 with h2 _
    subst h2
    obtain ⟨b, off, q1, q2, q3⟩ := msg_cells h3 h1.symm (k := 0) (p := p) rfl
    rw [Nat.zero_mul, Nat.add_zero] at q3
    exact ⟨p.a, p.c, b, off, q1, q2, q3, h5 p (List.mem_cons_self ..)⟩
/-- A call of one of two replicas; its result is put into a variable of its own. -/
theorem step_x {w0 W w' U : World} {pa : Nat} {la : Value} {ra ra' : R} {pb : Nat} {lb : Value} {rb : R} {o : Out} {s : Bool} {t v f : Int} {rs : List Rec} {m : Msg} {ms : List Msg} {xs : Bool} {xt xv xf : Int} {xa : Option Addr} {xn xc : Nat} {ya : Option Addr} {yn yc : Nat} (h : Two W pa la ra pb lb rb) (hb : Below w0.heap.size w0 W) (ho : (∀ k, Own pa la k → w0.heap.size ≤ k) ∧ (∀ k, Own pb lb k → w0.heap.size ≤ k)) (hd : Did W w' pa la ra' (.agg #[.bool xs, .int .i64 xt, .int .i64 xv, .int .i64 xf, .slice xa xn xc, .slice ya yn yc]) o) (he : o = ⟨s, ⟨t, v⟩, f, rs, m :: ms⟩) (hU : U = w'.alloc (.cells #[.bool xs, .int .i64 xt, .int .i64 xv, .int .i64 xf, .slice xa xn xc, .slice ya yn yc] 42)) :
    xs = s ∧ xt = t ∧ xv = v ∧ xf = f ∧ xn = rs.length ∧ yn = ms.length + 1 ∧ ∃ la', Two U pa la' ra' pb lb rb ∧ Below w0.heap.size w0 U ∧ ((∀ k, Own pa la' k → w0.heap.size ≤ k) ∧ (∀ k, Own pb lb k → w0.heap.size ≤ k)) ∧ Kept (fun k => Own pa la k) W U ∧ U.heap[w'.heap.size]? = some (.cells #[.bool xs, .int .i64 xt, .int .i64 xv, .int .i64 xf, .slice xa xn xc, .slice ya yn yc] 42 (0, 0)) ∧ Free U pa la' pb lb w'.heap.size ∧ (∀ k, Free W pa la pb lb k → Free U pa la' pb lb k) ∧
      ∃ ma mc mb mo, ya = some ⟨mb, mo, none⟩ ∧ Free U pa la' pb lb mb ∧ MCell ⟨m, ma, mc⟩ U mb mo ∧ PM.ok (Free U pa la' pb lb) U ⟨m, ma, mc⟩ := by
  subst he
  obtain ⟨la', h1, h2, h3, h4⟩ := h.did hd
  obtain ⟨p0, p1, p2, p3, p4, p5, _, ps, p6, p7, p8, p9⟩ := h2.parts
  have hs3 := h3.size
  have hal : Below w'.heap.size w' U := by rw [hU]; exact below_new _ _
  have hUs : U.heap.size = w'.heap.size + 1 := by rw [hU]; simp
  have hkU : Kept (fun k => Own pa la k) W U := h3.trans (Kept.below (S := fun _ => False) hal) (fun _ _ e => e.elim)
  obtain ⟨ma, mc, mb, mo, r1, r2, r3, r4⟩ := first_msg p6 p7 p8 p9
  obtain ⟨lv9, g1, g2, g3, g4⟩ := hd
  have hown : ∀ k, Own pa la' k → w0.heap.size ≤ k := fun k e => by
    rcases Nat.lt_or_ge k W.heap.size with q | q
    · apply Classical.byContradiction
      intro hc
      have hf : Free W pa la pb lb k := ⟨q, fun e' => hc (ho.1 k e'), fun e' => hc (ho.2 k e')⟩
      exact (h4 k hf).2.1 e
    · have := hb.size; omega
  refine ⟨p0, p1, p2, p3, p4, p5, la', h1.on hal, hb.trans (hkU.toBelow hb.size (fun k e => ho.1 k e)), ⟨hown, ho.2⟩, hkU, by rw [hU]; exact box_new _ _, h1.new (by omega), fun k hf => (h4 k hf).on hal.size, ma, mc, mb, mo, r1, r2.on hal.size, r3.kept (Kept.below (S := fun _ => False) hal) (fun e => e), (PM.ok.on r4 hal).mono (fun k hf => hf.on hal.size)⟩
end Go.Proofs.YtkmojcpiadpbaaaGreatDoor

namespace Go.Proofs.YtkmojcpiadpbaaaGreatDoor
set_option maxRecDepth 100000
open Go Go.RowKit Rp

theorem new_x (i : Int) (q : R) (hq : newR i ⟨0, -1⟩ [] = some q) (W : World) : Calls Tryz.prog 12 #[.int .i64 i, .agg #[.int .i64 0, .int .i64 (-1)], .slice none 0 0] W fun e w' => ∃ bn, e = .returned (.pointer (some ⟨bn, 0, none⟩)) ∧ Hid (∃ lv, RepAt w' bn lv q ∧ W.heap.size ≤ bn ∧ (∀ k, lv.ownBlock = some k → W.heap.size ≤ k) ∧ Below W.heap.size W w') :=
  (new_c (G := fun _ => True) i ⟨0, -1⟩ none 0 [] (Src.nil _ _) (by simp) (fun x hx => by cases hx)).mono (fun e w' hh => by
    obtain ⟨h1, _, h3⟩ := hh
    obtain ⟨bn, lv, q1, q2, q3, q4⟩ := h1 q hq
    exact ⟨bn, q1, Lib.hid ⟨lv, q2, q3, q4, h3⟩⟩)
set_option maxHeartbeats 2000000 in
theorem small_c (w : World) : Calls Tryz.prog 4 #[] w fun e w' => e = .returned (.bool true) ∧ Below w.heap.size w w' := by
  have QN0 := Lib.hid (new_x 0 q0 x_new0 w)
  have QN1 := Lib.hid (new_x 1 q1 x_new1)
  have hnq : ∀ W, (binOp .neq 39 (.agg #[.int .i64 1, .int .i64 0]) (.agg #[.int .i64 1, .int .i64 0])).run Tryz.prog W = .ok (.bool false) W := fun W => by rw [neq_hard]; rfl
  go_enter Tryz.func4, Tryz.ntmps4
  go_upto_region 3 with (first | ((with_reducible refine QN0.out.mono ?_); rintro e w1 ⟨pa, rfl, HA⟩) | ((with_reducible refine (QN1.out _).mono ?_); rintro e w2 ⟨pb, rfl, HB⟩))
  obtain ⟨la0, ha1, ha2, ha3, ha4⟩ := HA.out
  obtain ⟨lb0, hb1, hb2, hb3, hb4⟩ := HB.out
  have T0 := Lib.hid (show Two w2 pa la0 q0 pb lb0 q1 from ⟨ha1.on hb4, hb1, fun k e e' => by
    have h1 := ha1.own_lt e
    rcases e' with q | q
    · omega
    · have := hb3 k q; omega⟩)
  have B0 := Lib.hid (show Below w.heap.size w w2 from ha4.trans (hb4.mono ha4.size))
  have O0 := Lib.hid (show (∀ k, Own pa la0 k → w.heap.size ≤ k) ∧ (∀ k, Own pb lb0 k → w.heap.size ≤ k) from ⟨fun k e => e.elim (fun e => by omega) (fun e => ha3 k e), fun k e => e.elim (fun e => by have := ha4.size; omega) (fun e => by have := hb3 k e; have := ha4.size; omega)⟩)
  clear ha1 ha2 ha3 ha4 hb1 hb2 hb3 hb4 HA HB QN0 QN1
  have QT := Lib.hid (tick_c T0.out.a)
  go_upto_region 6 with ((with_reducible refine QT.out.mono ?_); rintro e v1 ⟨xs1, xt1, xv1, xf1, xa1, xn1, xc1, ya1, yn1, yc1, rfl, HD1⟩)
  obtain ⟨U1, hU1⟩ : ∃ U1, U1 = v1.alloc (.cells #[.bool xs1, .int .i64 xt1, .int .i64 xv1, .int .i64 xf1, .slice xa1 xn1 xc1, .slice ya1 yn1 yc1] 42) := ⟨_, rfl⟩
  obtain ⟨rfl, rfl, rfl, rfl, hxn1, hyn1, l1, ht1, hb1, ho1, hk1, hx1, hf1, hff1, ma1, mc1, mb1, mo1, rfl, hm1, hmc1, hok1⟩ := step_x T0.out B0.out O0.out HD1.out x1 hU1
  have hxn : xn1 = 0 := hxn1
  have hyn : yn1 = 2 := hyn1
  clear hxn1 hyn1
  subst hxn hyn
  have T1 := Lib.hid ht1
  have B1 := Lib.hid hb1
  have O1 := Lib.hid ho1
  have HX1 := Lib.hid hx1
  have HF1 := Lib.hid hf1
  have HK1 := Lib.hid (And.intro hk1 hff1)
  have HM1 := Lib.hid (And.intro hm1 (And.intro hmc1 hok1))
  rw [← hU1]
  clear hU1 ht1 hb1 ho1 hk1 hf1 hff1 hm1
  have b1_0 : U1.cell? ⟨v1.heap.size, 0, none⟩ = some (.bool true) := by rw [Lib.cell_of_heap hx1]; rfl
  have b1_1 : U1.cell? ⟨v1.heap.size, 1, none⟩ = some (.int .i64 1) := by rw [Lib.cell_of_heap hx1]; rfl
  have b1_2 : U1.cell? ⟨v1.heap.size, 2, none⟩ = some (.int .i64 0) := by rw [Lib.cell_of_heap hx1]; rfl
  have b1_3 : U1.cell? ⟨v1.heap.size, 3, none⟩ = some (.int .i64 0) := by rw [Lib.cell_of_heap hx1]; rfl
  have b1_4 : U1.cell? ⟨v1.heap.size, 4, none⟩ = some (.slice xa1 0 xc1) := by rw [Lib.cell_of_heap hx1]; rfl
  have b1_5 : U1.cell? ⟨v1.heap.size, 5, none⟩ = some (.slice (some ⟨mb1, mo1, none⟩) 2 yc1) := by rw [Lib.cell_of_heap hx1]; rfl
  have m1_0 : U1.cell? ⟨mb1, mo1, none⟩ = some (.int .i64 0) := hmc1.c0
  have m1_1 : U1.cell? ⟨mb1, mo1 + 1, none⟩ = some (.int .i64 0) := hmc1.c1
  have m1_2 : U1.cell? ⟨mb1, mo1 + 2, none⟩ = some (.int .i64 1) := hmc1.c2
  have m1_3 : U1.cell? ⟨mb1, mo1 + 3, none⟩ = some (.int .i64 1) := hmc1.c3
  have m1_4 : U1.cell? ⟨mb1, mo1 + 4, none⟩ = some (.int .i64 0) := hmc1.c4
  have m1_5 : U1.cell? ⟨mb1, mo1 + 5, none⟩ = some (.int .i64 0) := hmc1.c5
  have m1_6 : U1.cell? ⟨mb1, mo1 + 6, none⟩ = some (.int .i64 0) := hmc1.c6
  have m1_7 : U1.cell? ⟨mb1, mo1 + 7, none⟩ = some (.bool false) := hmc1.c7
  have m1_8 : U1.cell? ⟨mb1, mo1 + 8, none⟩ = some (.slice ma1 0 mc1) := hmc1.c8
  clear hx1 hmc1 hok1
  clear QT T0 B0 O0
  have ok2 : PM.ok (fun k => k ≠ pb ∧ (lb0 : Value).ownBlock ≠ some k) U1 ⟨e1, ma1, mc1⟩ := HM1.out.2.2.mono (fun k hf => ⟨fun e => hf.2.2 (Or.inl e), fun e => hf.2.2 (Or.inr e)⟩)
  have QH2 := Lib.hid (show Calls Tryz.prog 14 #[.pointer (some ⟨pb, 0, none⟩), .agg #[.int .i64 0, .int .i64 0, .int .i64 1, .int .i64 1, .int .i64 0, .int .i64 0, .int .i64 0, .bool false, .slice ma1 0 mc1]] U1 fun e w' => Did6 U1 w' pb lb0 (hearR q1 e1).1 (hearR q1 e1).2 e from hear_c T1.out.b ⟨e1, ma1, mc1⟩ ok2 (show e1.rs.length ≤ 9223372036854775807 by decide) (fun x hx => by cases hx))
  clear ok2
  go_upto_region 9 with ((with_reducible refine QH2.out.mono ?_); rintro e v2 ⟨xs2, xt2, xv2, xf2, xa2, xn2, xc2, ya2, yn2, yc2, rfl, HD2⟩)
  obtain ⟨U2, hU2⟩ : ∃ U2, U2 = v2.alloc (.cells #[.bool xs2, .int .i64 xt2, .int .i64 xv2, .int .i64 xf2, .slice xa2 xn2 xc2, .slice ya2 yn2 yc2] 42) := ⟨_, rfl⟩
  obtain ⟨rfl, rfl, rfl, rfl, hxn2, hyn2, l2, ht2, hb2, ho2, hk2, hx2, hf2, hff2, ma2, mc2, mb2, mo2, rfl, hm2, hmc2, hok2⟩ := step_x T1.out.flip B1.out ⟨O1.out.2, O1.out.1⟩ HD2.out x2 hU2
  have hxn : xn2 = 0 := hxn2
  have hyn : yn2 = 1 := hyn2
  clear hxn2 hyn2
  subst hxn hyn
  have T2 := Lib.hid ht2.flip
  have B2 := Lib.hid hb2
  have O2 := Lib.hid (And.intro ho2.2 ho2.1)
  have HX2 := Lib.hid hx2
  have HF2 := Lib.hid hf2
  have HK2 := Lib.hid (And.intro hk2 hff2)
  have HM2 := Lib.hid (And.intro hm2 (And.intro hmc2 hok2))
  rw [← hU2]
  clear hU2 ht2 hb2 ho2 hk2 hf2 hff2 hm2
  have b2_0 : U2.cell? ⟨v2.heap.size, 0, none⟩ = some (.bool true) := by rw [Lib.cell_of_heap hx2]; rfl
  have b2_1 : U2.cell? ⟨v2.heap.size, 1, none⟩ = some (.int .i64 1) := by rw [Lib.cell_of_heap hx2]; rfl
  have b2_2 : U2.cell? ⟨v2.heap.size, 2, none⟩ = some (.int .i64 0) := by rw [Lib.cell_of_heap hx2]; rfl
  have b2_3 : U2.cell? ⟨v2.heap.size, 3, none⟩ = some (.int .i64 0) := by rw [Lib.cell_of_heap hx2]; rfl
  have b2_4 : U2.cell? ⟨v2.heap.size, 4, none⟩ = some (.slice xa2 0 xc2) := by rw [Lib.cell_of_heap hx2]; rfl
  have b2_5 : U2.cell? ⟨v2.heap.size, 5, none⟩ = some (.slice (some ⟨mb2, mo2, none⟩) 1 yc2) := by rw [Lib.cell_of_heap hx2]; rfl
  have m2_0 : U2.cell? ⟨mb2, mo2, none⟩ = some (.int .i64 1) := hmc2.c0
  have m2_1 : U2.cell? ⟨mb2, mo2 + 1, none⟩ = some (.int .i64 1) := hmc2.c1
  have m2_2 : U2.cell? ⟨mb2, mo2 + 2, none⟩ = some (.int .i64 0) := hmc2.c2
  have m2_3 : U2.cell? ⟨mb2, mo2 + 3, none⟩ = some (.int .i64 1) := hmc2.c3
  have m2_4 : U2.cell? ⟨mb2, mo2 + 4, none⟩ = some (.int .i64 0) := hmc2.c4
  have m2_5 : U2.cell? ⟨mb2, mo2 + 5, none⟩ = some (.int .i64 0) := hmc2.c5
  have m2_6 : U2.cell? ⟨mb2, mo2 + 6, none⟩ = some (.int .i64 0) := hmc2.c6
  have m2_7 : U2.cell? ⟨mb2, mo2 + 7, none⟩ = some (.bool true) := hmc2.c7
  have m2_8 : U2.cell? ⟨mb2, mo2 + 8, none⟩ = some (.slice ma2 0 mc2) := hmc2.c8
  clear hx2 hmc2 hok2
  clear b1_0 b1_1 b1_2 b1_3 b1_4 b1_5 m1_0 m1_1 m1_2 m1_3 m1_4 m1_5 m1_6 m1_7 m1_8
  have ok3 : PM.ok (fun k => k ≠ pa ∧ (l1 : Value).ownBlock ≠ some k) U2 ⟨e2, ma2, mc2⟩ := HM2.out.2.2.mono (fun k hf => ⟨fun e => hf.2.2 (Or.inl e), fun e => hf.2.2 (Or.inr e)⟩)
  have QH3 := Lib.hid (show Calls Tryz.prog 14 #[.pointer (some ⟨pa, 0, none⟩), .agg #[.int .i64 1, .int .i64 1, .int .i64 0, .int .i64 1, .int .i64 0, .int .i64 0, .int .i64 0, .bool true, .slice ma2 0 mc2]] U2 fun e w' => Did6 U2 w' pa l1 (hearR (tickR q0).1 e2).1 (hearR (tickR q0).1 e2).2 e from hear_c T2.out.a ⟨e2, ma2, mc2⟩ ok3 (show e2.rs.length ≤ 9223372036854775807 by decide) (fun x hx => by cases hx))
  clear ok3
  go_upto_region 12 with ((with_reducible refine QH3.out.mono ?_); rintro e v3 ⟨xs3, xt3, xv3, xf3, xa3, xn3, xc3, ya3, yn3, yc3, rfl, HD3⟩)
  obtain ⟨U3, hU3⟩ : ∃ U3, U3 = v3.alloc (.cells #[.bool xs3, .int .i64 xt3, .int .i64 xv3, .int .i64 xf3, .slice xa3 xn3 xc3, .slice ya3 yn3 yc3] 42) := ⟨_, rfl⟩
  obtain ⟨rfl, rfl, rfl, rfl, hxn3, hyn3, l3, ht3, hb3, ho3, hk3, hx3, hf3, hff3, ma3, mc3, mb3, mo3, rfl, hm3, hmc3, hok3⟩ := step_x T2.out B2.out O2.out HD3.out x3 hU3
  have hxn : xn3 = 0 := hxn3
  have hyn : yn3 = 2 := hyn3
  clear hxn3 hyn3
  subst hxn hyn
  have T3 := Lib.hid ht3
  have B3 := Lib.hid hb3
  have O3 := Lib.hid ho3
  have HX3 := Lib.hid hx3
  have HF3 := Lib.hid hf3
  have HK3 := Lib.hid (And.intro hk3 hff3)
  have HM3 := Lib.hid (And.intro hm3 (And.intro hmc3 hok3))
  rw [← hU3]
  clear hU3 ht3 hb3 ho3 hk3 hf3 hff3 hm3
  have b3_0 : U3.cell? ⟨v3.heap.size, 0, none⟩ = some (.bool false) := by rw [Lib.cell_of_heap hx3]; rfl
  have b3_1 : U3.cell? ⟨v3.heap.size, 1, none⟩ = some (.int .i64 0) := by rw [Lib.cell_of_heap hx3]; rfl
  have b3_2 : U3.cell? ⟨v3.heap.size, 2, none⟩ = some (.int .i64 0) := by rw [Lib.cell_of_heap hx3]; rfl
  have b3_3 : U3.cell? ⟨v3.heap.size, 3, none⟩ = some (.int .i64 0) := by rw [Lib.cell_of_heap hx3]; rfl
  have b3_4 : U3.cell? ⟨v3.heap.size, 4, none⟩ = some (.slice xa3 0 xc3) := by rw [Lib.cell_of_heap hx3]; rfl
  have b3_5 : U3.cell? ⟨v3.heap.size, 5, none⟩ = some (.slice (some ⟨mb3, mo3, none⟩) 2 yc3) := by rw [Lib.cell_of_heap hx3]; rfl
  have m3_0 : U3.cell? ⟨mb3, mo3, none⟩ = some (.int .i64 2) := hmc3.c0
  have m3_1 : U3.cell? ⟨mb3, mo3 + 1, none⟩ = some (.int .i64 0) := hmc3.c1
  have m3_2 : U3.cell? ⟨mb3, mo3 + 2, none⟩ = some (.int .i64 1) := hmc3.c2
  have m3_3 : U3.cell? ⟨mb3, mo3 + 3, none⟩ = some (.int .i64 1) := hmc3.c3
  have m3_4 : U3.cell? ⟨mb3, mo3 + 4, none⟩ = some (.int .i64 0) := hmc3.c4
  have m3_5 : U3.cell? ⟨mb3, mo3 + 5, none⟩ = some (.int .i64 0) := hmc3.c5
  have m3_6 : U3.cell? ⟨mb3, mo3 + 6, none⟩ = some (.int .i64 0) := hmc3.c6
  have m3_7 : U3.cell? ⟨mb3, mo3 + 7, none⟩ = some (.bool false) := hmc3.c7
  have m3_8 : U3.cell? ⟨mb3, mo3 + 8, none⟩ = some (.slice ma3 0 mc3) := hmc3.c8
  clear hx3 hmc3 hok3
  clear b2_0 b2_1 b2_2 b2_3 b2_4 b2_5 m2_0 m2_1 m2_2 m2_3 m2_4 m2_5 m2_6 m2_7 m2_8
  have QP := Lib.hid ((propose_c T3.out.a [97] (by decide)).mono (R' := fun e w' => ∃ (xs4 : Bool) (xt4 xv4 xf4 : Int) (xa4 : Option Addr) (xn4 xc4 : Nat) (ya4 : Option Addr) (yn4 yc4 : Nat), e = .returned (.tuple #[.int .i64 1, .int .i64 0, .agg #[.bool xs4, .int .i64 xt4, .int .i64 xv4, .int .i64 xf4, .slice xa4 xn4 xc4, .slice ya4 yn4 yc4]]) ∧ Hid (Did U3 w' pa l3 (proposeR (hearR (tickR q0).1 e2).1 [97]).1 (.agg #[.bool xs4, .int .i64 xt4, .int .i64 xv4, .int .i64 xf4, .slice xa4 xn4 xc4, .slice ya4 yn4 yc4]) (proposeR (hearR (tickR q0).1 e2).1 [97]).2.2.2)) (fun e w' hh => by
    obtain ⟨xs, xt, xv, xf, xa, xn, xc, ya, yn, yc, e1, e2⟩ := hh
    have h1 := x4
    exact ⟨xs, xt, xv, xf, xa, xn, xc, ya, yn, yc, (by rw [e1, h1]), e2⟩))
  go_upto_region 13 with ((with_reducible refine QP.out.mono ?_); rintro e v4 ⟨xs4, xt4, xv4, xf4, xa4, xn4, xc4, ya4, yn4, yc4, rfl, HD4⟩)
  obtain ⟨U4, hU4⟩ : ∃ U4, U4 = v4.alloc (.cells #[.bool xs4, .int .i64 xt4, .int .i64 xv4, .int .i64 xf4, .slice xa4 xn4 xc4, .slice ya4 yn4 yc4] 42) := ⟨_, rfl⟩
  obtain ⟨rfl, rfl, rfl, rfl, hxn4, hyn4, l4, ht4, hb4, ho4, hk4, hx4, hf4, hff4, ma4, mc4, mb4, mo4, rfl, hm4, hmc4, hok4⟩ := step_x T3.out B3.out O3.out HD4.out (by rw [x4]) hU4
  have hxn : xn4 = 1 := hxn4
  have hyn : yn4 = 2 := hyn4
  clear hxn4 hyn4
  subst hxn hyn
  have T4 := Lib.hid ht4
  have B4 := Lib.hid hb4
  have O4 := Lib.hid ho4
  have HX4 := Lib.hid hx4
  have HF4 := Lib.hid hf4
  have HK4 := Lib.hid (And.intro hk4 hff4)
  have HM4 := Lib.hid (And.intro hm4 (And.intro hmc4 hok4))
  rw [← hU4]
  clear hU4 ht4 hb4 ho4 hk4 hf4 hff4 hm4
  have b4_0 : U4.cell? ⟨v4.heap.size, 0, none⟩ = some (.bool false) := by rw [Lib.cell_of_heap hx4]; rfl
  have b4_1 : U4.cell? ⟨v4.heap.size, 1, none⟩ = some (.int .i64 0) := by rw [Lib.cell_of_heap hx4]; rfl
  have b4_2 : U4.cell? ⟨v4.heap.size, 2, none⟩ = some (.int .i64 0) := by rw [Lib.cell_of_heap hx4]; rfl
  have b4_3 : U4.cell? ⟨v4.heap.size, 3, none⟩ = some (.int .i64 1) := by rw [Lib.cell_of_heap hx4]; rfl
  have b4_4 : U4.cell? ⟨v4.heap.size, 4, none⟩ = some (.slice xa4 1 xc4) := by rw [Lib.cell_of_heap hx4]; rfl
  have b4_5 : U4.cell? ⟨v4.heap.size, 5, none⟩ = some (.slice (some ⟨mb4, mo4, none⟩) 2 yc4) := by rw [Lib.cell_of_heap hx4]; rfl
  have m4_0 : U4.cell? ⟨mb4, mo4, none⟩ = some (.int .i64 2) := hmc4.c0
  have m4_1 : U4.cell? ⟨mb4, mo4 + 1, none⟩ = some (.int .i64 0) := hmc4.c1
  have m4_2 : U4.cell? ⟨mb4, mo4 + 2, none⟩ = some (.int .i64 1) := hmc4.c2
  have m4_3 : U4.cell? ⟨mb4, mo4 + 3, none⟩ = some (.int .i64 1) := hmc4.c3
  have m4_4 : U4.cell? ⟨mb4, mo4 + 4, none⟩ = some (.int .i64 0) := hmc4.c4
  have m4_5 : U4.cell? ⟨mb4, mo4 + 5, none⟩ = some (.int .i64 0) := hmc4.c5
  have m4_6 : U4.cell? ⟨mb4, mo4 + 6, none⟩ = some (.int .i64 0) := hmc4.c6
  have m4_7 : U4.cell? ⟨mb4, mo4 + 7, none⟩ = some (.bool false) := hmc4.c7
  have m4_8 : U4.cell? ⟨mb4, mo4 + 8, none⟩ = some (.slice ma4 1 mc4) := hmc4.c8
  clear hx4 hmc4 hok4
  clear b3_0 b3_1 b3_2 b3_3 b3_4 b3_5 m3_0 m3_1 m3_2 m3_3 m3_4 m3_5 m3_6 m3_7 m3_8
  have hx34 := HK4.out.1.heap HX3.out HF3.out.2.1
  have k3 : U4.cell? ⟨v3.heap.size, 5, none⟩ = some (.slice (some ⟨mb3, mo3, none⟩) 2 yc3) := by rw [Lib.cell_of_heap hx34]; rfl
  clear hx34
  have QR4 := Lib.hid (show Calls Tryz.prog 16 #[.pointer (some ⟨pa, 0, none⟩)] U4 fun e w' => e = .returned (.int .i64 2) ∧ w' = U4 by have := role_c T4.out.a; rw [x4r] at this; exact this)
  have ok5 : PM.ok (fun k => k ≠ pb ∧ (l2 : Value).ownBlock ≠ some k) U4 ⟨e4, ma4, mc4⟩ := HM4.out.2.2.mono (fun k hf => ⟨fun e => hf.2.2 (Or.inl e), fun e => hf.2.2 (Or.inr e)⟩)
  have QH5 := Lib.hid (show Calls Tryz.prog 14 #[.pointer (some ⟨pb, 0, none⟩), .agg #[.int .i64 2, .int .i64 0, .int .i64 1, .int .i64 1, .int .i64 0, .int .i64 0, .int .i64 0, .bool false, .slice ma4 1 mc4]] U4 fun e w' => Did6 U4 w' pb l2 (hearR (hearR q1 e1).1 e4).1 (hearR (hearR q1 e1).1 e4).2 e from hear_c T4.out.b ⟨e4, ma4, mc4⟩ ok5 (show e4.rs.length ≤ 9223372036854775807 by decide) (fun x hx => by { obtain rfl := List.mem_singleton.1 hx; decide }))
  clear ok5
  go_upto_region 16 with (first | ((with_reducible refine QR4.out.mono ?_); rintro e u1 ⟨rfl, hw⟩; rw [hw]; clear hw) | ((with_reducible refine QH5.out.mono ?_); rintro e v5 ⟨xs5, xt5, xv5, xf5, xa5, xn5, xc5, ya5, yn5, yc5, rfl, HD5⟩))
  obtain ⟨U5, hU5⟩ : ∃ U5, U5 = v5.alloc (.cells #[.bool xs5, .int .i64 xt5, .int .i64 xv5, .int .i64 xf5, .slice xa5 xn5 xc5, .slice ya5 yn5 yc5] 42) := ⟨_, rfl⟩
  obtain ⟨rfl, rfl, rfl, rfl, hxn5, hyn5, l5, ht5, hb5, ho5, hk5, hx5, hf5, hff5, ma5, mc5, mb5, mo5, rfl, hm5, hmc5, hok5⟩ := step_x T4.out.flip B4.out ⟨O4.out.2, O4.out.1⟩ HD5.out x5 hU5
  have hxn : xn5 = 1 := hxn5
  have hyn : yn5 = 1 := hyn5
  clear hxn5 hyn5
  subst hxn hyn
  have T5 := Lib.hid ht5.flip
  have B5 := Lib.hid hb5
  have O5 := Lib.hid (And.intro ho5.2 ho5.1)
  have HX5 := Lib.hid hx5
  have HF5 := Lib.hid hf5
  have HK5 := Lib.hid (And.intro hk5 hff5)
  have HM5 := Lib.hid (And.intro hm5 (And.intro hmc5 hok5))
  rw [← hU5]
  clear hU5 ht5 hb5 ho5 hk5 hf5 hff5 hm5
  have b5_0 : U5.cell? ⟨v5.heap.size, 0, none⟩ = some (.bool false) := by rw [Lib.cell_of_heap hx5]; rfl
  have b5_1 : U5.cell? ⟨v5.heap.size, 1, none⟩ = some (.int .i64 0) := by rw [Lib.cell_of_heap hx5]; rfl
  have b5_2 : U5.cell? ⟨v5.heap.size, 2, none⟩ = some (.int .i64 0) := by rw [Lib.cell_of_heap hx5]; rfl
  have b5_3 : U5.cell? ⟨v5.heap.size, 3, none⟩ = some (.int .i64 1) := by rw [Lib.cell_of_heap hx5]; rfl
  have b5_4 : U5.cell? ⟨v5.heap.size, 4, none⟩ = some (.slice xa5 1 xc5) := by rw [Lib.cell_of_heap hx5]; rfl
  have b5_5 : U5.cell? ⟨v5.heap.size, 5, none⟩ = some (.slice (some ⟨mb5, mo5, none⟩) 1 yc5) := by rw [Lib.cell_of_heap hx5]; rfl
  have m5_0 : U5.cell? ⟨mb5, mo5, none⟩ = some (.int .i64 3) := hmc5.c0
  have m5_1 : U5.cell? ⟨mb5, mo5 + 1, none⟩ = some (.int .i64 1) := hmc5.c1
  have m5_2 : U5.cell? ⟨mb5, mo5 + 2, none⟩ = some (.int .i64 0) := hmc5.c2
  have m5_3 : U5.cell? ⟨mb5, mo5 + 3, none⟩ = some (.int .i64 1) := hmc5.c3
  have m5_4 : U5.cell? ⟨mb5, mo5 + 4, none⟩ = some (.int .i64 1) := hmc5.c4
  have m5_5 : U5.cell? ⟨mb5, mo5 + 5, none⟩ = some (.int .i64 0) := hmc5.c5
  have m5_6 : U5.cell? ⟨mb5, mo5 + 6, none⟩ = some (.int .i64 0) := hmc5.c6
  have m5_7 : U5.cell? ⟨mb5, mo5 + 7, none⟩ = some (.bool true) := hmc5.c7
  have m5_8 : U5.cell? ⟨mb5, mo5 + 8, none⟩ = some (.slice ma5 0 mc5) := hmc5.c8
  clear hx5 hmc5 hok5
  clear k3 b4_0 b4_1 b4_2 b4_3 b4_4 b4_5 m4_0 m4_1 m4_2 m4_3 m4_4 m4_5 m4_6 m4_7 m4_8
  have ok6 : PM.ok (fun k => k ≠ pa ∧ (l4 : Value).ownBlock ≠ some k) U5 ⟨e5, ma5, mc5⟩ := HM5.out.2.2.mono (fun k hf => ⟨fun e => hf.2.2 (Or.inl e), fun e => hf.2.2 (Or.inr e)⟩)
  have QH6 := Lib.hid (show Calls Tryz.prog 14 #[.pointer (some ⟨pa, 0, none⟩), .agg #[.int .i64 3, .int .i64 1, .int .i64 0, .int .i64 1, .int .i64 1, .int .i64 0, .int .i64 0, .bool true, .slice ma5 0 mc5]] U5 fun e w' => Did6 U5 w' pa l4 (hearR (proposeR (hearR (tickR q0).1 e2).1 [97]).1 e5).1 (hearR (proposeR (hearR (tickR q0).1 e2).1 [97]).1 e5).2 e from hear_c T5.out.a ⟨e5, ma5, mc5⟩ ok6 (show e5.rs.length ≤ 9223372036854775807 by decide) (fun x hx => by cases hx))
  clear ok6
  go_upto_region 19 with ((with_reducible refine QH6.out.mono ?_); rintro e v6 ⟨xs6, xt6, xv6, xf6, xa6, xn6, xc6, ya6, yn6, yc6, rfl, HD6⟩)
  obtain ⟨l6, ht6, _, hk6, _⟩ := T5.out.did HD6.out
  have HB6 := Lib.hid (B5.out.trans (hk6.toBelow B5.out.size (fun k e => O5.out.1 k e)))
  have T6 := Lib.hid ht6
  have QC := Lib.hid (show Calls Tryz.prog 17 #[.pointer (some ⟨pa, 0, none⟩)] v6 fun e w' => e = .returned (.int .i64 1) ∧ w' = v6 by have := commit_c ht6.a; rw [x6c] at this; exact this)
  have QL := Lib.hid (show Calls Tryz.prog 18 #[.pointer (some ⟨pa, 0, none⟩)] v6 fun e w' => ∃ a c, e = .returned (.slice a 1 c) ∧ Hid (Below v6.heap.size v6 w') from by
    have h1 := log_c ht6.a
    rw [x6l] at h1
    exact h1.mono (fun e w' hh => by
      obtain ⟨a, c, q1, _, q3⟩ := hh
      exact ⟨a, c, q1, Lib.hid q3⟩))
  have QM := Lib.hid (fun (W : World) (hW : Below v6.heap.size v6 W) => (show Calls Tryz.prog 18 #[.pointer (some ⟨pb, 0, none⟩)] W fun e w' => ∃ a c, e = .returned (.slice a 1 c) ∧ Hid (Below W.heap.size W w') from by
    have h1 := log_c (ht6.b.on hW)
    rw [x5l] at h1
    exact h1.mono (fun e w' hh => by
      obtain ⟨a, c, q1, _, q3⟩ := hh
      exact ⟨a, c, q1, Lib.hid q3⟩)))
  clear ht6 hk6 b5_0 b5_1 b5_2 b5_3 b5_4 b5_5 m5_0 m5_1 m5_2 m5_3 m5_4 m5_5 m5_6 m5_7 m5_8
  go_wp2_with (first | ((with_reducible refine QC.out.mono ?_); rintro e u1 ⟨rfl, hw⟩; rw [hw]; clear hw) | ((with_reducible refine QL.out.mono ?_); rintro e u2 ⟨ga, gc, rfl, HL1⟩) | ((with_reducible refine (QM.out _ HL1.out).mono ?_); rintro e u3 ⟨gd, gf, rfl, HL2⟩))
  go_ret
  exact ⟨rfl, HB6.out.trans ((HL1.out.trans (HL2.out.mono HL1.out.size)).mono HB6.out.size)⟩
end Go.Proofs.YtkmojcpiadpbaaaGreatDoor
