/-
  Two replicas in one memory beside blocks that are held.
-/
import Derived.Test.YtoghaogcekappaaRHearC
import Derived.Test.YtoghaogcekappaaRTick
import Derived.Test.YtoghaogcekappaaRProp
import Derived.Test.YtoghaogcekappaaRNew
namespace Go.Proofs.Ytoghaogcekappaa
set_option maxRecDepth 100000
open Go Go.RowKit Rp

theorem OutIs.mono2 {G G' : Nat → Prop} {w : World} {v : Value} {o : Out} (h : OutIs G w v o) (hg : ∀ k, k < w.heap.size → G k → G' k) : OutIs G' w v o := by
  obtain ⟨ra, rc, sa, sc, ps, h1, h2, h3, h4, h5⟩ := h
  refine ⟨ra, rc, sa, sc, ps, h1, h2.mono hg (fun h0 e => ?_), h3, h4.mono hg (fun h0 e => ?_), fun p hp => Src.mono (h5 p hp) hg (fun h0 e => ?_)⟩
  · have := recsV_length o.rs; rw [e] at this; simp at this; omega
  · have := msgsV_length ps; rw [e] at this; simp at this; omega
  · have := recsV_length p.m.rs; rw [e] at this; simp at this; omega
/-- A result, taken apart. -/
theorem OutIs.parts {G : Nat → Prop} {w : World} {o : Out} {xs : Bool} {xt xv xf : Int} {xa : Option Addr} {xn xc : Nat} {ya : Option Addr} {yn yc : Nat} (h : OutIs G w (.agg #[.bool xs, .int .i64 xt, .int .i64 xv, .int .i64 xf, .slice xa xn xc, .slice ya yn yc]) o) :
    xs = o.save ∧ xt = o.h.tm ∧ xv = o.h.vt ∧ xf = o.fr ∧ xn = o.rs.length ∧ yn = o.send.length ∧ Src G w xa xc o.rs.length (recsV o.rs) ∧ ∃ ps : List PM, ps.length = yn ∧ ps.map PM.m = o.send ∧ Src G w ya yc yn (msgsV ps) ∧ ∀ p ∈ ps, p.ok G w := by
  obtain ⟨ra, rc, sa, sc, ps, h1, h2, h3, h4, h5⟩ := h
  injection h1 with h1
  simp only [Array.mk.injEq, List.cons.injEq, and_true, Value.bool.injEq, Value.int.injEq, Value.slice.injEq, true_and] at h1
  obtain ⟨q0, q1, q2, q3, ⟨q4, q5, q6⟩, q7, q8, q9⟩ := h1
  subst q0 q1 q2 q3 q4 q5 q6 q7 q8 q9
  exact ⟨rfl, rfl, rfl, rfl, rfl, by rw [← h3, List.length_map], h2, ps, rfl, h3, h4, h5⟩
/-- The cells of a message in a row of messages. -/
structure MCell (p : PM) (w : World) (b o : Nat) : Prop where
  c0 : w.cell? ⟨b, o, none⟩ = some (.int .i64 p.m.k)
  c1 : w.cell? ⟨b, o + 1, none⟩ = some (.int .i64 p.m.fr)
  c2 : w.cell? ⟨b, o + 2, none⟩ = some (.int .i64 p.m.dst)
  c3 : w.cell? ⟨b, o + 3, none⟩ = some (.int .i64 p.m.tm)
  c4 : w.cell? ⟨b, o + 4, none⟩ = some (.int .i64 p.m.ix)
  c5 : w.cell? ⟨b, o + 5, none⟩ = some (.int .i64 p.m.pv)
  c6 : w.cell? ⟨b, o + 6, none⟩ = some (.int .i64 p.m.cm)
  c7 : w.cell? ⟨b, o + 7, none⟩ = some (.bool p.m.yes)
  c8 : w.cell? ⟨b, o + 8, none⟩ = some (.slice p.a p.m.rs.length p.c)
theorem msg_cells {G : Nat → Prop} {w : World} {a : Option Addr} {c n : Nat} {l : List PM} (h : Src G w a c n (msgsV l)) (hn : n = l.length) {k : Nat} {p : PM} (hp : l[k]? = some p) : ∃ b off, a = some ⟨b, off, none⟩ ∧ G b ∧ MCell p w b (off + k * 9) := by
  have hk : k < l.length := (List.getElem?_eq_some_iff.1 hp).1
  obtain ⟨b, off, h1, h2, h3⟩ := h.2 (by omega)
  have hc : ∀ j u, p.cells[j]? = some u → w.cell? ⟨b, off + k * 9 + j, none⟩ = some u := fun j u hu => by
    have := h3 _ _ (msgsV_get l k p hp j u hu)
    rwa [← Nat.add_assoc] at this
  exact ⟨b, off, h1, h2, ⟨hc 0 _ rfl, hc 1 _ rfl, hc 2 _ rfl, hc 3 _ rfl, hc 4 _ rfl, hc 5 _ rfl, hc 6 _ rfl, hc 7 _ rfl, hc 8 _ rfl⟩⟩
theorem MCell.kept {p : PM} {w w' : World} {b o : Nat} {S : Nat → Prop} (h : MCell p w b o) (hk : Kept S w w') (hb : ¬ S b) : MCell p w' b o :=
  ⟨hk.cell h.c0 hb, hk.cell h.c1 hb, hk.cell h.c2 hb, hk.cell h.c3 hb, hk.cell h.c4 hb, hk.cell h.c5 hb, hk.cell h.c6 hb, hk.cell h.c7 hb, hk.cell h.c8 hb⟩
/-- The blocks of a replica. -/
def Own (b : Nat) (lv : Value) (k : Nat) : Prop := k = b ∨ lv.ownBlock = some k
theorem RepAt.own_lt {w : World} {b : Nat} {lv : Value} {r : R} (h : RepAt w b lv r) {k : Nat} (hk : Own b lv k) : k < w.heap.size := hk.elim (fun e => by rw [e]; exact h.lt) (fun e => h.row.lt e)
theorem RepAt.far {w w' : World} {b : Nat} {lv : Value} {r : R} {S : Nat → Prop} (h : RepAt w b lv r) (hk : Kept S w w') (hd : ∀ k, Own b lv k → ¬ S k) : RepAt w' b lv r := h.kept hk (hd _ (Or.inl rfl)) (fun k e => hd k (Or.inr e))
/-- A replica, and blocks that are none of its. -/
structure RF (w : World) (b : Nat) (lv : Value) (r : R) (F : Nat → Prop) : Prop where
  rep : RepAt w b lv r
  far : ∀ k, Own b lv k → ¬ F k
  flt : ∀ k, F k → k < w.heap.size
/-- The blocks that are held once a call is over: its result's too. -/
def Fro (F : Nat → Prop) (w w' : World) (b : Nat) (lv : Value) (k : Nat) : Prop := F k ∨ (w.heap.size ≤ k ∧ k < w'.heap.size ∧ ¬ Own b lv k)
theorem RF.did {w w' : World} {b : Nat} {lv : Value} {r r' : R} {F : Nat → Prop} {v : Value} {o : Out} (h : RF w b lv r F) (hd : Did w w' b lv r' v o) :
    ∃ lv', RF w' b lv' r' (Fro F w w' b lv') ∧ OutIs (fun k => Fro F w w' b lv' k ∧ w.heap.size ≤ k) w' v o ∧ Kept (fun k => Own b lv k) w w' ∧ (∀ k, Own b lv' k → Own b lv k ∨ (w.heap.size ≤ k ∧ k < w'.heap.size)) := by
  obtain ⟨lv', h1, h2, h3, h4⟩ := hd
  have hs := h3.size
  have hbl := h.rep.lt
  have hnew : ∀ k, Own b lv' k → Own b lv k ∨ (w.heap.size ≤ k ∧ k < w'.heap.size) := fun k e => by
    rcases e with e | e
    · exact Or.inl (Or.inl e)
    · rcases h2 with q | ⟨y, q, q2⟩
      · exact Or.inl (Or.inr (by rw [← q]; exact e))
      · exact Or.inr ⟨by rw [q] at e; injection e with e; omega, h1.row.lt e⟩
  refine ⟨lv', ⟨h1, fun k e hf => ?_, fun k hf => ?_⟩, h4.mono2 (fun k hk hg => ⟨Or.inr ⟨hg.1, hk, fun e => ?_⟩, hg.1⟩), h3, hnew⟩
  · rcases hf with hf | hf
    · rcases hnew k e with q | q
      · exact h.far k q hf
      · have := h.flt k hf; omega
    · exact hf.2.2 e
  · rcases hf with hf | hf
    · exact Nat.lt_of_lt_of_le (h.flt k hf) hs
    · exact hf.2.1
  · rcases e with e | e
    · omega
    · exact hg.2 e
theorem RF.on {w w' : World} {b : Nat} {lv : Value} {r : R} {F F' : Nat → Prop} (h : RF w b lv r F) (hb : Below w.heap.size w w') (hF : ∀ k, F' k → (F k ∨ w.heap.size ≤ k) ∧ k < w'.heap.size) : RF w' b lv r F' :=
  ⟨h.rep.on hb, fun k e hf => by
    rcases (hF k hf).1 with q | q
    · exact h.far k e q
    · have := h.rep.own_lt e; omega, fun k hf => (hF k hf).2⟩
/-- Two replicas. -/
structure Two (w : World) (pa : Nat) (la : Value) (ra : R) (pb : Nat) (lb : Value) (rb : R) : Prop where
  a : RepAt w pa la ra
  b : RepAt w pb lb rb
  apart : ∀ k, Own pa la k → ¬ Own pb lb k
theorem Two.flip {w : World} {pa : Nat} {la : Value} {ra : R} {pb : Nat} {lb : Value} {rb : R} (h : Two w pa la ra pb lb rb) : Two w pb lb rb pa la ra := ⟨h.b, h.a, fun k e e' => h.apart k e' e⟩
theorem Two.on {w w' : World} {pa : Nat} {la : Value} {ra : R} {pb : Nat} {lb : Value} {rb : R} (h : Two w pa la ra pb lb rb) (hb : Below w.heap.size w w') : Two w' pa la ra pb lb rb := ⟨h.a.on hb, h.b.on hb, h.apart⟩
/-- A block that is none of theirs. -/
def Free (w : World) (pa : Nat) (la : Value) (pb : Nat) (lb : Value) (k : Nat) : Prop := k < w.heap.size ∧ ¬ Own pa la k ∧ ¬ Own pb lb k
theorem Free.flip {w : World} {pa : Nat} {la : Value} {pb : Nat} {lb : Value} {k : Nat} (h : Free w pa la pb lb k) : Free w pb lb pa la k := ⟨h.1, h.2.2, h.2.1⟩
theorem Two.did {w w' : World} {pa : Nat} {la : Value} {ra ra' : R} {pb : Nat} {lb : Value} {rb : R} {v : Value} {o : Out} (h : Two w pa la ra pb lb rb) (hd : Did w w' pa la ra' v o) :
    ∃ la', Two w' pa la' ra' pb lb rb ∧ OutIs (Free w' pa la' pb lb) w' v o ∧ Kept (fun k => Own pa la k) w w' ∧ (∀ k, Free w pa la pb lb k → Free w' pa la' pb lb k) := by
  obtain ⟨lv', h1, h2, h3, h4⟩ := hd
  have hs := h3.size
  have hnew : ∀ k, Own pa lv' k → Own pa la k ∨ w.heap.size ≤ k := fun k e => by
    rcases e with e | e
    · exact Or.inl (Or.inl e)
    · rcases h2 with q | ⟨y, q, q2⟩
      · exact Or.inl (Or.inr (by rw [← q]; exact e))
      · exact Or.inr (by rw [q] at e; injection e with e; omega)
  refine ⟨lv', ⟨h1, h.b.far h3 (fun k e e' => h.apart k e' e), fun k e e' => ?_⟩, h4.mono2 (fun k hk hg => ⟨hk, fun e => ?_, fun e => ?_⟩), h3, fun k hf => ⟨Nat.lt_of_lt_of_le hf.1 hs, fun e => ?_, hf.2.2⟩⟩
  · rcases hnew k e with q | q
    · exact h.apart k q e'
    · have := h.b.own_lt e'; omega
  · rcases e with e | e
    · have := h.a.lt; omega
    · exact hg.2 e
  · have := h.b.own_lt e; omega
  · rcases hnew k e with q | q
    · exact hf.2.1 q
    · have := hf.1; omega
theorem Free.on {w w' : World} {pa : Nat} {la : Value} {pb : Nat} {lb : Value} {k : Nat} (h : Free w pa la pb lb k) (hs : w.heap.size ≤ w'.heap.size) : Free w' pa la pb lb k := ⟨Nat.lt_of_lt_of_le h.1 hs, h.2⟩
theorem Two.new {w w' : World} {pa : Nat} {la : Value} {ra : R} {pb : Nat} {lb : Value} {rb : R} (h : Two w pa la ra pb lb rb) (hs : w.heap.size < w'.heap.size) : Free w' pa la pb lb w.heap.size := ⟨hs, fun e => by have := h.a.own_lt e; omega, fun e => by have := h.b.own_lt e; omega⟩
end Go.Proofs.Ytoghaogcekappaa
