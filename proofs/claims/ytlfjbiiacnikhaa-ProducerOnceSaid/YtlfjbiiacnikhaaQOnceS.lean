/-
  ProducerOnce: what stands at the head of the law's loop, and what a fence, a record leave of it.
-/
import Derived.Test.YtlfjbiiacnikhaaQOnceM
namespace Go.Proofs.Ytlfjbiiacnikhaa
set_option maxRecDepth 100000
open Go Go.RowKit Pq

structure OnceIs (w : World) (E : Nat) (wr : World) (ta : Option Addr) (tc : Nat) (T : List PP) (ka : Option Addr) (kc : Nat) (ks : List K) (es : List Int) (pos : Int) (i : Nat) : Prop where
  tb : Tb (fun b => b ≠ E ∧ (Value.slice ka ks.length kc).ownBlock ≠ some b) wr ta tc T
  kr : KRow wr w.heap.size (.slice ka ks.length kc) ks
  kE : (Value.slice ka ks.length kc).ownBlock ≠ some E
  ep : wr.heap[E]? = some (.cells (numsV es).toArray 3 (0, 0))
  el : es.length = 64
  ee : ∀ j : Nat, j < 64 → es[j]? = some (Pq.get (tab T) (j : Int)).ep
  inv : Inv (tab T) ks pos
  p0 : -1 ≤ pos
  p1 : pos ≤ 256 * (i : Int)
  kl : ks.length ≤ i
  below : Below w.heap.size w wr
  base : w.heap.size ≤ E
theorem OnceIs.on {w : World} {E : Nat} {wr w' : World} {ta : Option Addr} {tc : Nat} {T : List PP} {ka : Option Addr} {kc : Nat} {ks : List K} {es : List Int} {pos : Int} {i : Nat} (h : OnceIs w E wr ta tc T ka kc ks es pos i) (hb : Below wr.heap.size wr w') : OnceIs w E w' ta tc T ka kc ks es pos i :=
  ⟨h.tb.on hb, own_kept h.kr (Kept.below (S := fun _ => False) hb) (fun _ _ e => e), h.kE, box_on h.ep hb, h.el, h.ee, h.inv, h.p0, h.p1, h.kl, h.below.trans (hb.mono h.below.size), h.base⟩
theorem OnceIs.up {w : World} {E : Nat} {wr : World} {ta : Option Addr} {tc : Nat} {T : List PP} {ka : Option Addr} {kc : Nat} {ks : List K} {es : List Int} {pos : Int} {i : Nat} (h : OnceIs w E wr ta tc T ka kc ks es pos i) : OnceIs w E wr ta tc T ka kc ks es pos (i + 1) :=
  ⟨h.tb, h.kr, h.kE, h.ep, h.el, h.ee, h.inv, h.p0, by have := h.p1; omega, by have := h.kl; omega, h.below, h.base⟩
theorem OnceIs.lens {w : World} {E : Nat} {wr : World} {ta : Option Addr} {tc : Nat} {T : List PP} {ka : Option Addr} {kc : Nat} {ks : List K} {es : List Int} {pos : Int} {i : Nat} (h : OnceIs w E wr ta tc T ka kc ks es pos i) : T.length ≤ 50 ∧ ∀ x ∈ T, x.p.last.length ≤ 20 := by
  refine ⟨by have := h.inv.right.1; rwa [tab_length] at this, fun x hx => ?_⟩
  have := (Tab.mem h.inv.right.2 (show x.p ∈ tab T from List.mem_map_of_mem hx)).2.2.len
  omega
theorem OnceIs.cell {w : World} {E : Nat} {wr : World} {ta : Option Addr} {tc : Nat} {T : List PP} {ka : Option Addr} {kc : Nat} {ks : List K} {es : List Int} {pos : Int} {i : Nat} (h : OnceIs w E wr ta tc T ka kc ks es pos i) {j : Nat} (hj : j < 64) : wr.cell? ⟨E, j, none⟩ = some (.int .i64 (Pq.get (tab T) (j : Int)).ep) := cell_block h.ep (numsV_get (h.ee j hj))
theorem OnceIs.ep0 {w : World} {E : Nat} {wr : World} {ta : Option Addr} {tc : Nat} {T : List PP} {ka : Option Addr} {kc : Nat} {ks : List K} {es : List Int} {pos : Int} {i : Nat} (h : OnceIs w E wr ta tc T ka kc ks es pos i) (j : Int) : inB (Pq.get (tab T) j).ep := (right_get h.inv.right j).ep
theorem ORow.on' {w w' : World} {b off : Nat} {x : Op10} (h : ORow w b off x) (hb : Below w.heap.size w w') : ORow w' b off x := h.on hb
/-- A fence. -/
theorem OnceIs.fenced {w : World} {E : Nat} {wr w2 : World} {ta : Option Addr} {tc : Nat} {T : List PP} {ka : Option Addr} {kc : Nat} {ks : List K} {es : List Int} {pos : Int} {i : Nat} (h : OnceIs w E wr ta tc T ka kc ks es pos i) (hb : Below wr.heap.size wr w2)
    {j : Nat} {a2 : Option Addr} {c2 : Nat} {T2 : List PP} {ep2 z : Int} (hf : fence (tab T) (j : Int) = (some (tab T2, ep2), z)) (t2 : Tb (fun b => wr.heap.size ≤ b) w2 a2 c2 T2) :
    ep2 = (Pq.get (tab T) (j : Int)).ep + 1 ∧ (j < 64 → OnceIs w E (w2.setCell ⟨E, j, none⟩ (.int .i64 ep2)) a2 c2 T2 ka kc ks (es.set j ep2) pos i) := by
  obtain ⟨h1, h2, h3⟩ := h.inv.fence hf
  refine ⟨h1, fun hj => ?_⟩
  have g := h.on hb
  have hE : E < wr.heap.size := box_lt h.ep
  have hk := Kept.set E j w2 (.int .i64 ep2)
  have hK : ∀ b, (Value.slice ka ks.length kc).ownBlock = some b → b < wr.heap.size := fun b e => own_lt (own_base h.kr) e
  refine ⟨(t2.kept hk (fun b _ hb' e => by omega)).mono (fun b hb' => ⟨by omega, fun e => by have := hK b e; omega⟩), own_kept g.kr hk (fun b e e2 => h.kE (by rw [e, e2])), h.kE, ?_, by rw [List.length_set]; exact h.el, fun m hm => ?_, h3, h.p0, h.p1, h.kl, g.below.trans (hk.toBelow g.below.size (fun b e => by rw [e]; exact h.base)), h.base⟩
  · rw [box_set g.ep, List.setIfInBounds_toArray]
    unfold numsV
    rw [List.map_set]
  · rw [h2]
    by_cases e : m = j
    · subst e
      rw [List.getElem?_set_self (by have := h.el; omega), if_pos rfl]
    · rw [List.getElem?_set_ne (by omega), if_neg (by omega)]
      exact h.ee m hm
/-- A record that is stored. -/
theorem OnceIs.stored {w : World} {E : Nat} {wr w2 w3 w4 : World} {ta : Option Addr} {tc : Nat} {T : List PP} {ka : Option Addr} {kc : Nat} {ks : List K} {es : List Int} {pos pos' : Int} {i : Nat} (h : OnceIs w E wr ta tc T ka kc ks es pos i) (hb : Below wr.heap.size wr w2)
    {j e q : Int} {a2 : Option Addr} {c2 : Nat} {T2 : List PP} (hl : (Pq.look (tab T) j e q).2 = 0) (hT : tab T2 = Pq.put (tab T) j e q pos') (t2 : Tb (fun b => wr.heap.size ≤ b) w2 a2 c2 T2)
    (hp : pos < pos') (hp2 : pos' ≤ pos + 256) (hi : i ≤ 1000) (hb3 : Below w2.heap.size w2 w3) {a' : Option Addr} {c' : Nat} (hk : KRow w4 w.heap.size (.slice a' (ks.length + 1) c') (ks ++ [⟨j, e, q, pos'⟩]))
    (hbl : (Value.slice a' (ks.length + 1) c').ownBlock = (Value.slice ka ks.length kc).ownBlock ∨ (Value.slice a' (ks.length + 1) c').ownBlock = some w3.heap.size) (h4 : Kept (fun k => (Value.slice ka ks.length kc).ownBlock = some k) w3 w4) :
    OnceIs w E w4 a2 c2 T2 a' c' (ks ++ [⟨j, e, q, pos'⟩]) es pos' (i + 1) := by
  have g := (h.on hb).on hb3
  have hE : E < wr.heap.size := box_lt h.ep
  have hK : ∀ b, (Value.slice ka ks.length kc).ownBlock = some b → b < wr.heap.size := fun b e => own_lt (own_base h.kr) e
  have hp0 := h.p0
  have hp1 := h.p1
  have hlen : (ks ++ [(⟨j, e, q, pos'⟩ : K)]).length = ks.length + 1 := by rw [List.length_append, List.length_singleton]
  obtain ⟨_, hinv⟩ := h.inv.put hl hp ⟨by omega, by omega⟩
  have s2 := hb.size
  have s3 := hb3.size
  refine ⟨?_, by rw [hlen]; exact hk, ?_, h4.heap g.ep h.kE, h.el, fun m hm => by rw [hT, put_ep]; exact h.ee m hm, by rw [hT]; exact hinv, by omega, by omega, by rw [hlen]; have := h.kl; omega, g.below.trans (h4.toBelow g.below.size (fun b e => own_above g.kr e)), h.base⟩
  · rw [hlen]
    have t3 := (t2.on hb3).kept h4 (fun b _ hb' e => by have := hK b e; omega)
    refine ⟨?_, fun x hx => ?_⟩
    · by_cases h0 : 0 < T2.length
      · obtain ⟨b, off, q1, q2, q3⟩ := t3.row.2 h0
        have hbl3 : b < w3.heap.size := by
          obtain ⟨b', off', q1', q2', q3'⟩ := (t2.on hb3).row.2 h0
          obtain ⟨y, hy⟩ : ∃ y, T2[0]? = some y := ⟨T2[0], List.getElem?_eq_getElem h0⟩
          have := World.block_lt_of_cell? w3 _ (q3' _ _ (ppsV_get T2 0 y hy 0 _ rfl))
          rw [q1] at q1'
          injection q1' with q1'
          injection q1' with q1'
          rw [q1']
          exact this
        exact ⟨t3.row.1, fun _ => ⟨b, off, q1, ⟨by omega, fun e => by
          rcases hbl with f | f
          · rw [f] at e
            have := hK b e
            omega
          · rw [f] at e
            injection e with e
            omega⟩, q3⟩⟩
      · exact ⟨t3.row.1, fun h => absurd h h0⟩
    · have ok3 := (t2.last x hx).on hb3
      have ok4 := ok3.kept h4 (fun b _ hb' e => by have := hK b e; omega)
      refine ⟨ok4.1, fun h0 => ?_⟩
      obtain ⟨b, off, q1, q2, q3⟩ := ok4.2 h0
      have hbl3 : b < w3.heap.size := by
        obtain ⟨b', off', q1', q2', q3'⟩ := ok3.2 h0
        obtain ⟨y, hy⟩ : ∃ y, x.p.last[0]? = some y := ⟨x.p.last[0], List.getElem?_eq_getElem h0⟩
        have := World.block_lt_of_cell? w3 _ (q3' _ _ (numsV_get hy))
        rw [q1] at q1'
        injection q1' with q1'
        injection q1' with q1'
        rw [q1']
        exact this
      exact ⟨b, off, q1, ⟨by omega, fun e => by
        rcases hbl with f | f
        · rw [f] at e
          have := hK b e
          omega
        · rw [f] at e
          injection e with e
          omega⟩, q3⟩
  · rw [hlen]
    rcases hbl with f | f
    · rw [f]
      exact h.kE
    · rw [f]
      intro e
      injection e with e
      omega

/-! ### What the law counts -/
structure Cnt (ks : List K) (a e q : Int) (k : Nat) (f c : Int) : Prop where
  c : c = ((of (ks.take k) a e).length : Int)
  f : (f = -1 ∧ ∀ y ∈ of (ks.take k) a e, y.seq ≠ q) ∨ ∃ (j : Nat) (y : K), f = (j : Int) ∧ j < k ∧ ks[j]? = some y ∧ y ∈ of (ks.take k) a e ∧ y.seq = q
theorem cnt0 (ks : List K) (a e q : Int) : Cnt ks a e q 0 (-1) 0 := ⟨rfl, Or.inl ⟨rfl, fun y hy => by simp [of] at hy⟩⟩
theorem Cnt.skip {ks : List K} {a e q : Int} {k : Nat} {f c : Int} (h : Cnt ks a e q k f c) {y : K} (hy : ks[k]? = some y) (hn : ¬ (y.id = a ∧ y.ep = e)) : Cnt ks a e q (k + 1) f c := by
  have ht : of (ks.take (k + 1)) a e = of (ks.take k) a e := by rw [List.take_add_one, hy, of_app]; show _ ++ of [y] a e = _; rw [of_other hn, List.append_nil]
  refine ⟨by rw [ht]; exact h.c, ?_⟩
  rw [ht]
  rcases h.f with h1 | ⟨j, z, h1, h2, h3⟩
  · exact Or.inl h1
  · exact Or.inr ⟨j, z, h1, by omega, h3⟩
theorem Cnt.other {ks : List K} {a e q : Int} {k : Nat} {f c : Int} (h : Cnt ks a e q k f c) {y : K} (hy : ks[k]? = some y) (hn : y.id = a ∧ y.ep = e) (hq : y.seq ≠ q) : Cnt ks a e q (k + 1) f (c + 1) := by
  have ht : of (ks.take (k + 1)) a e = of (ks.take k) a e ++ [y] := by rw [List.take_add_one, hy, of_app]; show _ ++ of [y] a e = _; rw [of_one hn]
  refine ⟨by rw [ht, List.length_append, h.c]; simp, ?_⟩
  rw [ht]
  rcases h.f with ⟨h1, h2⟩ | ⟨j, z, h1, h2, h3, h4, h5⟩
  · refine Or.inl ⟨h1, fun z hz => ?_⟩
    rcases List.mem_append.1 hz with hz | hz
    · exact h2 z hz
    · obtain rfl : z = y := by simpa using hz
      exact hq
  · exact Or.inr ⟨j, z, h1, by omega, h3, List.mem_append_left _ h4, h5⟩
theorem Cnt.found {ks : List K} {a e q : Int} {k : Nat} {f c : Int} (h : Cnt ks a e q k f c) {y : K} (hy : ks[k]? = some y) (hn : y.id = a ∧ y.ep = e) (hq : y.seq = q) : Cnt ks a e q (k + 1) (k : Int) (c + 1) := by
  have ht : of (ks.take (k + 1)) a e = of (ks.take k) a e ++ [y] := by rw [List.take_add_one, hy, of_app]; show _ ++ of [y] a e = _; rw [of_one hn]
  refine ⟨by rw [ht, List.length_append, h.c]; simp, ?_⟩
  rw [ht]
  exact Or.inr ⟨k, y, rfl, by omega, hy, List.mem_append_right _ (by simp), hq⟩
theorem Cnt.end {ks : List K} {a e q : Int} {k : Nat} {f c : Int} (h : Cnt ks a e q k f c) (hk : ks.length ≤ k) : c = ((of ks a e).length : Int) ∧ ((f = -1 ∧ ∀ y ∈ of ks a e, y.seq ≠ q) ∨ ∃ (j : Nat) (y : K), f = (j : Int) ∧ ks[j]? = some y ∧ y ∈ of ks a e ∧ y.seq = q) := by
  have h1 := h.c
  have h2 := h.f
  rw [List.take_of_length_le hk] at h1 h2
  refine ⟨h1, ?_⟩
  rcases h2 with h2 | ⟨j, y, q1, _, q2⟩
  · exact Or.inl h2
  · exact Or.inr ⟨j, y, q1, q2⟩
end Go.Proofs.Ytlfjbiiacnikhaa
