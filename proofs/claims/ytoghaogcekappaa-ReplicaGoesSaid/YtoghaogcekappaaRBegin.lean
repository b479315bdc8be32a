/-
  The law's cluster: the beginning.
  The law's cluster: it begins.
-/
import Derived.Test.YtoghaogcekappaaRSent
import Derived.Test.YtoghaogcekappaaRLast
import Derived.Test.YtoghaogcekappaaRSmall
namespace Go.Proofs.Ytoghaogcekappaa
set_option maxRecDepth 100000
open Go Go.RowKit Rp

theorem infoPtr : (Try.prog.info? 30).map (fun i => (i.zero, i.size, i.bytes)) = some (some (.pointer none), 1, 8) := by kernel_rfl
theorem infoStored : (Try.prog.info? 65).map (fun i => (i.zero, i.size, i.bytes)) = some (some (.agg #[.int .i64 0, .int .i64 0, .slice none 0 0, .int .i64 0]), 4, 48) := by kernel_rfl
/-- One more element, which lies in a block of its own. -/
theorem app_ptr (w : World) (base : Nat) (v : Value) (n : Nat) (xs : List Value) (h : w.ownsRow base 30 1 v n xs) (q : Value) (hq : q.oneCell' = true) (hn : n ≤ 1000) (hb : base ≤ w.heap.size) :
    ∃ a c w', (Builtin.append_ #[59, 59] 59 #[v, .slice (some ⟨w.heap.size, 0, none⟩) 1 1]).run Try.prog (w.alloc (.cells #[q] 30)) = .ok (.slice a (n + 1) c) w' ∧
      w'.ownsRow base 30 1 (.slice a (n + 1) c) (n + 1) (xs ++ [q]) ∧ ((Value.slice a (n + 1) c).ownBlock = v.ownBlock ∨ ∃ y, (Value.slice a (n + 1) c).ownBlock = some y ∧ w.heap.size < y) ∧ Kept (fun k => v.ownBlock = some k) w w' := by
  obtain ⟨i0, hi0, hz0, hz1, hz2⟩ := info_parts infoPtr
  have hA := below_new w (.cells #[q] 30)
  obtain ⟨v5, w5, hr, hown5, hgr5, hbl5⟩ := run_append_any_own (P := Try.prog) (w.alloc (.cells #[q] 30)) base 59 59 30 i0 _ 1 8 Try.underlying59 hi0 hz0 hz1 hz2 rfl (by decide) v n xs (own_kept h (Kept.below (S := fun _ => False) hA) (fun _ _ e => e))
    (some ⟨w.heap.size, 0, none⟩) 1 1 [q] rfl (fun _ => ⟨_, rfl, fun j u hu => by
      rw [Lib.add_plain, Lib.cell_of_heap (heap_alloc_new w _)]
      cases j with
      | zero => simpa using hu
      | succ j => simp at hu⟩) (fun u hu => by obtain rfl := List.mem_singleton.1 hu; exact hq) (by unfold maxLen; omega) (by omega) (by have := hA.size; omega)
  obtain ⟨a, c, rfl, _⟩ := own_shape (own_base hown5)
  refine ⟨a, c, w5, hr, hown5, ?_, (Kept.below hA).trans (Kept.grown hgr5 (fun k e => e)) (fun _ _ e => e)⟩
  rcases hbl5 with e | e
  · exact Or.inl e
  · exact Or.inr ⟨_, e, by simp⟩
def st0 : List Value := [.int .i64 0, .int .i64 (-1), .slice none 0 0, .int .i64 0]
theorem app_stored (w : World) (base : Nat) (v : Value) (n : Nat) (xs : List Value) (h : w.ownsRow base 65 4 v n xs) (hn : n ≤ 1000) (hb : base ≤ w.heap.size) :
    ∃ a c w', (Builtin.append_ #[60, 60] 60 #[v, .slice (some ⟨w.heap.size, 0, none⟩) 1 1]).run Try.prog (w.alloc (.cells #[.int .i64 0, .int .i64 (-1), .slice none 0 0, .int .i64 0] 65)) = .ok (.slice a (n + 1) c) w' ∧
      w'.ownsRow base 65 4 (.slice a (n + 1) c) (n + 1) (xs ++ st0) ∧ ((Value.slice a (n + 1) c).ownBlock = v.ownBlock ∨ ∃ y, (Value.slice a (n + 1) c).ownBlock = some y ∧ w.heap.size < y) ∧ Kept (fun k => v.ownBlock = some k) w w' := by
  obtain ⟨i0, hi0, hz0, hz1, hz2⟩ := info_parts infoStored
  have hA := below_new w (.cells #[.int .i64 0, .int .i64 (-1), .slice none 0 0, .int .i64 0] 65)
  obtain ⟨v5, w5, hr, hown5, hgr5, hbl5⟩ := run_append_any_own (P := Try.prog) (w.alloc (.cells #[.int .i64 0, .int .i64 (-1), .slice none 0 0, .int .i64 0] 65)) base 60 60 65 i0 _ 4 48 Try.underlying60 hi0 hz0 hz1 hz2 rfl (by decide) v n xs (own_kept h (Kept.below (S := fun _ => False) hA) (fun _ _ e => e))
    (some ⟨w.heap.size, 0, none⟩) 1 1 st0 rfl (fun _ => ⟨_, rfl, fun j u hu => by
      rw [Lib.add_plain, Lib.cell_of_heap (heap_alloc_new w _), Nat.zero_add]
      simpa [st0] using hu⟩) (fun u hu => by simp [st0] at hu; rcases hu with rfl | rfl | rfl | rfl <;> rfl) (by unfold maxLen; omega) (by omega) (by have := hA.size; omega)
  obtain ⟨a, c, rfl, _⟩ := own_shape (own_base hown5)
  refine ⟨a, c, w5, hr, hown5, ?_, (Kept.below hA).trans (Kept.grown hgr5 (fun k e => e)) (fun _ _ e => e)⟩
  rcases hbl5 with e | e
  · exact Or.inl e
  · exact Or.inr ⟨_, e, by simp⟩
/-- A new replica. -/
def freshR (i : Int) : R := ⟨i, ⟨0, -1⟩, [], 0, 0, fun _ => false, fun _ => 0, fun _ => 0⟩
theorem freshR_new {i : Int} (h : 0 ≤ i ∧ i ≤ 2) : newR i ⟨0, -1⟩ [] = some (freshR i) := by
  unfold newR
  rw [if_neg (by simp [sound]; omega)]
  rfl
def ptrs (p : Nat → Nat) (i : Nat) : List Value := (List.range i).map fun k => .pointer (some ⟨p k, 0, none⟩)
def stos (i : Nat) : List Value := (List.replicate i st0).flatten
theorem ptrs_succ (p : Nat → Nat) (i q : Nat) : ptrs (updN p i q) (i + 1) = ptrs p i ++ [.pointer (some ⟨q, 0, none⟩)] := by
  unfold ptrs
  rw [List.range_succ, List.map_append, List.map_singleton, updN_same]
  congr 1
  exact List.map_congr_left (fun k hk => by rw [updN_ne _ _ (by have := List.mem_range.1 hk; omega)])
theorem stos_succ (i : Nat) : stos (i + 1) = stos i ++ st0 := by
  unfold stos
  rw [List.replicate_succ', List.flatten_append]
  simp
/-- A cluster under way. -/
structure Bg (w0 w : World) (b : Nat) (t : Nat → Nat) (i : Nat) (ra : Option Addr) (rc : Nat) (sa : Option Addr) (sc : Nat) (p : Nat → Nat) (lv : Nat → Value) : Prop where
  low : Below w0.heap.size w0 w
  box : w.heap[b]? = some (.cells #[.slice ra i rc, .slice sa i sc, .slice none 0 0] 62 (0, 0))
  hb : w0.heap.size ≤ b
  rrow : w.ownsRow w0.heap.size 30 1 (.slice ra i rc) i (ptrs p i)
  srow : w.ownsRow w0.heap.size 65 4 (.slice sa i sc) i (stos i)
  rep : ∀ k : Nat, k < i → RepAt w (p k) (lv k) (freshR k)
  tb : t b = 1
  tr : ∀ j, (Value.slice ra i rc).ownBlock = some j → t j = 2
  ts : ∀ j, (Value.slice sa i sc).ownBlock = some j → t j = 3
  tp : ∀ k : Nat, k < i → ∀ j, Own (p k) (lv k) j → t j = 5 + k
  t0 : ∀ j, j < w0.heap.size → t j = 0
section
variable {w0 w w' : World} {b : Nat} {t : Nat → Nat} {i : Nat} {ra : Option Addr} {rc : Nat} {sa : Option Addr} {sc : Nat} {p : Nat → Nat} {lv : Nat → Value}
theorem Bg.lt (h : Bg w0 w b t i ra rc sa sc p lv) : b < w.heap.size := box_lt h.box
theorem Bg.c (h : Bg w0 w b t i ra rc sa sc p lv) : w.cell? ⟨b, 0, none⟩ = some (.slice ra i rc) ∧ w.cell? ⟨b, 1, none⟩ = some (.slice sa i sc) ∧ w.cell? ⟨b, 2, none⟩ = some (.slice none 0 0) ∧ (∀ o, w.frozen? ⟨b, o, none⟩ = false) := by
  refine ⟨?_, ?_, ?_, fun o => Lib.frozen_of_heap h.box o⟩ <;> (rw [Lib.cell_of_heap h.box]; rfl)
theorem Bg.on (h : Bg w0 w b t i ra rc sa sc p lv) (hb : Below w.heap.size w w') : Bg w0 w' b t i ra rc sa sc p lv :=
  ⟨h.low.trans (hb.mono h.low.size), box_on h.box hb, h.hb, own_kept h.rrow (Kept.below (S := fun _ => False) hb) (fun _ _ e => e), own_kept h.srow (Kept.below (S := fun _ => False) hb) (fun _ _ e => e), fun k hk => (h.rep k hk).on hb, h.tb, h.tr, h.ts, h.tp, h.t0⟩
/-- A replica, then what is stored of it. -/
theorem Bg.step (h : Bg w0 w b t i ra rc sa sc p lv) (hi : i < 3) {w1 w2 : World} {bn : Nat} {l : Value} {qa : Option Addr} {qc : Nat} {ta : Option Addr} {tc : Nat} (h1 : Below w.heap.size w w1) (hr : RepAt w1 bn l (freshR i)) (hbn : w.heap.size ≤ bn) (hl : ∀ j, l.ownBlock = some j → w.heap.size ≤ j)
    (q1 : w2.ownsRow w0.heap.size 30 1 (.slice qa (i + 1) qc) (i + 1) (ptrs p i ++ [.pointer (some ⟨bn, 0, none⟩)])) (q2 : (Value.slice qa (i + 1) qc).ownBlock = (Value.slice ra i rc).ownBlock ∨ ∃ y, (Value.slice qa (i + 1) qc).ownBlock = some y ∧ w1.heap.size < y) (q3 : Kept (fun k => (Value.slice ra i rc).ownBlock = some k) w1 w2)
    {w3 w4 : World} (h3 : w3 = w2.setCell ⟨b, 0, none⟩ (.slice qa (i + 1) qc)) (r1 : w4.ownsRow w0.heap.size 65 4 (.slice ta (i + 1) tc) (i + 1) (stos i ++ st0)) (r2 : (Value.slice ta (i + 1) tc).ownBlock = (Value.slice sa i sc).ownBlock ∨ ∃ y, (Value.slice ta (i + 1) tc).ownBlock = some y ∧ w3.heap.size < y) (r3 : Kept (fun k => (Value.slice sa i sc).ownBlock = some k) w3 w4) :
    ∃ t' p' lv', Bg w0 (w4.setCell ⟨b, 1, none⟩ (.slice ta (i + 1) tc)) b t' (i + 1) qa qc ta tc p' lv' := by
  have s1 := h1.size
  have s2 := q3.size
  have s3 : w3.heap.size = w2.heap.size := by rw [h3]; simp [World.setCell]
  have s4 := r3.size
  have s5 := h.low.size
  have hb' := h.lt
  have hbl := hr.lt
  obtain ⟨t', ht'⟩ : ∃ t' : Nat → Nat, t' = fun j => if j < w.heap.size then t j else if j = bn ∨ l.ownBlock = some j then 5 + i else if (Value.slice qa (i + 1) qc).ownBlock = some j then 2 else 3 := ⟨_, rfl⟩
  have e1 : ∀ j, j < w.heap.size → t' j = t j := fun j hj => by rw [ht']; exact if_pos hj
  have e2 : ∀ j, Own bn l j → t' j = 5 + i := fun j e => by
    have : w.heap.size ≤ j := e.elim (fun e => by omega) (fun e => hl j e)
    have e : j = bn ∨ l.ownBlock = some j := e
    rw [ht']; show (if j < w.heap.size then _ else _) = _; rw [if_neg (by omega), if_pos e]
  have hown1 : ∀ j, Own bn l j → j < w1.heap.size := fun j e => hr.own_lt e
  have e3 : ∀ j, (Value.slice qa (i + 1) qc).ownBlock = some j → t' j = 2 := fun j e => by
    rcases q2 with q | ⟨y, q, hy⟩
    · have hj : (Value.slice ra i rc).ownBlock = some j := by rw [← q]; exact e
      rw [e1 j ((own_base h.rrow).lt j hj).2]
      exact h.tr j hj
    · have hjy : j = y := by rw [q] at e; injection e with e; exact e.symm
      rw [ht']; show (if j < w.heap.size then _ else _) = _
      rw [if_neg (by omega), if_neg (fun q => by have := hown1 j (q.elim Or.inl Or.inr); omega), if_pos e]
  have e4 : ∀ j, (Value.slice ta (i + 1) tc).ownBlock = some j → t' j = 3 := fun j e => by
    rcases r2 with q | ⟨y, q, hy⟩
    · have hj : (Value.slice sa i sc).ownBlock = some j := by rw [← q]; exact e
      rw [e1 j ((own_base h.srow).lt j hj).2]
      exact h.ts j hj
    · have hjy : j = y := by rw [q] at e; injection e with e; exact e.symm
      have hq1 : ¬ (Value.slice qa (i + 1) qc).ownBlock = some j := fun e' => by have := ((own_base q1).lt j e').2; omega
      rw [ht']; show (if j < w.heap.size then _ else _) = _
      rw [if_neg (by omega), if_neg (fun q => by have := hown1 j (q.elim Or.inl Or.inr); omega), if_neg hq1]
  have hm1 : ∀ j, (Value.slice ra i rc).ownBlock = some j → j < w.heap.size ∧ t j = 2 := fun j e => ⟨((own_base h.rrow).lt j e).2, h.tr j e⟩
  have hm2 : ∀ j, (Value.slice sa i sc).ownBlock = some j → j < w.heap.size ∧ t j = 3 := fun j e => ⟨((own_base h.srow).lt j e).2, h.ts j e⟩
  have k1 : Kept (fun j => t' j = 2) w1 w2 := q3.mono (fun j _ e => by rw [e1 j (hm1 j e).1]; exact (hm1 j e).2)
  have k2 : Kept (fun j => t' j = 1) w2 w3 := by rw [h3]; exact (Kept.set b 0 w2 _).mono (fun j _ e => by rw [e, e1 b hb']; exact h.tb)
  have k3 : Kept (fun j => t' j = 3) w3 w4 := r3.mono (fun j _ e => by rw [e1 j (hm2 j e).1]; exact (hm2 j e).2)
  have k4 : Kept (fun j => t' j = 1) w4 (w4.setCell ⟨b, 1, none⟩ (.slice ta (i + 1) tc)) := (Kept.set b 1 w4 _).mono (fun j _ e => by rw [e, e1 b hb']; exact h.tb)
  have K13 : Kept (fun j => t' j = 1 ∨ t' j = 2 ∨ t' j = 3) w1 (w4.setCell ⟨b, 1, none⟩ (.slice ta (i + 1) tc)) :=
    (((k1.mono (S' := fun j => t' j = 1 ∨ t' j = 2 ∨ t' j = 3) (fun j _ e => Or.inr (Or.inl e))).trans k2 (fun j _ e => Or.inl e)).trans k3 (fun j _ e => Or.inr (Or.inr e))).trans k4 (fun j _ e => Or.inl e)
  have bx1 : w1.heap[b]? = _ := box_on h.box h1
  have bx2 := k1.heap bx1 (fun e => by rw [e1 b hb', h.tb] at e; exact absurd e (by decide))
  have bx3 : w3.heap[b]? = some (.cells #[.slice qa (i + 1) qc, .slice sa i sc, .slice none 0 0] 62 (0, 0)) := by rw [h3]; exact box_set bx2 0 _
  have bx4 := k3.heap bx3 (fun e => by rw [e1 b hb', h.tb] at e; exact absurd e (by decide))
  refine ⟨t', updN p i bn, updN lv i l, ?_, box_set bx4 1 _, h.hb, ?_, ?_, ?_, (e1 b hb').trans h.tb, e3, e4, ?_, fun j hj => (e1 j (by omega)).trans (h.t0 j hj)⟩
  · have K0 : Kept (fun j => w0.heap.size ≤ j) w1 (w4.setCell ⟨b, 1, none⟩ (.slice ta (i + 1) tc)) :=
      (((q3.mono (S' := fun j => w0.heap.size ≤ j) (fun j _ e => own_above h.rrow e)).trans (show Kept (fun j => j = b) w2 w3 by rw [h3]; exact Kept.set b 0 w2 _) (fun j _ e => by rw [e]; exact h.hb)).trans r3 (fun j _ e => own_above h.srow e)).trans (Kept.set b 1 w4 _) (fun j _ e => by rw [e]; exact h.hb)
    exact (h.low.trans (h1.mono s5)).trans (K0.toBelow (by omega) (fun j e => e))
  · rw [ptrs_succ]
    exact own_kept (own_kept (own_kept q1 k2 (fun j e e' => by rw [e3 j e] at e'; exact absurd e' (by decide))) k3 (fun j e e' => by rw [e3 j e] at e'; exact absurd e' (by decide))) k4 (fun j e e' => by rw [e3 j e] at e'; exact absurd e' (by decide))
  · rw [stos_succ]
    exact own_kept r1 k4 (fun j e e' => by rw [e4 j e] at e'; exact absurd e' (by decide))
  · intro k hk
    by_cases q : k = i
    · subst q
      rw [updN_same, updN_same]
      exact hr.far K13 (fun j e e' => by have := e2 j e; omega)
    · rw [updN_ne _ _ q, updN_ne _ _ q]
      refine ((h.rep k (by omega)).on h1).far K13 (fun j e e' => ?_)
      have hj := (h.rep k (by omega)).own_lt e
      have := h.tp k (by omega) j e
      rw [e1 j hj] at e'
      omega
  · intro k hk j e
    by_cases q : k = i
    · subst q
      rw [updN_same, updN_same] at e
      exact e2 j e
    · rw [updN_ne _ _ q, updN_ne _ _ q] at e
      rw [e1 j ((h.rep k (by omega)).own_lt e)]
      exact h.tp k (by omega) j e
end
end Go.Proofs.Ytoghaogcekappaa

namespace Go.Proofs.Ytoghaogcekappaa
set_option maxRecDepth 100000
open Go Go.RowKit Rp

section
variable {w0 w w' : World} {b : Nat} {t : Nat → Nat} {ra : Option Addr} {rc : Nat} {sa : Option Addr} {sc : Nat} {p : Nat → Nat} {lv : Nat → Value}
theorem own_blk {w : World} {base : Nat} {e : TypeId} {size : Nat} {a : Option Addr} {n c : Nat} {xs : List Value} (h : w.ownsRow base e size (.slice a n c) n xs) (h0 : 0 < n) : ∃ (g : Nat) (cur : Array Value), a = some ⟨g, 0, none⟩ ∧ (Value.slice a n c).ownBlock = some g ∧ w.heap[g]? = some (.cells cur e (0, 0)) ∧ ∀ (j : Nat) (u : Value), xs[j]? = some u → cur[j]? = some u := by
  rcases h.2 with ⟨e1, _⟩ | ⟨g, cap, cur, e1, h1, h2, _⟩
  · injection e1 with e1 e2 e3
    omega
  · injection e1 with e1 e2 e3
    refine ⟨g, cur, e1, by rw [e1]; rfl, h2, fun j u hu => ?_⟩
    have := own_cell (own_base h) (a := ⟨g, 0, none⟩) (by rw [e1]) j u hu
    rw [Lib.add_plain, Nat.zero_add, Lib.cell_of_heap h2] at this
    exact this
theorem Bg.clu (h : Bg w0 w b t 3 ra rc sa sc p lv) : ∃ m, CluIs w b t beginC m := by
  obtain ⟨rb, rcur, rfl, r1, r2, r3⟩ := own_blk h.rrow (by decide)
  obtain ⟨sb, scur, rfl, s1, s2, s3⟩ := own_blk h.srow (by decide)
  refine ⟨⟨rb, rc, rcur, sb, sc, scur, p, lv, fun _ => none, fun _ => 0, none, 0, []⟩, ?_⟩
  have hk3 : ∀ {P : Nat → Prop}, P 0 → P 1 → P 2 → ∀ k : Nat, k < 3 → P k := fun h0 h1 h2 k hk => by
    rcases k with _ | _ | _ | k
    · exact h0
    · exact h1
    · exact h2
    · omega
  exact
  { box := h.box, rbx := r2, sbx := s2
    rce := fun k hk => r3 k _ (by unfold ptrs; rw [List.getElem?_map, List.getElem?_range hk]; rfl)
    s0 := hk3 (s3 0 _ rfl) (s3 4 _ rfl) (s3 8 _ rfl)
    s1 := hk3 (s3 1 _ rfl) (s3 5 _ rfl) (s3 9 _ rfl)
    s2 := hk3 (s3 2 _ rfl) (s3 6 _ rfl) (s3 10 _ rfl)
    s3 := hk3 (s3 3 _ rfl) (s3 7 _ rfl) (s3 11 _ rfl)
    rep := fun k hk => h.rep k hk
    lgs := fun k hk => Src.nil _ _
    sent := msgRow_nil _ _, ms := rfl, ok := fun q hq => by cases hq
    sml := fun q hq => by cases hq
    tb := h.tb, tr := h.tr rb r1, ts := h.ts sb s1
    tx := fun j e => by cases e
    tp := h.tp }
/-- A cluster beside a world of old. -/
structure Cz (w0 w : World) (b : Nat) (x : Cl) (t : Nat → Nat) (m : CM) : Prop where
  low : Below w0.heap.size w0 w
  t0 : ∀ j, j < w0.heap.size → t j = 0
  clu : CluIs w b t x m
end
set_option maxHeartbeats 4000000 in
set_option linter.unusedSimpArgs false in
theorem begin_c (w0 : World) : Calls Try.prog 25 #[] w0 fun e w' => ∃ b, e = .returned (.pointer (some ⟨b, 0, none⟩)) ∧ Hid (∃ t m, Cz w0 w' b beginC t m) := by
  go_enter Try.func25, Try.ntmps25
  go_upto_region 2 with fail
  have hbg : Hid (∃ t p lv, Bg w0 (w0.alloc (.cells #[.slice none 0 0, .slice none 0 0, .slice none 0 0] 62)) w0.heap.size t 0 none 0 none 0 p lv) := Lib.hid ⟨fun j => if j = w0.heap.size then 1 else 0, fun _ => 0, fun _ => .slice none 0 0, ⟨below_new _ _, box_new _ _, Nat.le_refl _, World.ownsRow_nil _ _ _ _, World.ownsRow_nil _ _ _ _, (fun k hk => by omega), if_pos rfl, (fun j e => by cases e), (fun j e => by cases e), (fun k hk => by omega), fun j hj => if_neg (by omega)⟩⟩
  obtain ⟨W1, hW1⟩ : ∃ W1, W1 = w0.alloc (.cells #[.slice none 0 0, .slice none 0 0, .slice none 0 0] 62) := ⟨_, rfl⟩
  rw [← hW1] at hbg ⊢
  clear hW1
  go_wp2_with fail
  go_loopw [2] (fun v2 wr => ∃ (i : Nat) (ra : Option Addr) (rc : Nat) (sa : Option Addr) (sc : Nat), i ≤ 3 ∧ v2 = .int .i64 (i : Int) ∧ Hid (∃ t p lv, Bg w0 wr w0.heap.size t i ra rc sa sc p lv)) (fun v2 _ => 3 - (intOf v2).toNat)
  case atStart => exact ⟨0, none, 0, none, 0, by decide, rfl, hbg⟩
  case round =>
    obtain ⟨i, ra, rc, sa, sc, hi, rfl, hbi⟩ := hrel
    clear hbg
    obtain ⟨t, p, lv, hB⟩ := hbi.out
    have H := Lib.hid hB
    obtain ⟨c0, c1, c2, cf⟩ := hB.c
    clear hbi hB
    by_cases hi3 : i < 3
    · have hi3' : (i : Int) < 3 := by omega
      have hbd : Below wr.heap.size wr wr.drew := below_drew (Below.refl _ _)
      have QN := Lib.hid ((new_x i (freshR i) (freshR_new (by omega)) wr.drew).mono (R' := fun e w1 => ∃ bn, e = .returned (.pointer (some ⟨bn, 0, none⟩)) ∧ (w1.cell? ⟨w0.heap.size, 0, none⟩ = some (.slice ra i rc) ∧ (∀ o, w1.frozen? ⟨w0.heap.size, o, none⟩ = false)) ∧ Hid (∃ l qa qc w2, (Builtin.append_ #[59, 59] 59 #[.slice ra i rc, .slice (some ⟨w1.heap.size, 0, none⟩) 1 1]).run Try.prog (w1.alloc (.cells #[.pointer (some ⟨bn, 0, none⟩)] 30)) = .ok (.slice qa (i + 1) qc) w2 ∧ Hid (Below wr.heap.size wr w1 ∧ RepAt w1 bn l (freshR i) ∧ wr.heap.size ≤ bn ∧ (∀ j, l.ownBlock = some j → wr.heap.size ≤ j) ∧ w2.ownsRow w0.heap.size 30 1 (.slice qa (i + 1) qc) (i + 1) (ptrs p i ++ [.pointer (some ⟨bn, 0, none⟩)]) ∧ ((Value.slice qa (i + 1) qc).ownBlock = (Value.slice ra i rc).ownBlock ∨ ∃ y, (Value.slice qa (i + 1) qc).ownBlock = some y ∧ w1.heap.size < y) ∧ Kept (fun k => (Value.slice ra i rc).ownBlock = some k) w1 w2))) (fun e w1 hh => by
        obtain ⟨bn, e1, hn⟩ := hh
        obtain ⟨l, q1, q2, q3, q4⟩ := hn.out
        have hb1 : Below wr.heap.size wr w1 := hbd.trans q4
        have h1 := H.out.on hb1
        obtain ⟨qa, qc, w2, r1, r2, r3, r4⟩ := app_ptr w1 w0.heap.size _ i _ h1.rrow (.pointer (some ⟨bn, 0, none⟩)) rfl (by omega) h1.low.size
        exact ⟨bn, e1, ⟨h1.c.1, h1.c.2.2.2⟩, Lib.hid ⟨l, qa, qc, w2, r1, Lib.hid ⟨hb1, q1, q2, q3, r2, r3, r4⟩⟩⟩))
      clear hbd
      go_wp2_with fail
      refine e_start [12] (fun w' => w'.cell? ⟨w0.heap.size, 0, none⟩ = some (.slice ra i rc) ∧ (∀ o, w'.frozen? ⟨w0.heap.size, o, none⟩ = false)) (by kernel_rfl) ⟨c0, cf⟩ (fun hS => ?_)
      refine e_take (i := 0) (v := ?_) rfl (by kernel_rfl) (by kernel_rfl) (by kernel_rfl) (by kernel_rfl) (fun _ _ _ h => h) (Or.inl ⟨by rfl, ?_⟩) (by assumption) ?_
      rotate_left
      · (intro wS hSw; (try dsimp only at hSw); obtain ⟨s1, s2⟩ := hSw; go_simp <;> with_reducible rfl)
      try simp only [Act.put, List.setIfInBounds_toArray, List.set_cons_zero, List.set_cons_succ]
      refine e_take (i := 1) (v := ?_) rfl (by kernel_rfl) (by kernel_rfl) (by kernel_rfl) (by kernel_rfl) (fun _ _ _ h => h) (Or.inl ⟨by rfl, ?_⟩) (by assumption) ?_
      rotate_left
      · (intro wS hSw; (try dsimp only at hSw); obtain ⟨s1, s2⟩ := hSw; go_simp <;> with_reducible rfl)
      try simp only [Act.put, List.setIfInBounds_toArray, List.set_cons_zero, List.set_cons_succ]
      refine e_take (i := 2) (v := ?_) rfl (by kernel_rfl) (by kernel_rfl) (by kernel_rfl) (by kernel_rfl) (fun _ _ _ h => h) (Or.inl ⟨by rfl, ?_⟩) (by assumption) ?_
      rotate_left
      · (intro wS hSw; (try dsimp only at hSw); obtain ⟨s1, s2⟩ := hSw; go_simp <;> with_reducible rfl)
      try simp only [Act.put, List.setIfInBounds_toArray, List.set_cons_zero, List.set_cons_succ]
      refine e_take (i := 3) (v := ?_) rfl (by kernel_rfl) (by kernel_rfl) (by kernel_rfl) (by kernel_rfl) (fun _ _ _ h => h) (Or.inl ⟨by rfl, ?_⟩) (by assumption) ?_
      rotate_left
      · (intro wS hSw; (try dsimp only at hSw); obtain ⟨s1, s2⟩ := hSw; go_simp <;> with_reducible rfl)
      try simp only [Act.put, List.setIfInBounds_toArray, List.set_cons_zero, List.set_cons_succ]
      refine e_take (i := 4) (v := ?_) rfl (by kernel_rfl) (by kernel_rfl) (by kernel_rfl) (by kernel_rfl) (fun _ _ _ h => h) (Or.inl ⟨by rfl, ?_⟩) (by assumption) ?_
      rotate_left
      · (intro wS hSw; (try dsimp only at hSw); obtain ⟨s1, s2⟩ := hSw; go_simp <;> with_reducible rfl)
      try simp only [Act.put, List.setIfInBounds_toArray, List.set_cons_zero, List.set_cons_succ]
      refine e_take (i := 5) (v := ?_) rfl (by kernel_rfl) (by kernel_rfl) (by kernel_rfl) (by kernel_rfl) (fun _ _ _ h => h) (Or.inl ⟨by rfl, ?_⟩) (by assumption) ?_
      rotate_left
      · (intro wS hSw; (try dsimp only at hSw); obtain ⟨s1, s2⟩ := hSw; go_simp <;> with_reducible rfl)
      try simp only [Act.put, List.setIfInBounds_toArray, List.set_cons_zero, List.set_cons_succ]
      refine e_take (i := 6) (v := ?_) rfl (by kernel_rfl) (by kernel_rfl) (by kernel_rfl) (by kernel_rfl) (fun _ _ _ h => h) (Or.inl ⟨by rfl, ?_⟩) (by assumption) ?_
      rotate_left
      · (intro wS hSw; (try dsimp only at hSw); obtain ⟨s1, s2⟩ := hSw; go_simp <;> with_reducible rfl)
      try simp only [Act.put, List.setIfInBounds_toArray, List.set_cons_zero, List.set_cons_succ]
      refine e_one (i := 7) (by kernel_rfl) rfl rfl (fun K hK => ?_)
      go_simp
      refine QN.out.mono ?_
      rintro e w1 ⟨bn, rfl, n0, HN⟩
      obtain ⟨l, qa, qc, w2, hr, HF⟩ := HN.out
      obtain ⟨f1, f2, f3, f4, f5, f6, f7⟩ := HF.out
      have hne : ∀ k, (Value.slice ra i rc).ownBlock = some k → k ≠ w0.heap.size := fun k e e' => by have := H.out.tr k e; rw [e', H.out.tb] at this; exact absurd this (by decide)
      have hbl : w0.heap.size < w1.heap.size := by have := H.out.lt; have := f1.size; omega
      have n2 : w2.cell? ⟨w0.heap.size, 0, none⟩ = some (.slice ra i rc) ∧ (∀ o, w2.frozen? ⟨w0.heap.size, o, none⟩ = false) := ⟨f7.cell n0.1 (fun e => hne _ e rfl), fun o => (World.frozen?_of_block (f7.block _ hbl (fun e => hne _ e rfl))).trans (n0.2 o)⟩
      have nA : (w1.alloc (.cells #[.pointer (some ⟨bn, 0, none⟩)] 30)).cell? ⟨w0.heap.size, 0, none⟩ = some (.slice ra i rc) ∧ (∀ o, (w1.alloc (.cells #[.pointer (some ⟨bn, 0, none⟩)] 30)).frozen? ⟨w0.heap.size, o, none⟩ = false) := ⟨(Kept.alloc (fun _ => False) _ _).cell n0.1 (fun e => e), fun o => (World.frozen?_of_block ((Kept.alloc (fun _ => False) _ _).block _ hbl (fun e => e))).trans (n0.2 o)⟩
      obtain ⟨W3, hW3⟩ : ∃ W3, W3 = w2.setCell ⟨w0.heap.size, 0, none⟩ (.slice qa (i + 1) qc) := ⟨_, rfl⟩
      have h3 : Hid (∃ ta tc w4, W3.cell? ⟨w0.heap.size, 1, none⟩ = some (.slice sa i sc) ∧ (∀ o, W3.frozen? ⟨w0.heap.size, o, none⟩ = false) ∧ (Builtin.append_ #[60, 60] 60 #[.slice sa i sc, .slice (some ⟨W3.heap.size, 0, none⟩) 1 1]).run Try.prog (W3.alloc (.cells #[.int .i64 0, .int .i64 (-1), .slice none 0 0, .int .i64 0] 65)) = .ok (.slice ta (i + 1) tc) w4 ∧ (w4.cell? ⟨w0.heap.size, 1, none⟩ = some (.slice sa i sc) ∧ (∀ o, w4.frozen? ⟨w0.heap.size, o, none⟩ = false)) ∧ Hid (∃ t' p' lv', Bg w0 (w4.setCell ⟨w0.heap.size, 1, none⟩ (.slice ta (i + 1) tc)) w0.heap.size t' (i + 1) qa qc ta tc p' lv')) := by
        have k3 : Kept (fun j => j = w0.heap.size ∨ (Value.slice ra i rc).ownBlock = some j) w1 W3 := by rw [hW3]; exact (f7.mono (fun j _ e => Or.inr e)).trans (Kept.set w0.heap.size 0 w2 _) (fun j _ e => Or.inl e)
        have g1 := H.out.on f1
        have bx1 : w2.heap[w0.heap.size]? = _ := f7.heap g1.box (fun e => hne _ e rfl)
        have bx3 := hW3 ▸ box_set bx1 0 (.slice qa (i + 1) qc)
        have hsr : ∀ j, (Value.slice sa i sc).ownBlock = some j → ¬ (j = w0.heap.size ∨ (Value.slice ra i rc).ownBlock = some j) := fun j e e' => by
          have := H.out.ts j e
          rcases e' with e' | e'
          · rw [e', H.out.tb] at this; exact absurd this (by decide)
          · rw [H.out.tr j e'] at this; exact absurd this (by decide)
        have hsl : w0.heap.size ≤ W3.heap.size := by have := k3.size; have := g1.low.size; omega
        obtain ⟨ta, tc, w4, r1, r2, r3, r4⟩ := app_stored W3 w0.heap.size _ i _ (own_kept g1.srow k3 hsr) (by omega) hsl
        have hns : ¬ (Value.slice sa i sc).ownBlock = some w0.heap.size := fun e => hsr _ e (Or.inl rfl)
        have bx4 := r4.heap bx3 hns
        refine Lib.hid ⟨ta, tc, w4, by rw [Lib.cell_of_heap bx3]; rfl, fun o => Lib.frozen_of_heap bx3 o, r1, ⟨by rw [Lib.cell_of_heap bx4]; rfl, fun o => Lib.frozen_of_heap bx4 o⟩, Lib.hid (H.out.step hi3 f1 f2 f3 f4 f5 f6 f7 hW3 r2 r3 r4)⟩
      obtain ⟨ta, tc, w4, y1, yf, hr4, ⟨y4, yf4⟩, HE⟩ := h3.out
      clear HN HF f1 f2 f3 f4 f5 f6 f7 hne hbl h3 c0 c1 c2 cf
      try simp only [go_sem]
      refine hK _ _ (Or.inr n0) ?_
      try simp only [Act.put, List.setIfInBounds_toArray, List.set_cons_zero, List.set_cons_succ]
      refine e_one (i := 8) (by kernel_rfl) rfl rfl (fun K hK => ?_)
      go_simp
      refine hK _ _ (Or.inr nA) ?_
      try simp only [Act.put, List.setIfInBounds_toArray, List.set_cons_zero, List.set_cons_succ]
      refine e_one (i := 9) (by kernel_rfl) rfl rfl (fun K hK => ?_)
      refine Lib.wp_append_run _ (.tmp 13) (.tmp 17) _ _ rfl _ _ rfl rfl _ _ hr ?_
      refine hK _ _ (Or.inr n2) ?_
      try simp only [Act.put, List.setIfInBounds_toArray, List.set_cons_zero, List.set_cons_succ]
      refine e_one (i := 10) (by kernel_rfl) rfl rfl (fun K hK => ?_)
      go_simp
      refine hK _ _ (Or.inr n2) ?_
      try simp only [Act.put, List.setIfInBounds_toArray, List.set_cons_zero, List.set_cons_succ]
      refine e_one (i := 11) (by kernel_rfl) rfl rfl (fun K hK => ?_)
      go_simp
      refine hK _ _ (Or.inr n2) ?_
      try simp only [Act.put, List.setIfInBounds_toArray, List.set_cons_zero, List.set_cons_succ]
      refine e_one (i := 12) (by kernel_rfl) rfl rfl (fun K hK => ?_)
      go_simp
      refine hK _ _ (Or.inl (by simp)) ?_
      try simp only [Act.put, List.setIfInBounds_toArray, List.set_cons_zero, List.set_cons_succ]
      refine e_done (by kernel_rfl) ?_ _
      rw [← hW3]
      clear hW3 n0 nA n2 hr hS
      go_wp2_with (at_builtin; refine Lib.wpList_append_run _ rfl _ _ _ _ rfl _ _ rfl rfl _ w4 hr4 ?_)
      go_roundw
      case rel => exact ⟨i + 1, qa, qc, ta, tc, hi3, by go_num, HE⟩
      case measure => simp [intOf]; omega
    · obtain rfl : i = 3 := by omega
      obtain ⟨m, hclu⟩ := H.out.clu
      have d0 := (hclu.c (k := 0) (by decide)).x0
      have e0 := (hclu.c (k := 0) (by decide)).r
      have e1 := (hclu.c (k := 1) (by decide)).r
      have e2 := (hclu.c (k := 2) (by decide)).r
      have HEND := Lib.hid (show ∃ t m, Cz w0 wr w0.heap.size beginC t m from ⟨t, m, H.out.low, H.out.t0, hclu⟩)
      clear hclu H c0 c1 c2 cf hi hi3
      go_wp2_with fail
      go_ret
      exact ⟨_, rfl, HEND⟩
end Go.Proofs.Ytoghaogcekappaa
