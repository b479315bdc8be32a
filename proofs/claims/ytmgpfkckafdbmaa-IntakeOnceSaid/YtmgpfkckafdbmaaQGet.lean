/-
  find: where a producer stands, and what is known of it.
-/
import Derived.Test.YtmgpfkckafdbmaaQSeek
namespace Go.Proofs.Ytmgpfkckafdbmaa
set_option maxRecDepth 100000
open Go Go.RowKit Pq

theorem get_at {s : List P} {m a : Int} {k : Nat} (ht : Tab m s) (hk : At s a k) : (find s a = none ∧ Pq.get s a = ⟨a, 0, 0, []⟩ ∧ ∀ x, s[k]? = some x → x.id ≠ a) ∨ ∃ x, s[k]? = some x ∧ x.id = a ∧ find s a = some x ∧ Pq.get s a = x := by
  rcases find_at ht hk with ⟨h1, h2⟩ | ⟨x, h1, h2, h3⟩
  · exact Or.inl ⟨h1, by unfold Pq.get; rw [h1]; rfl, h2⟩
  · exact Or.inr ⟨x, h1, h2, h3, by unfold Pq.get; rw [h3]; rfl⟩
theorem below_drewQ {B : Nat} {w0 w : World} (h : Below B w0 w) (n : Nat) : Below B w0 (w.drewN n) := ⟨h.os, h.tape, h.output, h.size, h.block⟩
theorem PP.at.drewN {x : PP} {w : World} {b : Nat} (h : x.at w b) (n : Nat) : x.at (w.drewN n) b := h
theorem PP.ok.drewN {x : PP} {w : World} (h : x.ok (fun _ => True) w) (n : Nat) : x.ok (fun _ => True) (w.drewN n) := h.on ⟨rfl, rfl, rfl, Nat.le_refl _, fun _ _ => rfl⟩
set_option maxHeartbeats 2000000 in
theorem find_c {w : World} {a : Option Addr} {c : Nat} {l : List PP} (h : Tb (fun _ => True) w a c l) (hn : l.length ≤ 100000) {m : Int} (ht : Tab m (tab l)) (id : Int) :
    Calls Try.prog 35 #[.slice a l.length c, .int .i64 id] w fun e w' => ∃ (k : Nat) (x : PP) (f : Bool), e = .returned (.tuple #[.int .i64 (k : Int), x.val, .bool f]) ∧ At (tab l) id k ∧ x.p = Pq.get (tab l) id ∧ x.ok (fun _ => True) w' ∧ (f = true ↔ find (tab l) id ≠ none) ∧ (f = true → k < l.length) ∧ Below w.heap.size w w' := by
  obtain ⟨L, hL⟩ : ∃ L, L = l.length := ⟨_, rfl⟩
  have HL := Lib.hid hL
  obtain ⟨W1, hW1⟩ : ∃ W1, W1 = ((w.alloc (.cells #[.slice a L c] 45)).alloc (.cells #[.int .i64 id] 3)).alloc PP.zero.obj := ⟨_, rfl⟩
  have hb1 : Below w.heap.size w W1 := by rw [hW1]; exact (((Below.refl _ _).alloc (Nat.le_refl _) _).alloc (by simp) _).alloc (by simp; omega) _
  have hs1 : W1.heap.size = w.heap.size + 3 := by rw [hW1]; simp
  have hx1 : PP.zero.at W1 (w.heap.size + 1 + 1) := by
    have := box_new ((w.alloc (.cells #[.slice a L c] 45)).alloc (.cells #[.int .i64 id] 3)) PP.zero.obj
    rw [← hW1] at this
    have e : ((w.alloc (.cells #[.slice a L c] 45)).alloc (.cells #[.int .i64 id] 3)).heap.size = w.heap.size + 1 + 1 := by simp
    rwa [e] at this
  have c1 : W1.cell? ⟨w.heap.size, 0, none⟩ = some (.slice a L c) := by
    have h0 := box_new w (.cells #[.slice a L c] 45)
    have h1 := box_on h0 (below_new _ (.cells #[.int .i64 id] 3))
    have h2 := box_on h1 (below_new _ PP.zero.obj)
    rw [← hW1] at h2
    rw [Lib.cell_of_heap h2]; rfl
  have c2 : W1.cell? ⟨w.heap.size + 1, 0, none⟩ = some (.int .i64 id) := by
    have h0 := box_new (w.alloc (.cells #[.slice a L c] 45)) (.cells #[.int .i64 id] 3)
    have h1 := box_on h0 (below_new _ PP.zero.obj)
    rw [← hW1] at h1
    have h2 : W1.heap[w.heap.size + 1]? = some (.cells #[.int .i64 id] 3) := by simpa using h1
    rw [Lib.cell_of_heap h2]; rfl
  have QS := Lib.hid (search_c (h.row.on hb1) (by rw [← HL.out]; exact c1) c2 hn ht)
  have HT := Lib.hid (h.on hb1)
  have H0 := Lib.hid h
  have HTab := Lib.hid ht
  have HB := Lib.hid hb1
  rw [← hL] at QS hn ⊢
  unfold PP.zero PP.obj at hW1
  dsimp only [List.length_nil] at hW1
  clear h ht hL
  go_enter Try.func35, Try.ntmps35
  go_upto_region 1 with fail
  rw [← hW1]
  clear hW1
  have hlt : w.heap.size + 1 + 1 < W1.heap.size := by omega
  clear hs1
  go_upto_region 2 with (go_at_call 48; refine QS.out.mono ?_; rintro e w1 ⟨k, HK, rfl, hb2⟩; have HK := Lib.hid HK; have d1 := (Kept.below (S := fun _ => False) hb2).cell c1 (fun e => e); have d2 := (Kept.below (S := fun _ => False) hb2).cell c2 (fun e => e))
  have hx2 : PP.zero.at w1 (w.heap.size + 1 + 1) := box_on hx1 hb2
  have HT2 := HT.out.on hb2
  have hbw := Lib.hid (HB.out.trans (hb2.mono HB.out.size))
  have HX := Lib.hid hx2
  have z0 := hx2.z 0
  have z1 := hx2.z 1
  have z2 := hx2.z 2
  have z3 := hx2.z 3
  have e0 := hx2.cells.c0
  have e1 := hx2.cells.c1
  have e2 := hx2.cells.c2
  have e3 := hx2.cells.c3
  unfold PP.zero at e0 e1 e2 e3
  dsimp only [Nat.zero_add, List.length_nil] at e0 e1 e2 e3
  clear hx1 hx2 hb2 c1 c2
  have hG := get_at HTab.out HK.out
  by_cases hkL : k < L
  · obtain ⟨x, hx⟩ : ∃ x, l[k]? = some x := ⟨l[k]'(by have := HL.out; omega), List.getElem?_eq_getElem _⟩
    obtain ⟨b, off, rfl, hc⟩ := pp_cells HT2.row rfl hx
    have f0 := hc.c0
    have f1 := hc.c1
    have f2 := hc.c2
    have f3 := hc.c3
    have hxm := Lib.hid (List.mem_of_getElem? hx)
    have hkL' : decide ((k : Int) < (L : Int)) = true := decide_eq_true (by omega)
    have hkL'' : (k : Int) < (L : Int) := by omega
    clear hc HT2
    rcases hG with ⟨g1, g2, g3⟩ | ⟨y, g1, g2, g3, g4⟩
    · have hne : (x.p.id == id) = false := by simpa using g3 _ (tab_get hx)
      have G := Lib.hid (show find (tab l) id = none ∧ Pq.get (tab l) id = ⟨id, 0, 0, []⟩ from ⟨g1, g2⟩)
      clear g1 g2 g3 hx
      go_quiet (fail)
      go_wp2_with fail
      go_region
      go_wp2_with fail
      (try simp only [Exit.inBlock, Exit.then])
      refine bodyPost_ret (results_tmp_cell_tmp rfl _ _ (w.heap.size + 1 + 1) _ _ _ _ rfl ((HX.out.drewN _).set4 ⟨⟨id, 0, 0, []⟩, none, 0⟩) Try.underlying70 rfl (by rw [sizePP]; rfl)) rfl ?_
      exact ⟨k, ⟨⟨id, 0, 0, []⟩, none, 0⟩, false, rfl, HK.out, G.out.2.symm, Src.nil _ _, ⟨fun f => (by cases f), fun f => absurd G.out.1 f⟩, fun f => (by cases f), below_set4 (below_drewQ hbw.out _) (by omega) _ _ _ _⟩
    · obtain rfl : x.p = y := by
        have := tab_get hx
        rw [g1] at this
        injection this with this
        exact this.symm
      have heq : (x.p.id == id) = true := by simpa using g2
      have G := Lib.hid (show find (tab l) id = some x.p ∧ Pq.get (tab l) id = x.p from ⟨g3, g4⟩)
      clear g1 g2 g3 g4 hx
      go_quiet (fail)
      go_wp2_with fail
      go_region
      go_wp2_with fail
      (try simp only [Exit.inBlock, Exit.then])
      refine bodyPost_ret (results_tmp_cell_tmp rfl _ _ (w.heap.size + 1 + 1) _ _ _ _ rfl ((HX.out.drewN _).set4 x) Try.underlying70 rfl (by rw [sizePP]; rfl)) rfl ?_
      have hbf := below_set4 (below_drewQ hbw.out (nq + 1)) (show w.heap.size ≤ w.heap.size + 1 + 1 by omega) (.int .i64 x.p.id) (.int .i64 x.p.ep) (.int .i64 x.p.nx) (.slice x.a x.p.last.length x.c)
      exact ⟨k, x, true, rfl, HK.out, G.out.2.symm, (H0.out.last x hxm.out).on hbf, ⟨fun _ f => (by rw [G.out.1] at f; cases f), fun _ => rfl⟩, fun _ => hkL, hbf⟩
  · have hkL' : decide ((k : Int) < (L : Int)) = false := decide_eq_false (by omega)
    have hkL'' : ¬ (k : Int) < (L : Int) := by omega
    obtain ⟨G1, G2⟩ : find (tab l) id = none ∧ Pq.get (tab l) id = ⟨id, 0, 0, []⟩ := by
      rcases hG with ⟨g1, g2, g3⟩ | ⟨y, g1, _⟩
      · exact ⟨g1, g2⟩
      · have := (List.getElem?_eq_some_iff.1 g1).1
        rw [tab_length, ← HL.out] at this
        omega
    have G := Lib.hid (And.intro G1 G2)
    clear G1 G2 hG
    go_quiet (fail)
    go_wp2_with fail
    go_region
    go_wp2_with fail
    (try simp only [Exit.inBlock, Exit.then])
    refine bodyPost_ret (results_tmp_cell_tmp rfl _ _ (w.heap.size + 1 + 1) _ _ _ _ rfl ((HX.out.drewN _).set4 ⟨⟨id, 0, 0, []⟩, none, 0⟩) Try.underlying70 rfl (by rw [sizePP]; rfl)) rfl ?_
    exact ⟨k, ⟨⟨id, 0, 0, []⟩, none, 0⟩, false, rfl, HK.out, G.out.2.symm, Src.nil _ _, ⟨fun f => (by cases f), fun f => absurd G.out.1 f⟩, fun f => (by cases f), below_set4 (below_drewQ hbw.out _) (by omega) _ _ _ _⟩
end Go.Proofs.Ytmgpfkckafdbmaa
