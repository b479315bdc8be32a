/-
  with: a copy of a table in which this is known of a producer.
-/
import Derived.Test.YtmgpfkckafdbmaaQIns
namespace Go.Proofs.Ytmgpfkckafdbmaa
set_option maxRecDepth 100000
open Go Go.RowKit Pq

theorem tab_take (l : List PP) (k : Nat) : tab (l.take k) = (tab l).take k := List.map_take
theorem tab_drop' (l : List PP) (k : Nat) : tab (l.drop k) = (tab l).drop k := List.map_drop
theorem tab_app (a b : List PP) : tab (a ++ b) = tab a ++ tab b := List.map_append
theorem tab_set (l : List PP) (k : Nat) (x : PP) : tab (l.set k x) = (tab l).set k x.p := List.map_set
theorem ppsV_put (l : List PP) (k : Nat) (x y : PP) (h : l[k]? = some y) : ((((ppsV l).set (k * 4) (.int .i64 x.p.id)).set (k * 4 + 1) (.int .i64 x.p.ep)).set (k * 4 + 2) (.int .i64 x.p.nx)).set (k * 4 + 3) (.slice x.a x.p.last.length x.c) = ppsV (l.set k x) := by
  induction l generalizing k with
  | nil => simp at h
  | cons a l ih =>
    cases k with
    | zero =>
      rw [List.set_cons_zero, ppsV_cons, ppsV_cons]
      rfl
    | succ k =>
      have e1 : (k + 1) * 4 = k * 4 + 1 + 1 + 1 + 1 := by omega
      rw [List.set_cons_succ, ppsV_cons, ppsV_cons, ← ih k (by simpa using h), e1]
      rfl
set_option maxHeartbeats 4000000 in
theorem with_c {G : Nat → Prop} {w : World} {a : Option Addr} {c : Nat} {l : List PP} (h : Tb (fun _ => True) w a c l) (hr : Right (tab l)) (x : PP) (hx : x.ok G w) (hG : ∀ b, w.heap.size ≤ b → G b) :
    Calls Try.prog 37 #[.slice a l.length c, x.val] w fun r w' => ∃ a' c' l', r = .returned (.slice a' (List.length l') c') ∧ tab l' = Pq.set (tab l) x.p ∧ Tb G w' a' c' l' ∧ Below w.heap.size w w' := by
  have hlen : l.length ≤ 50 := by have := hr.1; rwa [tab_length] at this
  obtain ⟨W1, hW1⟩ : ∃ W1, W1 = w.alloc x.obj := ⟨_, rfl⟩
  have hb1 : Below w.heap.size w W1 := by rw [hW1]; exact below_new w _
  have hx1 : x.at W1 w.heap.size := by rw [hW1]; exact box_new w _
  have hs1 : W1.heap.size = w.heap.size + 1 := by rw [hW1]; simp
  have hd : ∀ y ∈ l, y.p.last.length ≤ 100000 := by
    intro y hy
    have h1 := (Tab.mem hr.2 (show y.p ∈ tab l from List.mem_map_of_mem hy)).2.2.len
    omega
  have QC := Lib.hid (clone_c (h.on hb1) (by omega) hd)
  have HX := Lib.hid hx
  have HX1 := Lib.hid hx1
  have HR := Lib.hid hr
  have HB1 := Lib.hid hb1
  have HS1 := Lib.hid hs1
  obtain ⟨n, hn⟩ : ∃ n, n = l.length := ⟨_, rfl⟩
  have HN := Lib.hid hn
  rw [← hn] at hlen QC
  have c0 := hx1.cells.c0
  obtain ⟨⟨i, pe, nx, last⟩, xa, xc⟩ := x
  unfold PP.obj at hW1
  unfold PP.val
  rw [← hn]
  dsimp only at *
  clear h hr hx hb1 hx1 hd hn hs1
  go_enter Try.func37, Try.ntmps37
  go_upto_region 1 with fail
  rw [← hW1]
  clear hW1
  go_upto_region 2 with (go_at_call 40; refine QC.out.mono ?_; rintro r w1 ⟨rfl, ⟨L', h1, h2, h3⟩, hb2⟩)
  have hT1 := box_lt h2
  have hLn : L'.length = n := by
    have := congrArg List.length h1
    rw [tab_length, tab_length, ← HN.out] at this
    exact this
  have hTb : Tb (fun _ => True) w1 (some ⟨W1.heap.size, 0, none⟩) n L' := ⟨src_block h2 trivial (by omega) ⟨[], (List.append_nil _).symm⟩, fun y hy => (h3 y hy).mono (fun _ _ => trivial)⟩
  have hR1 : Right (tab L') := by rw [h1]; exact HR.out
  have hq := find_c hTb (by omega) hR1.2 i
  rw [hLn, h1] at hq
  have QF := Lib.hid hq
  have H1 := Lib.hid h1
  have H2 := Lib.hid h2
  have H3 := Lib.hid h3
  have HB2 := Lib.hid hb2
  have d0 := (Kept.below (S := fun _ => False) hb2).cell c0 (fun e => e)
  have HLn := Lib.hid hLn
  clear h1 h2 h3 hb2 hLn hTb hR1 hq
  go_upto_region 3 with (go_at_call 35; refine QF.out.mono ?_; rintro r w2 ⟨k, ⟨⟨yi, ye, yn, yl⟩, ya, yc⟩, f, hr, g1, g2, g3, g4, g5, hb3⟩; unfold PP.val at hr; dsimp only at *; subst hr)
  obtain ⟨W3, hW3⟩ : ∃ W3, W3 = w2.alloc (PP.obj ⟨⟨yi, ye, yn, yl⟩, ya, yc⟩) := ⟨_, rfl⟩
  have hb4 : Below w2.heap.size w2 W3 := by rw [hW3]; exact below_new w2 _
  unfold PP.obj at hW3
  dsimp only at hW3
  rw [← hW3]
  clear hW3
  have hbW : Below w1.heap.size w1 W3 := hb3.trans (hb4.mono hb3.size)
  have hx3 : PP.at ⟨⟨i, pe, nx, last⟩, xa, xc⟩ W3 w.heap.size := box_on (box_on HX1.out HB2.out) hbW
  have hT3 : W3.heap[W1.heap.size]? = some (.cells (ppsV L').toArray 70 (0, 0)) := box_on H2.out hbW
  have hkn : k ≤ n := by have := g1.le; rwa [tab_length, ← HN.out] at this
  have hset := set_at (p := ⟨i, pe, nx, last⟩) HR.out.2 g1
  have e0 := hx3.cells.c0
  have e1 := hx3.cells.c1
  have e2 := hx3.cells.c2
  have e3 := hx3.cells.c3
  have HbW := Lib.hid hbW
  cases f with
  | false =>
    have hnf : find (tab l) i = none := Decidable.not_not.1 (fun q => by have := g4.2 q; cases this)
    have hs := hset.1 hnf
    obtain ⟨W4, hW4⟩ : ∃ W4, W4 = W3.alloc (PP.obj ⟨⟨i, pe, nx, last⟩, xa, xc⟩) := ⟨_, rfl⟩
    have hb5 : Below W3.heap.size W3 W4 := by rw [hW4]; exact below_new W3 _
    have hx4 : PP.at ⟨⟨i, pe, nx, last⟩, xa, xc⟩ W4 W3.heap.size := by rw [hW4]; exact box_new W3 _
    unfold PP.obj at hW4
    dsimp only at hW4
    have QI := Lib.hid (insert_c (box_on hT3 hb5) hx4 HLn.out.symm (by omega) hkn)
    have HS := Lib.hid hs
    have HB5 := Lib.hid hb5
    clear hbW hx3 hT3 hset hnf hs hb5 hx4 g1 g2 g3 g4 g5 hb3 hb4
    go_wp2_with (go_at_call 50; rw [← hW4]; refine QI.out.mono ?_; rintro r w5 ⟨a', c', rfl, hsrc, hk⟩)
    go_ret
    have hbase : Below w.heap.size w W4 := ((HB1.out.trans (HB2.out.mono HB1.out.size)).trans (HbW.out.mono (Nat.le_trans HB1.out.size HB2.out.size))).trans (HB5.out.mono (Nat.le_trans (Nat.le_trans HB1.out.size HB2.out.size) HbW.out.size))
    have hfin : Below w.heap.size w w5 := hbase.trans (hk.toBelow hbase.size (fun j hj => by have := HB1.out.size; omega))
    have hk1 : Kept (fun b => b = W1.heap.size) w1 w5 := ((Kept.below HbW.out).trans (Kept.below HB5.out) (fun _ _ e => e)).trans hk (fun _ _ e => e)
    have hlen' : (L'.take k ++ (⟨⟨i, pe, nx, last⟩, xa, xc⟩ : PP) :: L'.drop k).length = n + 1 := by
      rw [List.length_append, List.length_cons, List.length_take, List.length_drop, HLn.out]
      omega
    refine ⟨a', c', L'.take k ++ ⟨⟨i, pe, nx, last⟩, xa, xc⟩ :: L'.drop k, by rw [hlen']; rfl, ?_, ⟨by rw [hlen']; exact hsrc.mono' (fun j hj => hG j (by have := HB1.out.size; omega)), fun y hy => ?_⟩, hfin⟩
    · rw [HS.out, tab_app, tab_take, H1.out]
      show _ ++ _ :: tab (L'.drop k) = _
      rw [tab_drop', H1.out]
    · rcases List.mem_append.1 hy with hy | hy
      · exact ((H3.out y (List.mem_of_mem_take hy)).kept hk1 (fun j _ e f => by omega)).mono (fun j hj => hG j (by have := HB1.out.size; omega))
      · rcases List.mem_cons.1 hy with e | hy
        · rw [e]
          exact HX.out.on hfin
        · exact ((H3.out y (List.mem_of_mem_drop hy)).kept hk1 (fun j _ e f => by omega)).mono (fun j hj => hG j (by have := HB1.out.size; omega))
  | true =>
    have hs := hset.2 (g4.1 rfl)
    have hkn' := g5 rfl
    obtain ⟨z, hz⟩ : ∃ z, L'[k]? = some z := ⟨L'[k]'(by have := HLn.out; omega), List.getElem?_eq_getElem _⟩
    have z0 := cell_block hT3 (ppsV_get L' k z hz 0 _ rfl)
    have z1 := cell_block hT3 (ppsV_get L' k z hz 1 _ rfl)
    have z2 := cell_block hT3 (ppsV_get L' k z hz 2 _ rfl)
    have z3 := cell_block hT3 (ppsV_get L' k z hz 3 _ rfl)
    have f0 := Lib.frozen_of_heap hT3 (k * 4)
    have f1 := Lib.frozen_of_heap hT3 (k * 4 + 1)
    have f2 := Lib.frozen_of_heap hT3 (k * 4 + 2)
    have f3 := Lib.frozen_of_heap hT3 (k * 4 + 3)
    have hkn2 : (k : Int) < (n : Int) := by omega
    have HS := Lib.hid hs
    have HT3 := Lib.hid hT3
    have HZ := Lib.hid hz
    clear hbW hx3 hT3 hset hs g1 g2 g3 g4 g5 hb3 hb4 hz
    rw [Nat.add_zero] at z0
    go_wp2_with fail
    go_ret
    have k0 := box_set HT3.out (k * 4) (.int .i64 i)
    have k1 := box_set k0 (k * 4 + 1) (.int .i64 pe)
    have k2 := box_set k1 (k * 4 + 2) (.int .i64 nx)
    have k3 := box_set k2 (k * 4 + 3) (.slice xa last.length xc)
    rw [List.setIfInBounds_toArray, List.setIfInBounds_toArray, List.setIfInBounds_toArray, List.setIfInBounds_toArray, ppsV_put L' k ⟨⟨i, pe, nx, last⟩, xa, xc⟩ z HZ.out] at k3
    obtain ⟨w5, hw5⟩ : ∃ w5, w5 = (((W3.setCell ⟨W1.heap.size, k * 4, none⟩ (.int .i64 i)).setCell ⟨W1.heap.size, k * 4 + 1, none⟩ (.int .i64 pe)).setCell ⟨W1.heap.size, k * 4 + 2, none⟩ (.int .i64 nx)).setCell ⟨W1.heap.size, k * 4 + 3, none⟩ (.slice xa last.length xc) := ⟨_, rfl⟩
    rw [← hw5] at k3
    have hk : Kept (fun b => b = W1.heap.size) W3 w5 := by
      rw [hw5]
      exact (((Kept.set _ _ _ _).trans (Kept.set _ _ _ _) (fun _ _ e => e)).trans (Kept.set _ _ _ _) (fun _ _ e => e)).trans (Kept.set _ _ _ _) (fun _ _ e => e)
    rw [← hw5]
    have hbase : Below w.heap.size w W3 := (HB1.out.trans (HB2.out.mono HB1.out.size)).trans (HbW.out.mono (Nat.le_trans HB1.out.size HB2.out.size))
    have hfin : Below w.heap.size w w5 := hbase.trans (hk.toBelow hbase.size (fun j hj => by have := HB1.out.size; omega))
    have hk1 : Kept (fun b => b = W1.heap.size) w1 w5 := (Kept.below HbW.out).trans hk (fun _ _ e => e)
    have hlen' : (L'.set k (⟨⟨i, pe, nx, last⟩, xa, xc⟩ : PP)).length = n := by rw [List.length_set, HLn.out]
    refine ⟨_, n, L'.set k ⟨⟨i, pe, nx, last⟩, xa, xc⟩, by rw [hlen']; rfl, ?_, ⟨by rw [hlen']; exact src_block k3 (hG _ HB1.out.size) (Nat.le_refl _) ⟨[], (List.append_nil _).symm⟩, fun y hy => ?_⟩, hfin⟩
    · rw [HS.out, tab_set, H1.out]
    · rcases List.mem_or_eq_of_mem_set hy with hy | e
      · exact ((H3.out y hy).kept hk1 (fun j _ e f => by omega)).mono (fun j hj => hG j (by have := HB1.out.size; omega))
      · rw [e]
        exact HX.out.on hfin
end Go.Proofs.Ytmgpfkckafdbmaa
