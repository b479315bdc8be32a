/-
  Put: a record was stored.
-/
import Derived.Test.YtmgpfkckafdbmaaQCat
namespace Go.Proofs.Ytmgpfkckafdbmaa
set_option maxRecDepth 100000
open Go Go.RowKit Pq

/-- A table that is returned. -/
def TabIs (G : Nat → Prop) (w : World) (s : List P) (r : Ending) : Prop := ∃ a c l, r = .returned (.slice a (List.length l) c) ∧ tab l = s ∧ Tb G w a c l
theorem Src.nums {G : Nat → Prop} {w : World} {a A : Option Addr} {c m : Nat} {l : List Int} (h : Src G w a c l.length (numsV l)) (hA : m < c → A = a.map (·.add m)) (hm : m ≤ l.length) : Src G w A (c - m) (l.length - m) (numsV (l.drop m)) := by
  refine ⟨by have := h.1; omega, fun h0 => ?_⟩
  obtain ⟨b, off, h1, h2, h3⟩ := h.2 (by omega)
  have := h.1
  refine ⟨b, off + m, by rw [hA (by omega), h1, Option.map_some, Lib.add_plain], h2, fun j u hu => ?_⟩
  have e : numsV (l.drop m) = (numsV l).drop m := List.map_drop
  rw [e, List.getElem?_drop] at hu
  rw [Nat.add_assoc]
  exact h3 _ _ hu
theorem cloned {w w' : World} {n : Nat} {l : List PP} (hn : n = l.length) (h : ∃ L' : List PP, tab L' = tab l ∧ w'.heap[w.heap.size]? = some (.cells (ppsV L').toArray 70 (0, 0)) ∧ ∀ x ∈ L', x.ok (fun k => w.heap.size < k) w') : TabIs (fun b => w.heap.size ≤ b) w' (tab l) (.returned (.slice (some ⟨w.heap.size, 0, none⟩) n n)) := by
  obtain ⟨L', h1, h2, h3⟩ := h
  have hl : L'.length = n := by
    have := congrArg List.length h1
    rw [tab_length, tab_length, ← hn] at this
    exact this
  exact ⟨_, n, L', by rw [hl], h1, by rw [hl] ; exact src_block h2 (Nat.le_refl _) (Nat.le_refl _) ⟨[], (List.append_nil _).symm⟩, fun y hy => (h3 y hy).mono (fun j hj => Nat.le_of_lt hj)⟩
theorem TabIs.mono {G G' : Nat → Prop} {w : World} {s : List P} {r : Ending} (h : TabIs G w s r) (hg : ∀ k, G k → G' k) : TabIs G' w s r := by
  obtain ⟨a, c, l, h1, h2, h3⟩ := h
  exact ⟨a, c, l, h1, h2, h3.mono hg⟩
set_option maxHeartbeats 4000000 in
theorem put_c {w : World} {a : Option Addr} {c : Nat} {l : List PP} (h : Tb (fun _ => True) w a c l) (hr : Right (tab l)) (e : EE) (pos : Int) :
    Calls Try.prog 28 #[.slice a l.length c, e.val, .int .i64 pos] w fun r w' => TabIs (fun b => w.heap.size ≤ b) w' (Pq.put (tab l) e.pr e.ep e.sq pos) r ∧ Below w.heap.size w w' := by
  have hlen : l.length ≤ 50 := by have := hr.1; rwa [tab_length] at this
  have hd : ∀ y ∈ l, y.p.last.length ≤ 100000 := by
    intro y hy
    have h1 := (Tab.mem hr.2 (show y.p ∈ tab l from List.mem_map_of_mem hy)).2.2.len
    omega
  obtain ⟨W1, hW1⟩ : ∃ W1, W1 = w.alloc e.obj := ⟨_, rfl⟩
  have hb1 : Below w.heap.size w W1 := by rw [hW1]; exact below_new w _
  have hx1 : W1.heap[w.heap.size]? = some e.obj := by rw [hW1]; exact box_new w _
  have hlt : w.heap.size < W1.heap.size := by rw [hW1]; simp
  have QF := Lib.hid (find_c (h.on hb1) (by omega) hr.2 e.pr)
  have HT := Lib.hid (fun (W : World) (hW : Below w.heap.size w W) => h.on hW)
  have QL := Lib.hid (fun (W : World) (hW : Below w.heap.size w W) => look_c (h.on hW) hr e)
  have QC := Lib.hid (fun (W : World) (hW : Below w.heap.size w W) => clone_c (h.on hW) (by omega) hd)
  have QX := Lib.hid (fun (W : World) (hW : Below w.heap.size w W) (x : PP) (hx : x.ok (fun b => w.heap.size ≤ b) W) => with_c (h.on hW) hr x hx (fun b hb => Nat.le_trans hW.size hb))
  have HR := Lib.hid hr
  have HX1 := Lib.hid hx1
  have hc := EE.cells hx1
  have c1 := hc.c1
  obtain ⟨kd, pr, ep, sq, src, sc, tm, ra, rn, rc⟩ := e
  unfold EE.obj at hW1
  unfold EE.val
  dsimp only at *
  obtain ⟨L, hL⟩ : ∃ L, L = l.length := ⟨_, rfl⟩
  have HL := Lib.hid hL
  rw [← hL] at hlen QF QL QC QX ⊢
  clear h hr hc hL hx1 hd
  go_enter Try.func28, Try.ntmps28
  go_upto_region 1 with fail
  rw [← hW1]
  clear hW1
  go_upto_region 2 with (go_at_call 35; refine QF.out.mono ?_; rintro r w1 ⟨k, ⟨⟨i, pe, nx, last⟩, xa, xc⟩, f, hr, h1, h2, h3, h4, h5, hb2⟩; unfold PP.val at hr; dsimp only at *; subst hr; clear c1)
  obtain ⟨W2, hW2⟩ : ∃ W2, W2 = w1.alloc (PP.obj ⟨⟨i, pe, nx, last⟩, xa, xc⟩) := ⟨_, rfl⟩
  have hb3 : Below w1.heap.size w1 W2 := by rw [hW2]; exact below_new w1 _
  have hx3 : PP.at ⟨⟨i, pe, nx, last⟩, xa, xc⟩ W2 w1.heap.size := by rw [hW2]; exact box_new w1 _
  have hE := EE.cells (box_on (box_on HX1.out hb2) hb3)
  have d0 := hE.c0
  have d1 := hE.c1
  have d2 := hE.c2
  have d3 := hE.c3
  have d4 := hE.c4
  have d5 := hE.c5
  have d6 := hE.c6
  have d7 := hE.c7
  dsimp only at d0 d1 d2 d3 d4 d5 d6 d7
  have hb12 : Below w.heap.size w w1 := hb1.trans (hb2.mono hb1.size)
  have hbW := hb12.trans (hb3.mono hb12.size)
  have ql := QL.out W2 hbW
  unfold EE.val at ql
  dsimp only at ql
  have HG := Lib.hid (show Pq.get (tab l) pr = ⟨i, pe, nx, last⟩ from h2.symm)
  have hP : OkP ⟨i, pe, nx, last⟩ := by rw [h2]; exact right_get HR.out pr
  have hlk : (Pq.look (tab l) pr ep sq).2 = 0 → sq = nx ∧ inA sq := fun z => by
    obtain ⟨_, _, z3, _, z5, _, _⟩ := look_ok z
    rw [HG.out] at z5
    exact ⟨z5, z3⟩
  have HPut := Lib.hid (show Pq.put (tab l) pr ep sq pos = if (Pq.look (tab l) pr ep sq).2 = 0 ∧ inB pos ∧ below last pos then Pq.set (tab l) ⟨i, pe, nx + 1, keep (last ++ [pos])⟩ else tab l by
    unfold Pq.put
    rw [HG.out]
    rfl)
  generalize (Pq.look (tab l) pr ep sq).2 = z at ql hlk HPut
  generalize (Pq.look (tab l) pr ep sq).1 = zz at ql
  have QLk := Lib.hid ql
  have HP := Lib.hid hP
  have HB := Lib.hid hbW
  have HB12 := Lib.hid hb12
  have hok : PP.ok (fun _ => True) w1 ⟨⟨i, pe, nx, last⟩, xa, xc⟩ := h3
  have HOK := Lib.hid hok
  have HX3 := Lib.hid hx3
  have HB3 := Lib.hid hb3
  unfold PP.obj at hW2
  dsimp only at hW2
  rw [← hW2]
  clear hW2 h1 h2 h3 h4 h5 hE hx3 hb3 hP hb2 hb1 hb12 hbW ql hok hlt
  go_upto_region 3 with (go_at_call 30; refine QLk.out.mono ?_; rintro r w2 ⟨rfl, hb4⟩)
  have HB4 := Lib.hid hb4
  have hx4 : PP.at ⟨⟨i, pe, nx, last⟩, xa, xc⟩ w2 w1.heap.size := box_on HX3.out hb4
  have e3 := hx4.cells.c3
  have hbw2 : Below w.heap.size w w2 := HB.out.trans (hb4.mono HB.out.size)
  have hb13 : Below w1.heap.size w1 w2 := HB3.out.trans (hb4.mono HB3.out.size)
  have QWi := Lib.hid (fun n => within_c n w2)
  have hok2 := HOK.out.on hb13
  have hll : last.length ≤ 20 := by have := HP.out.len; dsimp only at this; omega
  have QFo := Lib.hid (follows_c hok2 (by dsimp only; omega) pos)
  have QCl := Lib.hid (QC.out w2 hbw2)
  dsimp only at QFo
  have HX4 := Lib.hid hx4
  have HBw2 := Lib.hid hbw2
  have HB13 := Lib.hid hb13
  clear hb4 d0 d1 d2 d3 d4 d5 d6 d7 hx4 hbw2 hb13 hok2
  dsimp only at e3
  by_cases hz : z = 0
  · subst hz
    have hzz : ((0 : Int) != 0) = false := rfl
    cases q1 : decide (inB pos) with
    | false =>
      have D1 := Lib.hid q1
      have R := Lib.hid (show Pq.put (tab l) pr ep sq pos = tab l by rw [HPut.out, if_neg (fun f => of_decide_eq_false q1 f.2.1)])
      clear q1
      go_wp2_with (first | (go_at_call 38; refine (QWi.out _).mono ?_; rintro r w3 ⟨rfl, hw⟩; rw [hw]; clear hw; rw [D1.out]) | (go_at_call 40; refine QCl.out.mono ?_; rintro r w4 ⟨rfl, hcl, hb5⟩))
      go_ret
      exact ⟨by rw [R.out]; exact (cloned HL.out hcl).mono (fun j hj => Nat.le_trans HBw2.out.size hj), HBw2.out.trans (hb5.mono HBw2.out.size)⟩
    | true =>
      have D1 := Lib.hid q1
      clear q1
      cases q2 : decide (below last pos) with
      | false =>
        have D2 := Lib.hid q2
        have R := Lib.hid (show Pq.put (tab l) pr ep sq pos = tab l by rw [HPut.out, if_neg (fun f => of_decide_eq_false q2 f.2.2)])
        clear q2
        go_wp2_with (first | (go_at_call 38; refine (QWi.out _).mono ?_; rintro r w3 ⟨rfl, hw⟩; rw [hw]; clear hw; rw [D1.out]) | (go_at_call 39; refine QFo.out.mono ?_; rintro r w3 ⟨rfl, hw⟩; rw [hw]; clear hw; rw [D2.out]) | (go_at_call 40; refine QCl.out.mono ?_; rintro r w4 ⟨rfl, hcl, hb5⟩))
        go_ret
        exact ⟨by rw [R.out]; exact (cloned HL.out hcl).mono (fun j hj => Nat.le_trans HBw2.out.size hj), HBw2.out.trans (hb5.mono HBw2.out.size)⟩
      | true =>
        have D2 := Lib.hid q2
        have R := Lib.hid (show Pq.put (tab l) pr ep sq pos = Pq.set (tab l) ⟨i, pe, nx + 1, keep (last ++ [pos])⟩ by rw [HPut.out, if_pos ⟨rfl, of_decide_eq_true D1.out, of_decide_eq_true q2⟩])
        clear q2
        obtain ⟨hs1, hs2⟩ := hlk rfl
        go_upto_region 5 with (first | (go_at_call 38; refine (QWi.out _).mono ?_; rintro r w3 ⟨rfl, hw⟩; rw [hw]; clear hw; rw [D1.out]) | (go_at_call 39; refine QFo.out.mono ?_; rintro r w3 ⟨rfl, hw⟩; rw [hw]; clear hw; rw [D2.out]))
        have hw1 : IntKind.i64.wrap (nx + 1) = nx + 1 := by unfold inA at hs2; rw [IntKind.wrap_i64]; omega
        have hxx := HX4.out
        have e2 := hxx.cells.c2
        have z2 := hxx.z 2
        dsimp only at e2
        clear hs2
        obtain ⟨W3, hW3⟩ : ∃ W3, W3 = w2.setCell ⟨w1.heap.size, 2, none⟩ (.int .i64 (nx + 1)) := ⟨_, rfl⟩
        have hk3 : Kept (fun b => b = w1.heap.size) w2 W3 := by rw [hW3]; exact Kept.set _ _ _ _
        have hx3 : W3.heap[w1.heap.size]? = some (.cells #[.int .i64 i, .int .i64 pe, .int .i64 (nx + 1), .slice xa last.length xc] 70 (0, 0)) := by rw [hW3]; exact box_set hxx 2 _
        have hok3 : PP.ok (fun _ => True) W3 ⟨⟨i, pe, nx, last⟩, xa, xc⟩ := by
          have k1 : Kept (fun b => b = w1.heap.size) w1 W3 := (Kept.below HB13.out).trans hk3 (fun _ _ e => e)
          exact HOK.out.kept k1 (fun j hj _ e => by omega)
        go_upto_region 6 with fail
        rw [← hW3]
        clear hW3 e2 e3 z2 hxx
        have f3 : W3.cell? ⟨w1.heap.size, 3, none⟩ = some (.slice xa last.length xc) := by rw [Lib.cell_of_heap hx3]; rfl
        obtain ⟨W5, hW5⟩ : ∃ W5, W5 = (W3.alloc (.cells #[.int .i64 pos] 3)).alloc (.cells #[.slice xa last.length xc, .slice (some ⟨W3.heap.size, 0, none⟩) 1 1] 32) := ⟨_, rfl⟩
        have hb5 : Below W3.heap.size W3 W5 := by rw [hW5]; exact ((Below.refl _ _).alloc (Nat.le_refl _) _).alloc (by simp) _
        have hB5 : W5.heap[W3.heap.size + 1]? = some (.cells #[.slice xa last.length xc, .slice (some ⟨W3.heap.size, 0, none⟩) 1 1] 32 (0, 0)) := by
          have h0 := box_new (W3.alloc (.cells #[.int .i64 pos] 3)) (.cells #[.slice xa last.length xc, .slice (some ⟨W3.heap.size, 0, none⟩) 1 1] 32)
          rw [← hW5] at h0
          simpa using h0
        have hP5 : W5.cell? ⟨W3.heap.size, 0, none⟩ = some (.int .i64 pos) := by
          have h0 := box_new W3 (.cells #[.int .i64 pos] 3)
          have h1 := box_on h0 (below_new _ (.cells #[.slice xa last.length xc, .slice (some ⟨W3.heap.size, 0, none⟩) 1 1] 32))
          rw [← hW5] at h1
          rw [Lib.cell_of_heap h1]; rfl
        have hok5 := hok3.on hb5
        have QCt := Lib.hid (concat_c hB5 hP5 hok5 (by omega))
        have HX5 := Lib.hid (box_on hx3 hb5)
        have HPb := Lib.hid (show w1.heap.size < W5.heap.size from box_lt HX5.out)
        have HBf := Lib.hid (show Below w.heap.size w W5 from (HBw2.out.trans (hk3.toBelow HBw2.out.size (fun j hj => by have := HB12.out.size; omega))).trans (hb5.mono (by have := HBw2.out.size; have := hk3.size; omega)))
        clear hk3 hx3 hok3 hb5 hB5 hP5 hok5
        go_upto_region 7 with (go_at_call 41; rw [← hW5]; refine QCt.out.mono ?_; rintro r w5 ⟨a', c', rfl, hsrc, hb6⟩; clear f3)
        have HX6 := Lib.hid (box_on HX5.out hb6)
        have g3 : w5.cell? ⟨w1.heap.size, 3, none⟩ = some (.slice xa last.length xc) := by rw [Lib.cell_of_heap HX6.out]; rfl
        have y3 := Lib.frozen_of_heap HX6.out 3
        have HB6 := Lib.hid (HBf.out.trans (hb6.mono HBf.out.size))
        obtain ⟨m, hm⟩ : ∃ m, m = last.length + 1 - 20 := ⟨_, rfl⟩
        obtain ⟨A', hA, hA'⟩ := num_from a' (last.length + 1) c' m (by omega)
        have hwl : IntKind.i64.wrap ((last.length : Int) + 1 - 20) = (last.length : Int) + 1 - 20 := by rw [IntKind.wrap_i64]; omega
        have hmx : max (0 : Int) ((last.length : Int) + 1 - 20) = (m : Int) := by omega
        have HA' := Lib.hid hA'
        have Hm := Lib.hid hm
        clear hm hb6 hA'
        go_upto_region 8 with fail
        obtain ⟨W6, hW6⟩ : ∃ W6, W6 = w5.setCell ⟨w1.heap.size, 3, none⟩ (.slice A' (last.length + 1 - m) (c' - m)) := ⟨_, rfl⟩
        have hk6 : Kept (fun b => b = w1.heap.size) w5 W6 := by rw [hW6]; exact Kept.set _ _ _ _
        have hlk : (keep (last ++ [pos])).length = last.length + 1 - m := by rw [keep_len, List.length_append, List.length_singleton, Hm.out]; omega
        have hx6 : PP.at ⟨⟨i, pe, nx + 1, keep (last ++ [pos])⟩, A', c' - m⟩ W6 w1.heap.size := by
          unfold PP.at PP.obj
          dsimp only
          rw [hlk, hW6]
          exact box_set HX6.out 3 _
        have hB6 : Below w.heap.size w W6 := HB6.out.trans (hk6.toBelow HB6.out.size (fun j hj => by have := HB12.out.size; omega))
        have hok6 : PP.ok (fun b => w.heap.size ≤ b) W6 ⟨⟨i, pe, nx + 1, keep (last ++ [pos])⟩, A', c' - m⟩ := by
          unfold PP.ok
          dsimp only
          rw [hlk]
          have h0 := Src.nums (l := last ++ [pos]) (A := A') (m := m) (by rw [List.length_append, List.length_singleton]; exact hsrc) HA'.out (by rw [List.length_append, List.length_singleton, Hm.out]; omega)
          rw [List.length_append, List.length_singleton] at h0
          have e : keep (last ++ [pos]) = (last ++ [pos]).drop m := by unfold keep; rw [List.length_append, List.length_singleton, Hm.out]
          rw [e]
          exact (h0.kept hk6 (fun j _ g e => by have := HPb.out; omega)).mono' (fun j hj => Nat.le_trans HBf.out.size hj)
        have QW := Lib.hid (QX.out W6 hB6 _ hok6)
        have HB7 := Lib.hid hB6
        have hc6 := hx6.cells
        have e0 := hc6.c0
        have e1 := hc6.c1
        have e2 := hc6.c2
        have e3 := hc6.c3
        dsimp only at e0 e1 e2 e3
        unfold PP.val at QW
        dsimp only at QW
        rw [hlk] at QW e3
        rw [← hW6]
        clear hW6 g3 y3 hk6 hx6 hB6 hok6 hc6 hlk hsrc
        go_wp2_with (go_at_call 37; refine QW.out.mono ?_; rintro r w7 ⟨a2, c2, l2, rfl, k1, k2, k3⟩)
        go_ret
        exact ⟨⟨a2, c2, l2, rfl, by rw [k1]; exact R.out.symm, k2⟩, HB7.out.trans (k3.mono HB7.out.size)⟩
  · have hzz : (z != 0) = true := by simpa using hz
    have R := Lib.hid (show Pq.put (tab l) pr ep sq pos = tab l by rw [HPut.out, if_neg (fun f => hz f.1)])
    go_wp2_with (go_at_call 40; refine QCl.out.mono ?_; rintro r w4 ⟨rfl, hcl, hb5⟩)
    go_ret
    exact ⟨by rw [R.out]; exact (cloned HL.out hcl).mono (fun j hj => Nat.le_trans HBw2.out.size hj), HBw2.out.trans (hb5.mono HBw2.out.size)⟩
end Go.Proofs.Ytmgpfkckafdbmaa
