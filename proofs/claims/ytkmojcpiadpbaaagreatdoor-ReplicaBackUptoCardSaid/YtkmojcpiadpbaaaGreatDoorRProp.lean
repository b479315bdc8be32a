/-
  Something is proposed to a replica.
-/
import Derived.Test.YtkmojcpiadpbaaaGreatDoorRHearL
namespace Go.Proofs.YtkmojcpiadpbaaaGreatDoor
set_option maxRecDepth 100000
open Go Go.RowKit Rp

theorem ret_prop {fn : Func} (hr : fn.results = #[.tmp 4, .tmp 5, .cell 6 42]) (tmps : Array Value) (w : World) (b : Nat) (x0 x1 x2 x3 x4 x5 : Value) (hp : tmps.getD 6 undef = .pointer (some ⟨b, 0, none⟩)) (h : w.heap[b]? = some (.cells #[x0, x1, x2, x3, x4, x5] 42 (0, 0))) :
    (results fn tmps).run Tryz.prog w = .ok (.tuple #[tmps.getD 4 undef, tmps.getD 5 undef, .agg #[x0, x1, x2, x3, x4, x5]]) w := by
  have hp' : tmps[6]?.getD undef = .pointer (some ⟨b, 0, none⟩) := by simpa using hp
  have hl := run_loadVar_row (P := Tryz.prog) w b 42 42 #[x0, x1, x2, x3, x4, x5] (0, 0) _ h Tryz.underlying42 rfl (by rw [sizeOut]; rfl)
  simp [results, hr, hp', asAddr, hl, Result.andThen]
/-- What Propose hands back. -/
def DidP (w w' : World) (b : Nat) (lv : Value) (p : R × Int × Int × Out) (e : Ending) : Prop := ∃ (xs : Bool) (xt xv xf : Int) (xa : Option Addr) (xn xc : Nat) (ya : Option Addr) (yn yc : Nat), e = .returned (.tuple #[.int .i64 p.2.1, .int .i64 p.2.2.1, .agg #[.bool xs, .int .i64 xt, .int .i64 xv, .int .i64 xf, .slice xa xn xc, .slice ya yn yc]]) ∧ Hid (Did w w' b lv p.1 (.agg #[.bool xs, .int .i64 xt, .int .i64 xv, .int .i64 xf, .slice xa xn xc, .slice ya yn yc]) p.2.2.2)
theorem propose_ok {r : R} {d : List UInt8} (h1 : r.role = 2) (h2 : d.length ≤ 2000) (h3 : r.l.length ≠ 4000) : proposeR r d = ({ r with l := r.l ++ [⟨r.h.tm, d⟩] }, (r.l.length : Int) + 1, 0, ⟨false, ⟨0, 0⟩, (r.l.length : Int) + 1, [⟨r.h.tm, d⟩], all { r with l := r.l ++ [⟨r.h.tm, d⟩] }⟩) := by
  unfold proposeR
  rw [if_neg (fun q => q h1), if_neg (by omega), if_neg h3]
theorem recsV_single (x : Rec) : recsV [x] = [.int .i64 x.t, .string ⟨x.d.toArray⟩] := rfl
theorem rec_src {G : Nat → Prop} {w : World} {b : Nat} {x : Rec} {T : TypeId} (h : w.heap[b]? = some (.cells #[.int .i64 x.t, .string ⟨x.d.toArray⟩] T (0, 0))) (hg : G b) : Src G w (some ⟨b, 0, none⟩) 1 1 (recsV [x]) := by
  refine ⟨Nat.le_refl _, fun _ => ⟨b, 0, rfl, hg, fun j u hu => ?_⟩⟩
  rw [Nat.zero_add, Lib.cell_of_heap h]
  rw [recsV_single] at hu
  simpa using hu
theorem prop_did {w W w5 wf : World} {b kb : Nat} {lv lv8 : Value} {r1 : R} {x : Rec} {n : Int} {oa : Option Addr} {oc oL : Nat} {ops : List PM} {ms : List Msg} {T : TypeId} (hrep : RepAt wf b lv8 r1) (hown : lv8.ownBlock = lv.ownBlock ∨ ∃ y, lv8.ownBlock = some y ∧ w.heap.size ≤ y) (hk : Kept (fun k => k = b ∨ lv.ownBlock = some k) w wf) (hb : b < w.heap.size) (hlo : lv8.ownBlock ≠ some w.heap.size)
    (hm : Made W w5 oa oc oL ops ms) (hwf : Below w5.heap.size w5 wf) (hW : w.heap.size < W.heap.size ∧ ∀ k, lv8.ownBlock = some k → k < W.heap.size) (hx : wf.heap[kb]? = some (.cells #[.int .i64 x.t, .string ⟨x.d.toArray⟩] T (0, 0))) (hkb : w.heap.size < kb ∧ lv8.ownBlock ≠ some kb) (y0 y1 y2 y3 y4 y5 : Value) :
    Did w ((((((wf.setCell ⟨w.heap.size, 0, none⟩ y0).setCell ⟨w.heap.size, 1, none⟩ y1).setCell ⟨w.heap.size, 2, none⟩ y2).setCell ⟨w.heap.size, 3, none⟩ y3).setCell ⟨w.heap.size, 4, none⟩ y4).setCell ⟨w.heap.size, 5, none⟩ y5) b lv r1 (.agg #[.bool false, .int .i64 0, .int .i64 0, .int .i64 n, .slice (some ⟨kb, 0, none⟩) 1 1, .slice oa oL oc]) ⟨false, ⟨0, 0⟩, n, [x], ms⟩ := by
  have hl := hm.len
  subst hl
  have hfar : ∀ k, W.heap.size ≤ k → (w.heap.size ≤ k ∧ lv8.ownBlock ≠ some k) ∧ k ≠ w.heap.size := fun k q => ⟨⟨by omega, fun e => by have := hW.2 k e; omega⟩, by omega⟩
  have hou : OutIs (fun k => (w.heap.size ≤ k ∧ lv8.ownBlock ≠ some k) ∧ k ≠ w.heap.size) wf (.agg #[.bool false, .int .i64 0, .int .i64 0, .int .i64 n, .slice (some ⟨kb, 0, none⟩) 1 1, .slice oa ops.length oc]) ⟨false, ⟨0, 0⟩, n, [x], ms⟩ :=
    ⟨some ⟨kb, 0, none⟩, 1, oa, oc, ops, rfl, rec_src hx ⟨⟨by omega, hkb.2⟩, by omega⟩, hm.map, Src.on (hm.row.src (fun k e => hfar k (hm.row.above e))) hwf, fun p hp => ((hm.ok p hp).on hwf).mono (fun k q => hfar k q.1)⟩
  exact did_set6 hrep hown hk hb (Nat.le_refl _) hlo hou _ _ _ _ _ _
set_option maxHeartbeats 2000000 in
theorem propose_c {w : World} {b : Nat} {lv : Value} {r : R} (h : RepAt w b lv r) (d : List UInt8) (hd : d.length ≤ 9223372036854775807) : Calls Tryz.prog 15 #[.pointer (some ⟨b, 0, none⟩), .string ⟨d.toArray⟩] w fun e w' => DidP w w' b lv (proposeR r d) e := by
  obtain ⟨W1, hW1⟩ : ∃ W1, W1 = w.alloc (.cells #[.bool false, .int .i64 0, .int .i64 0, .int .i64 0, .slice none 0 0, .slice none 0 0] 42) := ⟨_, rfl⟩
  have hb1 : Below w.heap.size w W1 := by rw [hW1]; exact below_new w _
  have ho1 : W1.heap[w.heap.size]? = some (.cells #[.bool false, .int .i64 0, .int .i64 0, .int .i64 0, .slice none 0 0, .slice none 0 0] 42) := by rw [hW1]; exact box_new w _
  have hr1 := h.on hb1
  have HBL := Lib.hid (show b < w.heap.size ∧ ∀ k, lv.ownBlock = some k → k < w.heap.size from ⟨h.lt, fun k e => h.row.lt e⟩)
  have HS1 := Lib.hid (show w.heap.size + 1 = W1.heap.size by rw [hW1]; simp)
  have HO1 := Lib.hid ho1
  have HB1 := Lib.hid hb1
  have HR1 := Lib.hid hr1
  have HFI := Lib.hid h.fine
  have c4 := hr1.c.c4
  have c1 := hr1.c.c1
  have c3' := hr1.c.c3
  obtain ⟨la, lc, rfl, _⟩ := h.row.shape
  obtain ⟨l0, hl0⟩ : ∃ l0 : Nat, r.l.length = l0 := ⟨_, rfl⟩
  have HL0 := Lib.hid hl0
  have c3 : W1.cell? ⟨b, 3, none⟩ = some (.slice la l0 lc) := by rw [← hl0]; exact c3'
  have hl63 : (l0 : Int) ≤ 4000 := by have := h.fine.len; omega
  have hmf := makeFunc_run
  have HZ := Lib.hid (fun y0 y1 y2 y3 y4 y5 => (did_set6 (o := w.heap.size) hr1 (Or.inl rfl) (Kept.below (S := fun k => k = b ∨ (Value.slice la r.l.length lc).ownBlock = some k) hb1) HBL.out.1 (Nat.le_refl _) (fun e => by have := HBL.out.2 _ e; omega) (OutIs.zero _ _) y0 y1 y2 y3 y4 y5))
  have g0 : W1.cell? ⟨w.heap.size, 0, none⟩ = some (.bool false) := by rw [Lib.cell_of_heap ho1]; rfl
  have zg0 := Lib.frozen_of_heap ho1 0
  have g1 : W1.cell? ⟨w.heap.size, 1, none⟩ = some (.int .i64 0) := by rw [Lib.cell_of_heap ho1]; rfl
  have zg1 := Lib.frozen_of_heap ho1 1
  have g2 : W1.cell? ⟨w.heap.size, 2, none⟩ = some (.int .i64 0) := by rw [Lib.cell_of_heap ho1]; rfl
  have zg2 := Lib.frozen_of_heap ho1 2
  have g3 : W1.cell? ⟨w.heap.size, 3, none⟩ = some (.int .i64 0) := by rw [Lib.cell_of_heap ho1]; rfl
  have zg3 := Lib.frozen_of_heap ho1 3
  have g4 : W1.cell? ⟨w.heap.size, 4, none⟩ = some (.slice none 0 0) := by rw [Lib.cell_of_heap ho1]; rfl
  have zg4 := Lib.frozen_of_heap ho1 4
  have g5 : W1.cell? ⟨w.heap.size, 5, none⟩ = some (.slice none 0 0) := by rw [Lib.cell_of_heap ho1]; rfl
  have zg5 := Lib.frozen_of_heap ho1 5
  by_cases hA : r.role = 2
  · have eA : (r.role != 2) = false := by simp [hA]
    by_cases hB : d.length ≤ 2000
    · have hB' : ¬ (2000 : Int) < (d.length : Int) := by omega
      by_cases hC : l0 = 4000
      · have hC' : (4000 : Int) ≤ (l0 : Int) := by omega
        have hp : proposeR r d = (r, 0, 6, Out.zero) := by unfold proposeR; rw [if_neg (fun q => q hA), if_neg (by omega), if_pos (by omega)]
        rw [hp]
        clear h hb1 ho1 hr1 hA hC hp c3' hl0
        go_enter Tryz.func15, Tryz.ntmps15
        go_upto_region 1 with fail
        rw [← hW1]
        clear hW1
        go_wp2_with fail
        (try simp only [Exit.inBlock, Exit.then])
        refine bodyPost_ret (ret_prop rfl _ _ w.heap.size _ _ _ _ _ _ rfl (cells6_set HO1.out _ _ _ _ _ _)) rfl ?_
        exact ⟨_, _, _, _, _, _, _, _, _, _, rfl, Lib.hid (HZ.out _ _ _ _ _ _)⟩
      · have hC' : ¬ (4000 : Int) ≤ (l0 : Int) := by omega
        have hp := propose_ok hA hB (by rw [hl0]; exact hC)
        have hfr : Fine { r with l := r.l ++ [(⟨r.h.tm, d⟩ : Rec)] } := by have := propose_fine h.fine d; rw [hp] at this; exact this
        rw [hl0] at hp
        rw [hp]
        have HFR := Lib.hid hfr
        have HA := Lib.hid hA
        obtain ⟨W2, hW2⟩ : ∃ W2, W2 = W1.alloc (.cells #[.int .i64 r.h.tm, .string ⟨d.toArray⟩] 27) := ⟨_, rfl⟩
        have hc2 : Below W1.heap.size W1 W2 := by rw [hW2]; exact below_new _ _
        have hx2 : W2.heap[W1.heap.size]? = some (.cells #[.int .i64 r.h.tm, .string ⟨d.toArray⟩] 27) := by rw [hW2]; exact box_new W1 _
        have hr2 := hr1.on hc2
        have e0 : W2.cell? ⟨W1.heap.size, 0, none⟩ = some (.int .i64 r.h.tm) := by rw [Lib.cell_of_heap hx2]; rfl
        have e1 : W2.cell? ⟨W1.heap.size, 1, none⟩ = some (.string ⟨d.toArray⟩) := by rw [Lib.cell_of_heap hx2]; rfl
        have k3' := hr2.c.c3
        have k3 : W2.cell? ⟨b, 3, none⟩ = some (.slice la l0 lc) := by rw [← hl0]; exact k3'
        have hb3 : Below W2.heap.size W2 (W2.alloc (.cells #[.int .i64 r.h.tm, .string ⟨d.toArray⟩] 27)).drew := below_drew (below_new _ _)
        have hx3 : (W2.alloc (.cells #[.int .i64 r.h.tm, .string ⟨d.toArray⟩] 27)).drew.heap[W2.heap.size]? = some (.cells #[.int .i64 r.h.tm, .string ⟨d.toArray⟩] 27) := box_new W2 _
        obtain ⟨a8, c8, w8, hr8, hrow8, hown8, hk8⟩ := app_recs (W2.alloc (.cells #[.int .i64 r.h.tm, .string ⟨d.toArray⟩] 27)).drew 0 _ r.l (hr2.on hb3).row (G := fun _ => True) (some ⟨W2.heap.size, 0, none⟩) 1 [⟨r.h.tm, d⟩] (rec_src hx3 trivial) (by have := HFI.out.len; simp; omega) (Nat.zero_le _)
        have e9 : ([(⟨r.h.tm, d⟩ : Rec)]).length = 1 := rfl
        rw [hl0, e9] at hr8
        have hrow8 : RecRow w8 0 (.slice a8 (l0 + 1) c8) (r.l ++ [⟨r.h.tm, d⟩]) := by rw [← hl0]; exact hrow8
        have hown8 : (Value.slice a8 (l0 + 1) c8).ownBlock = (Value.slice la r.l.length lc).ownBlock ∨ ∃ y, (Value.slice a8 (l0 + 1) c8).ownBlock = some y ∧ (W2.alloc (.cells #[.int .i64 r.h.tm, .string ⟨d.toArray⟩] 27)).drew.heap.size ≤ y := by rw [← hl0]; exact hown8
        have hk28 : Kept (fun k => (Value.slice la r.l.length lc).ownBlock = some k) W2 w8 := (Kept.below (S := fun k => (Value.slice la r.l.length lc).ownBlock = some k) hb3).trans hk8 (fun _ _ e => e)
        have hblk8 := hk28.heap hr2.blk (fun e => hr2.apart e)
        have k38 : w8.cell? ⟨b, 3, none⟩ = some (.slice la l0 lc) := by rw [← hl0, Lib.cell_of_heap hblk8]; rfl
        have z38 := Lib.frozen_of_heap hblk8 3
        have k3a : (W2.alloc (.cells #[.int .i64 r.h.tm, .string ⟨d.toArray⟩] 27)).cell? ⟨b, 3, none⟩ = some (.slice la l0 lc) := (Kept.alloc (fun _ => False) W2 _).cell k3 (fun e => e)
        have HR8 := Lib.hid hr8
        have hs2 : w.heap.size + 2 = W2.heap.size := by rw [hW2]; have := HS1.out; simp; omega
        have hs3 : (W2.alloc (.cells #[.int .i64 r.h.tm, .string ⟨d.toArray⟩] 27)).drew.heap.size = W2.heap.size + 1 := by show (W2.alloc (.cells #[.int .i64 r.h.tm, .string ⟨d.toArray⟩] 27)).heap.size = _; simp
        have hnb8 : (Value.slice a8 (l0 + 1) c8).ownBlock ≠ some b := fun e => by
          rcases hown8 with q | ⟨y, q, q2⟩
          · exact hr2.apart (by rw [← q]; exact e)
          · rw [q] at e; injection e with e; have := HBL.out.1; omega
        have hkf : Kept (fun k => k = b ∨ (Value.slice la r.l.length lc).ownBlock = some k) w (w8.setCell ⟨b, 3, none⟩ (.slice a8 (l0 + 1) c8)) := ((Kept.below (S := fun k => k = b ∨ (Value.slice la r.l.length lc).ownBlock = some k) (hb1.trans (hc2.mono hb1.size))).trans hk28 (fun _ _ e => Or.inr e)).trans (Kept.set _ _ _ _) (fun _ _ e => Or.inl e)
        have HG := Lib.hid (show RepAt (w8.setCell ⟨b, 3, none⟩ (.slice a8 (l0 + 1) c8)) b (.slice a8 (l0 + 1) c8) { r with l := r.l ++ [(⟨r.h.tm, d⟩ : Rec)] } ∧ ((Value.slice a8 (l0 + 1) c8).ownBlock = (Value.slice la r.l.length lc).ownBlock ∨ ∃ y, (Value.slice a8 (l0 + 1) c8).ownBlock = some y ∧ W2.heap.size ≤ y) ∧ Kept (fun k => k = b ∨ (Value.slice la r.l.length lc).ownBlock = some k) w (w8.setCell ⟨b, 3, none⟩ (.slice a8 (l0 + 1) c8)) ∧ (w8.setCell ⟨b, 3, none⟩ (.slice a8 (l0 + 1) c8)).heap[w.heap.size]? = some (.cells #[.bool false, .int .i64 0, .int .i64 0, .int .i64 0, .slice none 0 0, .slice none 0 0] 42) ∧ (w8.setCell ⟨b, 3, none⟩ (.slice a8 (l0 + 1) c8)).heap[W1.heap.size]? = some (.cells #[.int .i64 r.h.tm, .string ⟨d.toArray⟩] 27) from ⟨⟨box_set hblk8 3 _, hrow8.kept (Kept.set b 3 w8 _) (fun k e e' => hnb8 (by rw [e, e'])), hnb8, hfr⟩, hown8.elim Or.inl (fun ⟨y, q, q2⟩ => Or.inr ⟨y, q, by omega⟩), hkf,
          (Kept.set b 3 w8 _).heap (hk28.heap (box_on ho1 hc2) (fun e => by have := HBL.out.2 _ e; omega)) (fun e => by have := HBL.out.1; omega),
          (Kept.set b 3 w8 _).heap (hk28.heap hx2 (fun e => by have := HBL.out.2 _ e; have := HS1.out; omega)) (fun e => by have := HBL.out.1; have := HS1.out; omega)⟩)
        have HS2 := Lib.hid hs2
        clear h hb1 ho1 hr1 hA hC hp c3' hc2 hx2 hr2 k3' hb3 hx3 hr8 hrow8 hown8 hk8 hk28 hblk8 hnb8 hkf hfr hs2 hs3 hl0 e9
        go_enter Tryz.func15, Tryz.ntmps15
        go_upto_region 1 with fail
        rw [← hW1]
        clear hW1
        go_upto_region 8 with fail
        rw [← hW2]
        clear hW2 c3 c4 c1 g0 g1 g2 g3 g4 g5 zg0 zg1 zg2 zg3 zg4 zg5
        go_cut [43] (fun t43 wx => ∃ w9, t43 = .slice a8 (l0 + 1) c8 ∧ Below w9.heap.size w9 wx ∧ w9 = w8.setCell ⟨b, 3, none⟩ (.slice a8 (l0 + 1) c8))
        case first =>
          go_region_law (refine step_append_run rfl (.tmp 40) (.tmp 42) _ _ rfl _ _ rfl rfl _ _ HR8.out ?_)
          all_goals
            go_wp2_with fail
            go_meet
            exact ⟨_, rfl, by first | exact Below.refl _ _ | exact below_drew (Below.refl _ _), rfl⟩
        case rest =>
          obtain ⟨w9, rfl, hbx, hw9⟩ := hcut
          have hg := HG.out
          rw [← hw9] at hg
          have HREP := Lib.hid (hg.1.on hbx)
          have HOWN := Lib.hid hg.2.1
          have HKW := Lib.hid (hg.2.2.1.trans (Kept.below (S := fun _ => False) hbx) (fun _ _ e => e.elim))
          have HOW := Lib.hid (box_on hg.2.2.2.1 hbx)
          have HXW := Lib.hid (box_on hg.2.2.2.2 hbx)
          clear hg hbx hw9 k3 k38 z38 k3a e0 e1
          have k3 : wc.cell? ⟨b, 3, none⟩ = some (.slice a8 (l0 + 1) c8) := HREP.out.c.c3
          have hs2 := HS2.out
          have hlt := fun k (e : (Value.slice a8 (l0 + 1) c8).ownBlock = some k) => HREP.out.row.lt e
          have hb := HBL.out
          have hwl : w.heap.size + 2 ≤ wc.heap.size := by have h1 := box_lt HXW.out; have h2 := HS1.out; omega
          have hown : (Value.slice a8 (l0 + 1) c8).ownBlock = (Value.slice la r.l.length lc).ownBlock ∨ ∃ y, (Value.slice a8 (l0 + 1) c8).ownBlock = some y ∧ w.heap.size ≤ y := HOWN.out.elim Or.inl (fun ⟨y, q, q2⟩ => Or.inr ⟨y, q, by omega⟩)
          have hlo : (Value.slice a8 (l0 + 1) c8).ownBlock ≠ some w.heap.size := fun e => by
            rcases HOWN.out with q | ⟨y, q, q2⟩
            · rw [q] at e; have := hb.2 _ e; omega
            · rw [q] at e; injection e with e; omega
          have QO := Lib.hid (fun (W : World) (hW : Below wc.heap.size wc W) => (others_entries (HREP.out.on hW) HA.out).mono (R' := fun e w' => ∃ oa oc oL, e = .returned (.slice oa oL oc) ∧ w'.cell? ⟨W1.heap.size, 0, none⟩ = some (.int .i64 r.h.tm) ∧ w'.cell? ⟨W1.heap.size, 1, none⟩ = some (.string ⟨d.toArray⟩) ∧ OZC w' w.heap.size ∧ OZC (w'.alloc (.cells #[.int .i64 r.h.tm, .string ⟨d.toArray⟩] 27)) w.heap.size ∧ Hid (w'.heap[w.heap.size]? = some (.cells #[.bool false, .int .i64 0, .int .i64 0, .int .i64 0, .slice none 0 0, .slice none 0 0] 42) ∧ (W.heap[wc.heap.size]? = some (.cells #[.int .i64 r.h.tm, .string ⟨d.toArray⟩] 27) → ∀ y0 y1 y2 y3 y4 y5 : Value, Did w ((((((w'.setCell ⟨w.heap.size, 0, none⟩ y0).setCell ⟨w.heap.size, 1, none⟩ y1).setCell ⟨w.heap.size, 2, none⟩ y2).setCell ⟨w.heap.size, 3, none⟩ y3).setCell ⟨w.heap.size, 4, none⟩ y4).setCell ⟨w.heap.size, 5, none⟩ y5) b (.slice la r.l.length lc) { r with l := r.l ++ [(⟨r.h.tm, d⟩ : Rec)] } (.agg #[.bool false, .int .i64 0, .int .i64 0, .int .i64 ((l0 : Int) + 1), .slice (some ⟨wc.heap.size, 0, none⟩) 1 1, .slice oa oL oc]) ⟨false, ⟨0, 0⟩, (l0 : Int) + 1, [⟨r.h.tm, d⟩], all { r with l := r.l ++ [(⟨r.h.tm, d⟩ : Rec)] }⟩) ∧ ∀ y0 y1 y2 y3 y4 y5 : Value, Did w (((((((w'.alloc (.cells #[.int .i64 r.h.tm, .string ⟨d.toArray⟩] 27)).setCell ⟨w.heap.size, 0, none⟩ y0).setCell ⟨w.heap.size, 1, none⟩ y1).setCell ⟨w.heap.size, 2, none⟩ y2).setCell ⟨w.heap.size, 3, none⟩ y3).setCell ⟨w.heap.size, 4, none⟩ y4).setCell ⟨w.heap.size, 5, none⟩ y5) b (.slice la r.l.length lc) { r with l := r.l ++ [(⟨r.h.tm, d⟩ : Rec)] } (.agg #[.bool false, .int .i64 0, .int .i64 0, .int .i64 ((l0 : Int) + 1), .slice (some ⟨w'.heap.size, 0, none⟩) 1 1, .slice oa oL oc]) ⟨false, ⟨0, 0⟩, (l0 : Int) + 1, [⟨r.h.tm, d⟩], all { r with l := r.l ++ [(⟨r.h.tm, d⟩ : Rec)] }⟩)) (fun e w' hh => by
            obtain ⟨oa, oc, oL, ops, q1, hmade⟩ := hh
            have q3 := box_on (box_on HXW.out hW) hmade.base
            have q4 := box_on (box_on HOW.out hW) hmade.base
            have hbw := hW.trans (hmade.base.mono hW.size)
            have hsW := hW.size
            have hs5 := hbw.size
            have hfar : w.heap.size < W.heap.size ∧ ∀ k, (Value.slice a8 (l0 + 1) c8).ownBlock = some k → k < W.heap.size := ⟨by omega, fun k e => by have := hlt _ e; omega⟩
            refine ⟨oa, oc, oL, q1, (by rw [Lib.cell_of_heap q3]; rfl), (by rw [Lib.cell_of_heap q3]; rfl), ozc q4, ozc (box_on q4 (below_new w' _)), Lib.hid ⟨q4, fun hrec y0 y1 y2 y3 y4 y5 => ?_, fun y0 y1 y2 y3 y4 y5 => ?_⟩⟩
            · exact prop_did (x := ⟨r.h.tm, d⟩) (HREP.out.on hbw) hown (HKW.out.trans (Kept.below (S := fun _ => False) hbw) (fun _ _ e => e.elim)) hb.1 hlo hmade (Below.refl _ _) hfar (box_on hrec hmade.base) ⟨by omega, fun e => by have := hlt _ e; omega⟩ _ _ _ _ _ _
            · have hbw2 : Below wc.heap.size wc (w'.alloc (.cells #[.int .i64 r.h.tm, .string ⟨d.toArray⟩] 27)) := hbw.alloc hbw.size _
              exact prop_did (x := ⟨r.h.tm, d⟩) (HREP.out.on hbw2) hown (HKW.out.trans (Kept.below (S := fun _ => False) hbw2) (fun _ _ e => e.elim)) hb.1 hlo hmade (below_new w' _) hfar (box_new w' _) ⟨by omega, fun e => by have := hlt _ e; omega⟩ _ _ _ _ _ _))
          clear hs2 hlt hb hwl hown hlo
          have e0 : wc.cell? ⟨W1.heap.size, 0, none⟩ = some (.int .i64 r.h.tm) := by rw [Lib.cell_of_heap HXW.out]; rfl
          have e1 : wc.cell? ⟨W1.heap.size, 1, none⟩ = some (.string ⟨d.toArray⟩) := by rw [Lib.cell_of_heap HXW.out]; rfl
          go_upto_region 10 with fail
          go_region_law (go_simp; go_at_call 44; refine (QO.out _ (by first | exact below_drew (Below.refl _ _) | exact (below_drew (Below.refl _ _)).alloc (Nat.le_refl _) _ | exact below_drew (below_new _ _))).mono ?_; rintro e w5 ⟨oa, oc, oL, rfl, n1, n2, hoz, hoa, HM⟩; have g0 := hoz.c0; have g1 := hoz.c1; have g2 := hoz.c2; have g3 := hoz.c3; have g4 := hoz.c4; have g5 := hoz.c5; have y0 := hoz.z 0; have y1 := hoz.z 1; have y2 := hoz.z 2; have y3 := hoz.z 3; have y4 := hoz.z 4; have y5 := hoz.z 5; clear hoz; have ga0 := hoa.c0; have ga1 := hoa.c1; have ga2 := hoa.c2; have ga3 := hoa.c3; have ga4 := hoa.c4; have ga5 := hoa.c5; have ya0 := hoa.z 0; have ya1 := hoa.z 1; have ya2 := hoa.z 2; have ya3 := hoa.z 3; have ya4 := hoa.z 4; have ya5 := hoa.z 5; clear hoa)
          all_goals
            go_wp2_with fail
            (try simp only [Exit.inBlock, Exit.then])
            obtain ⟨hoz5, hdA, hdB⟩ := HM.out
            clear n1 n2 g0 g1 g2 g3 g4 g5 ga0 ga1 ga2 ga3 ga4 ga5 y0 y1 y2 y3 y4 y5 ya0 ya1 ya2 ya3 ya4 ya5 e0 e1 HM
            first
              | (obtain ⟨W9, hW9⟩ : ∃ W9, W9 = w5.alloc (.cells #[.int .i64 r.h.tm, .string ⟨d.toArray⟩] 27) := ⟨_, rfl⟩
                 rw [← hW9] at hdB ⊢
                 have hoz9 : W9.heap[w.heap.size]? = some (.cells #[.bool false, .int .i64 0, .int .i64 0, .int .i64 0, .slice none 0 0, .slice none 0 0] 42) := by rw [hW9]; exact box_on hoz5 (below_new w5 _)
                 clear hW9 hdA
                 refine bodyPost_ret (ret_prop rfl _ _ w.heap.size _ _ _ _ _ _ rfl (cells6_set hoz9 _ _ _ _ _ _)) rfl ?_
                 exact ⟨_, _, _, _, _, _, _, _, _, _, rfl, Lib.hid (hdB _ _ _ _ _ _)⟩)
              | (refine bodyPost_ret (ret_prop rfl _ _ w.heap.size _ _ _ _ _ _ rfl (cells6_set hoz5 _ _ _ _ _ _)) rfl ?_
                 exact ⟨_, _, _, _, _, _, _, _, _, _, rfl, Lib.hid (hdA (box_new wc _) _ _ _ _ _ _)⟩)
    · have hB' : (2000 : Int) < (d.length : Int) := by omega
      have hp : proposeR r d = (r, 0, 1, Out.zero) := by unfold proposeR; rw [if_neg (fun q => q hA), if_pos (by omega)]
      rw [hp]
      clear h hb1 ho1 hr1 hA hp c3' hl0
      go_enter Tryz.func15, Tryz.ntmps15
      go_upto_region 1 with fail
      rw [← hW1]
      clear hW1
      go_wp2_with fail
      (try simp only [Exit.inBlock, Exit.then])
      refine bodyPost_ret (ret_prop rfl _ _ w.heap.size _ _ _ _ _ _ rfl (cells6_set HO1.out _ _ _ _ _ _)) rfl ?_
      exact ⟨_, _, _, _, _, _, _, _, _, _, rfl, Lib.hid (HZ.out _ _ _ _ _ _)⟩
  · have eA : (r.role != 2) = true := by simp [hA]
    have hp : proposeR r d = (r, 0, 24, Out.zero) := by unfold proposeR; rw [if_pos hA]
    rw [hp]
    clear h hb1 ho1 hr1 hA hp c3' hl0
    go_enter Tryz.func15, Tryz.ntmps15
    go_upto_region 1 with fail
    rw [← hW1]
    clear hW1
    go_wp2_with fail
    (try simp only [Exit.inBlock, Exit.then])
    refine bodyPost_ret (ret_prop rfl _ _ w.heap.size _ _ _ _ _ _ rfl (cells6_set HO1.out _ _ _ _ _ _)) rfl ?_
    exact ⟨_, _, _, _, _, _, _, _, _, _, rfl, Lib.hid (HZ.out _ _ _ _ _ _)⟩
end Go.Proofs.YtkmojcpiadpbaaaGreatDoor
