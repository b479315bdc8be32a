/-
  Look: what a record comes to.
-/
import Derived.Test.YtmgpfkckafdbmaaQGet
namespace Go.Proofs.Ytmgpfkckafdbmaa
set_option maxRecDepth 100000
open Go Go.RowKit Pq

/-- An entry. -/
structure EE where
  kd : Int
  pr : Int
  ep : Int
  sq : Int
  src : ByteArray
  sc : Int
  tm : Int
  ra : Option Addr
  rn : Nat
  rc : Nat
def EE.val (e : EE) : Value := .agg #[.int .i64 e.kd, .int .i64 e.pr, .int .i64 e.ep, .int .i64 e.sq, .string e.src, .int .i64 e.sc, .int .i64 e.tm, .slice e.ra e.rn e.rc]
def EE.obj (e : EE) : Obj := .cells #[.int .i64 e.kd, .int .i64 e.pr, .int .i64 e.ep, .int .i64 e.sq, .string e.src, .int .i64 e.sc, .int .i64 e.tm, .slice e.ra e.rn e.rc] 39 (0, 0)
structure ECells (w : World) (b : Nat) (e : EE) : Prop where
  c0 : w.cell? ⟨b, 0, none⟩ = some (.int .i64 e.kd)
  c1 : w.cell? ⟨b, 1, none⟩ = some (.int .i64 e.pr)
  c2 : w.cell? ⟨b, 2, none⟩ = some (.int .i64 e.ep)
  c3 : w.cell? ⟨b, 3, none⟩ = some (.int .i64 e.sq)
  c4 : w.cell? ⟨b, 4, none⟩ = some (.string e.src)
  c5 : w.cell? ⟨b, 5, none⟩ = some (.int .i64 e.sc)
  c6 : w.cell? ⟨b, 6, none⟩ = some (.int .i64 e.tm)
  c7 : w.cell? ⟨b, 7, none⟩ = some (.slice e.ra e.rn e.rc)
theorem EE.cells {e : EE} {w : World} {b : Nat} (h : w.heap[b]? = some e.obj) : ECells w b e := by
  refine ⟨?_, ?_, ?_, ?_, ?_, ?_, ?_, ?_⟩ <;> (rw [Lib.cell_of_heap h]; rfl)
set_option maxHeartbeats 4000000 in
theorem look_c {w : World} {a : Option Addr} {c : Nat} {l : List PP} (h : Tb (fun _ => True) w a c l) (hr : Right (tab l)) (e : EE) :
    Calls Try.prog 30 #[.slice a l.length c, e.val] w fun r w' => r = .returned (.tuple #[.int .i64 (Pq.look (tab l) e.pr e.ep e.sq).1, .int .i64 (Pq.look (tab l) e.pr e.ep e.sq).2]) ∧ Below w.heap.size w w' := by
  have hlen : l.length ≤ 50 := by have := hr.1; rwa [tab_length] at this
  obtain ⟨W1, hW1⟩ : ∃ W1, W1 = w.alloc e.obj := ⟨_, rfl⟩
  have hb1 : Below w.heap.size w W1 := by rw [hW1]; exact below_new w _
  have hx1 : W1.heap[w.heap.size]? = some e.obj := by rw [hW1]; exact box_new w _
  have hlt : w.heap.size < W1.heap.size := by rw [hW1]; simp
  have QF := Lib.hid (find_c (h.on hb1) (by omega) hr.2 e.pr)
  have HR := Lib.hid hr
  have hc := EE.cells hx1
  have c1 := hc.c1
  obtain ⟨kd, pr, ep, sq, src, sc, tm, ra, rn, rc⟩ := e
  unfold EE.obj at hW1
  unfold EE.val
  dsimp only at *
  obtain ⟨L, hL⟩ : ∃ L, L = l.length := ⟨_, rfl⟩
  have HL := Lib.hid hL
  rw [← hL] at hlen QF ⊢
  have HX1 := Lib.hid hx1
  clear h hr hc hL hx1
  go_enter Try.func30, Try.ntmps30
  go_upto_region 1 with fail
  rw [← hW1]
  clear hW1
  go_upto_region 2 with (go_at_call 35; refine QF.out.mono ?_; rintro r w1 ⟨k, ⟨⟨i, pe, nx, last⟩, xa, xc⟩, f, hr, h1, h2, h3, h4, h5, hb2⟩; unfold PP.val at hr; dsimp only at *; subst hr; clear c1)
  obtain ⟨W2, hW2⟩ : ∃ W2, W2 = w1.alloc (PP.obj ⟨⟨i, pe, nx, last⟩, xa, xc⟩) := ⟨_, rfl⟩
  have hb3 : Below w1.heap.size w1 W2 := by rw [hW2]; exact below_new w1 _
  have hx3 : PP.at ⟨⟨i, pe, nx, last⟩, xa, xc⟩ W2 w1.heap.size := by rw [hW2]; exact box_new w1 _
  have hE := EE.cells (box_on (box_on HX1.out hb2) hb3)
  have d1 := hE.c1
  have d2 := hE.c2
  have d3 := hE.c3
  have e0 := hx3.cells.c0
  have e1 := hx3.cells.c1
  have e2 := hx3.cells.c2
  have e3 := hx3.cells.c3
  have HB := Lib.hid ((hb1.trans (hb2.mono hb1.size)).trans (hb3.mono (Nat.le_trans hb1.size hb2.size)))
  have QN := Lib.hid (fun n => named_c n W2)
  have hok := (h3 : PP.ok (fun _ => True) w1 ⟨⟨i, pe, nx, last⟩, xa, xc⟩).on hb3
  have hP : OkP ⟨i, pe, nx, last⟩ := by rw [h2]; exact right_get HR.out pr
  have hLl : last.length ≤ 100000 := by have := hP.len; dsimp only at this; omega
  have QS := Lib.hid (fun (h6 : 0 ≤ sq) (h7 : sq < nx) => stored_c hok hP.nx hLl sq h6 h7)
  have HG := Lib.hid (show Pq.get (tab l) pr = ⟨i, pe, nx, last⟩ from h2.symm)
  have HF := Lib.hid h4
  have HL50 := Lib.hid (show (tab l).length = L by rw [tab_length, HL.out])
  unfold PP.obj at hW2
  dsimp only at *
  rw [← hW2]
  clear hW2 h1 h2 h3 h4 h5 hE hx3 hb3 hok hP hb2 hb1 hlt
  cases q1 : decide (inA pr) with
  | false =>
    have D1 := Lib.hid q1
    have R := Lib.hid (show Pq.look (tab l) pr ep sq = (0, 1) by unfold Pq.look; rw [if_pos (fun f => of_decide_eq_false q1 f.1)])
    clear q1
    go_wp2_with (go_at_call 36; refine (QN.out _).mono ?_; rintro r w3 ⟨rfl, hw⟩; rw [hw]; clear hw; first | rw [D1.out])
    go_ret2
    exact ⟨by rw [R.out]; rfl, HB.out⟩
  | true =>
    have D1 := Lib.hid q1
    clear q1
    cases q2 : decide (inA ep) with
    | false =>
      have D2 := Lib.hid q2
      have R := Lib.hid (show Pq.look (tab l) pr ep sq = (0, 1) by unfold Pq.look; rw [if_pos (fun f => of_decide_eq_false q2 f.2.1)])
      clear q2
      go_wp2_with (go_at_call 36; refine (QN.out _).mono ?_; rintro r w3 ⟨rfl, hw⟩; rw [hw]; clear hw; first | rw [D1.out] | rw [D2.out])
      go_ret2
      exact ⟨by rw [R.out]; rfl, HB.out⟩
    | true =>
      have D2 := Lib.hid q2
      clear q2
      cases q3 : decide (inA sq) with
      | false =>
        have D3 := Lib.hid q3
        have R := Lib.hid (show Pq.look (tab l) pr ep sq = (0, 1) by unfold Pq.look; rw [if_pos (fun f => of_decide_eq_false q3 f.2.2)])
        clear q3
        go_wp2_with (go_at_call 36; refine (QN.out _).mono ?_; rintro r w3 ⟨rfl, hw⟩; rw [hw]; clear hw; first | rw [D1.out] | rw [D2.out] | rw [D3.out])
        go_ret2
        exact ⟨by rw [R.out]; rfl, HB.out⟩
      | true =>
        have D3 := Lib.hid q3
        clear q3
        have HA := Lib.hid (show inA pr ∧ inA ep ∧ inA sq from ⟨of_decide_eq_true D1.out, of_decide_eq_true D2.out, of_decide_eq_true D3.out⟩)
        by_cases g : ep < pe
        · have R := Lib.hid (show Pq.look (tab l) pr ep sq = (0, 18) by unfold Pq.look; rw [HG.out, if_neg (fun f => f HA.out), if_pos g])
          go_wp2_with (go_at_call 36; refine (QN.out _).mono ?_; rintro r w3 ⟨rfl, hw⟩; rw [hw]; clear hw; first | rw [D1.out] | rw [D2.out] | rw [D3.out])
          go_ret2
          exact ⟨by rw [R.out]; rfl, HB.out⟩
        · have N1 := Lib.hid g
          by_cases g : pe < ep
          · have R := Lib.hid (show Pq.look (tab l) pr ep sq = (0, 25) by unfold Pq.look; rw [HG.out, if_neg (fun f => f HA.out), if_neg N1.out, if_pos g])
            go_wp2_with (go_at_call 36; refine (QN.out _).mono ?_; rintro r w3 ⟨rfl, hw⟩; rw [hw]; clear hw; first | rw [D1.out] | rw [D2.out] | rw [D3.out])
            go_ret2
            exact ⟨by rw [R.out]; rfl, HB.out⟩
          · have N2 := Lib.hid g
            by_cases g : nx < sq
            · have R := Lib.hid (show Pq.look (tab l) pr ep sq = (0, 19) by unfold Pq.look; rw [HG.out, if_neg (fun f => f HA.out), if_neg N1.out, if_neg N2.out, if_pos g])
              go_wp2_with (go_at_call 36; refine (QN.out _).mono ?_; rintro r w3 ⟨rfl, hw⟩; rw [hw]; clear hw; first | rw [D1.out] | rw [D2.out] | rw [D3.out])
              go_ret2
              exact ⟨by rw [R.out]; rfl, HB.out⟩
            · have N3 := Lib.hid g
              by_cases g4 : f = false ∧ 50 ≤ L
              · obtain ⟨g4, g5⟩ := g4
                have R := Lib.hid (show Pq.look (tab l) pr ep sq = (0, 6) by unfold Pq.look; rw [HG.out, if_neg (fun f => f HA.out), if_neg N1.out, if_neg N2.out, if_neg N3.out, if_pos ⟨Decidable.not_not.1 (fun k => by have := HF.out.2 k; rw [g4] at this; cases this), by rw [HL50.out]; exact g5⟩])
                subst g4
                have g5' : (50 : Int) ≤ (L : Int) := by omega
                go_wp2_with (go_at_call 36; refine (QN.out _).mono ?_; rintro r w3 ⟨rfl, hw⟩; rw [hw]; clear hw; first | rw [D1.out] | rw [D2.out] | rw [D3.out])
                go_ret2
                exact ⟨by rw [R.out]; rfl, HB.out⟩
              · have N4 := Lib.hid (show ¬ (find (tab l) pr = none ∧ 50 ≤ (tab l).length) from fun k => g4 ⟨by cases f with | false => rfl | true => exact absurd k.1 (HF.out.1 rfl), by rw [← HL50.out]; exact k.2⟩)
                have HS := Lib.hid (show sq < nx → Pq.look (tab l) pr ep sq = (storedI ⟨i, pe, nx, last⟩ sq, 5) from fun g => by
                  unfold Pq.look storedI
                  rw [HG.out, if_neg (fun f => f HA.out), if_neg N1.out, if_neg N2.out, if_neg N3.out, if_neg N4.out, if_neg (fun k => by have k : sq = nx := k; omega)]
                  dsimp only
                  split <;> rfl)
                have HO := Lib.hid (show sq = nx → Pq.look (tab l) pr ep sq = (0, 0) from fun g => by unfold Pq.look; rw [HG.out, if_neg (fun f => f HA.out), if_neg N1.out, if_neg N2.out, if_neg N3.out, if_neg N4.out, if_pos g])
                cases f with
                | true =>
                  clear g4
                  by_cases g : sq < nx
                  · have Q := Lib.hid (QS.out HA.out.2.2.1 g)
                    have Rg := Lib.hid (HS.out g)
                    go_wp2_with (first | (go_at_call 36; refine (QN.out _).mono ?_; rintro r w3 ⟨rfl, hw⟩; rw [hw]; clear hw; first | rw [D1.out] | rw [D2.out] | rw [D3.out]) | (go_at_call 42; refine Q.out.mono ?_; rintro r w3 ⟨rfl, hb3⟩))
                    go_ret2
                    exact ⟨by rw [Rg.out]; rfl, HB.out.trans (hb3.mono HB.out.size)⟩
                  · have Q := Lib.hid (HO.out (by have := N3.out; omega))
                    go_wp2_with (go_at_call 36; refine (QN.out _).mono ?_; rintro r w3 ⟨rfl, hw⟩; rw [hw]; clear hw; first | rw [D1.out] | rw [D2.out] | rw [D3.out])
                    go_ret2
                    exact ⟨by rw [Q.out]; rfl, HB.out⟩
                | false =>
                  have g5 : ¬ (50 : Int) ≤ (L : Int) := fun k => g4 ⟨rfl, by omega⟩
                  clear g4
                  by_cases g : sq < nx
                  · have Q := Lib.hid (QS.out HA.out.2.2.1 g)
                    have Rg := Lib.hid (HS.out g)
                    go_wp2_with (first | (go_at_call 36; refine (QN.out _).mono ?_; rintro r w3 ⟨rfl, hw⟩; rw [hw]; clear hw; first | rw [D1.out] | rw [D2.out] | rw [D3.out]) | (go_at_call 42; refine Q.out.mono ?_; rintro r w3 ⟨rfl, hb3⟩))
                    go_ret2
                    exact ⟨by rw [Rg.out]; rfl, HB.out.trans (hb3.mono HB.out.size)⟩
                  · have Q := Lib.hid (HO.out (by have := N3.out; omega))
                    go_wp2_with (go_at_call 36; refine (QN.out _).mono ?_; rintro r w3 ⟨rfl, hw⟩; rw [hw]; clear hw; first | rw [D1.out] | rw [D2.out] | rw [D3.out])
                    go_ret2
                    exact ⟨by rw [Q.out]; rfl, HB.out⟩
end Go.Proofs.Ytmgpfkckafdbmaa
