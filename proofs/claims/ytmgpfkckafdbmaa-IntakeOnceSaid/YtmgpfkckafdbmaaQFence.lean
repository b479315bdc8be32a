/-
  Fence: the next epoch of a producer.
-/
import Derived.Test.YtmgpfkckafdbmaaQWith
namespace Go.Proofs.Ytmgpfkckafdbmaa
set_option maxRecDepth 100000
open Go Go.RowKit Pq

/-- What a fence returns. -/
def FenceIs (G : Nat → Prop) (w : World) (s : List P) (id : Int) (r : Ending) : Prop :=
  ∃ a c l ep z, r = .returned (.tuple #[.slice a (List.length l) c, .int .i64 ep, .int .i64 z]) ∧ Tb G w a c l ∧ ((fence s id = (none, z) ∧ l = [] ∧ ep = 0 ∧ z ≠ 0) ∨ (fence s id = (some (tab l, ep), z) ∧ z = 0))
set_option maxHeartbeats 4000000 in
theorem fence_c {w : World} {a : Option Addr} {c : Nat} {l : List PP} (h : Tb (fun _ => True) w a c l) (hr : Right (tab l)) (id : Int) :
    Calls Try.prog 25 #[.slice a l.length c, .int .i64 id] w fun r w' => FenceIs (fun b => w.heap.size ≤ b) w' (tab l) id r ∧ Below w.heap.size w w' := by
  have hlen : l.length ≤ 50 := by have := hr.1; rwa [tab_length] at this
  have QF := Lib.hid (find_c h (by omega) hr.2 id)
  have H0 := Lib.hid h
  have HR := Lib.hid hr
  obtain ⟨L, hL⟩ : ∃ L, L = l.length := ⟨_, rfl⟩
  have HL := Lib.hid hL
  have HL50 := Lib.hid (show (tab l).length = L by rw [tab_length, hL])
  rw [← hL] at hlen QF ⊢
  clear h hr hL
  go_enter Try.func25, Try.ntmps25
  go_upto_region 2 with (go_at_call 35; refine QF.out.mono ?_; rintro r w1 ⟨k, ⟨⟨i, pe, nx, last⟩, xa, xc⟩, f, hr, h1, h2, h3, h4, h5, hb2⟩; unfold PP.val at hr; dsimp only at *; subst hr)
  obtain ⟨W2, hW2⟩ : ∃ W2, W2 = w1.alloc (PP.obj ⟨⟨i, pe, nx, last⟩, xa, xc⟩) := ⟨_, rfl⟩
  have hb3 : Below w1.heap.size w1 W2 := by rw [hW2]; exact below_new w1 _
  have hx3 : PP.at ⟨⟨i, pe, nx, last⟩, xa, xc⟩ W2 w1.heap.size := by rw [hW2]; exact box_new w1 _
  unfold PP.obj at hW2
  dsimp only at hW2
  rw [← hW2]
  clear hW2
  have e1 := hx3.cells.c1
  dsimp only [Nat.zero_add] at e1
  have hP : OkP ⟨i, pe, nx, last⟩ := by rw [h2]; exact right_get HR.out id
  have hpe := hP.ep
  unfold inB at hpe
  dsimp only at hpe
  have HG := Lib.hid (show Pq.get (tab l) id = ⟨i, pe, nx, last⟩ from h2.symm)
  have hbW : Below w.heap.size w W2 := hb2.trans (hb3.mono hb2.size)
  have HB := Lib.hid hbW
  have QN := Lib.hid (named_c id W2)
  have QW := Lib.hid (with_c (H0.out.on hbW) HR.out (G := fun b => w.heap.size ≤ b) ⟨⟨id, pe + 1, 0, []⟩, none, 0⟩ (Src.nil _ _) (fun b hb => Nat.le_trans hbW.size hb))
  unfold PP.val at QW
  rw [← HL.out] at QW
  dsimp only [List.length_nil] at QW
  have HF := Lib.hid h4
  clear h1 h2 h3 h4 h5 hx3 hb3 hP hb2 hbW
  cases q1 : decide (inA id) with
  | false =>
    have D1 := Lib.hid q1
    have R := Lib.hid (show fence (tab l) id = (none, 1) by unfold fence; rw [if_pos (Or.inl (of_decide_eq_false q1))])
    clear q1
    go_wp2_with (go_at_call 36; refine QN.out.mono ?_; rintro r w3 ⟨rfl, hw⟩; rw [hw]; clear hw; rw [D1.out])
    go_ret3
    exact ⟨⟨none, 0, [], 0, 1, rfl, tb_nil _ _, Or.inl ⟨R.out, rfl, rfl, by decide⟩⟩, HB.out⟩
  | true =>
    have D1 := Lib.hid q1
    clear q1
    by_cases g : 1099511627776 ≤ pe
    · have R := Lib.hid (show fence (tab l) id = (none, 1) by unfold fence; rw [HG.out, if_pos (Or.inr (by dsimp only; omega))])
      go_wp2_with (go_at_call 36; refine QN.out.mono ?_; rintro r w3 ⟨rfl, hw⟩; rw [hw]; clear hw; rw [D1.out])
      go_ret3
      exact ⟨⟨none, 0, [], 0, 1, rfl, tb_nil _ _, Or.inl ⟨R.out, rfl, rfl, by decide⟩⟩, HB.out⟩
    · have N1 := Lib.hid (show ¬ (¬ inA id ∨ (⟨i, pe, nx, last⟩ : P).ep = 1099511627776) from fun q => q.elim (fun q => q (of_decide_eq_true D1.out)) (fun q => by dsimp only at q; omega))
      by_cases g4 : f = false ∧ 50 ≤ L
      · obtain ⟨g4, g5⟩ := g4
        have R := Lib.hid (show fence (tab l) id = (none, 6) by unfold fence; rw [HG.out, if_neg N1.out, if_pos ⟨Decidable.not_not.1 (fun k => by have := HF.out.2 k; rw [g4] at this; cases this), by rw [HL50.out]; exact g5⟩])
        subst g4
        have g5' : (50 : Int) ≤ (L : Int) := by omega
        go_wp2_with (go_at_call 36; refine QN.out.mono ?_; rintro r w3 ⟨rfl, hw⟩; rw [hw]; clear hw; rw [D1.out])
        go_ret3
        exact ⟨⟨none, 0, [], 0, 6, rfl, tb_nil _ _, Or.inl ⟨R.out, rfl, rfl, by decide⟩⟩, HB.out⟩
      · have R := Lib.hid (show fence (tab l) id = (some (Pq.set (tab l) ⟨id, pe + 1, 0, []⟩, pe + 1), 0) by
          unfold fence
          rw [HG.out, if_neg N1.out, if_neg (fun k => g4 ⟨by cases f with | false => rfl | true => exact absurd k.1 (HF.out.1 rfl), by rw [← HL50.out]; exact k.2⟩)])
        have hw1 : IntKind.i64.wrap (pe + 1) = pe + 1 := by rw [IntKind.wrap_i64]; omega
        cases f with
        | true =>
          clear g4
          go_wp2_with (first | (go_at_call 36; refine QN.out.mono ?_; rintro r w3 ⟨rfl, hw⟩; rw [hw]; clear hw; rw [D1.out]) | (go_at_call 37; refine QW.out.mono ?_; rintro r w3 ⟨a', c', l', rfl, k1, k2, k3⟩))
          go_ret3
          exact ⟨⟨a', c', l', pe + 1, 0, rfl, k2, Or.inr ⟨by rw [k1]; exact R.out, rfl⟩⟩, HB.out.trans (k3.mono HB.out.size)⟩
        | false =>
          have g5 : ¬ (50 : Int) ≤ (L : Int) := fun k => g4 ⟨rfl, by omega⟩
          clear g4
          go_wp2_with (first | (go_at_call 36; refine QN.out.mono ?_; rintro r w3 ⟨rfl, hw⟩; rw [hw]; clear hw; rw [D1.out]) | (go_at_call 37; refine QW.out.mono ?_; rintro r w3 ⟨a', c', l', rfl, k1, k2, k3⟩))
          go_ret3
          exact ⟨⟨a', c', l', pe + 1, 0, rfl, k2, Or.inr ⟨by rw [k1]; exact R.out, rfl⟩⟩, HB.out.trans (k3.mono HB.out.size)⟩
end Go.Proofs.Ytmgpfkckafdbmaa
