/-
  A replica hears a message.
-/
import Derived.Test.YtoghaogcekappaaRHandle
namespace Go.Proofs.Ytoghaogcekappaa
set_option maxRecDepth 100000
open Go Go.RowKit Rp

theorem eq_hard (a b c d : Int) (w : World) : (binOp .eql 23 (.agg #[.int .i64 a, .int .i64 b]) (.agg #[.int .i64 c, .int .i64 d])).run Try.prog w = .ok (.bool (decide (a = c ∧ b = d))) w := by
  rw [run_eql_struct, run_equalIn_agg _ 9999 _ _ _ (by kernel_rfl) (by kernel_rfl)]
  have p0 : ∀ (x y : Value) (w : World), (part 3 #[x, y] 0).run Try.prog w = .ok x w := fun x y w => run_part_plain w (by kernel_rfl) rfl
  have p1 : ∀ (x y : Value) (w : World), (part 3 #[x, y] 1).run Try.prog w = .ok y w := fun x y w => run_part_plain w (by kernel_rfl) rfl
  have ei : ∀ (a b : Int) (w : World), (Op.equalIn 9999 3 (.int .i64 a) (.int .i64 b)).run Try.prog w = .ok (a == b) w := fun a b w => run_equalIn_int w 9998 3 .i64 .i64 a b Try.underlying3
  simp only [Program.fieldsOf, Try.underlying23, Op.eqFields, ne_eq, String.reduceEq, not_false_eq_true, if_true, Sem.run_bind, p0, p1, ei, Result.andThen_ok, Sem.run_ite, Sem.run_pure]
  by_cases h1 : a = c
  · by_cases h2 : b = d
    · simp [h1, h2]
    · simp [h1, h2]
  · simp [h1]
theorem neq_hard (a b c d : Int) (w : World) : (binOp .neq 23 (.agg #[.int .i64 a, .int .i64 b]) (.agg #[.int .i64 c, .int .i64 d])).run Try.prog w = .ok (.bool (!decide (a = c ∧ b = d))) w := by
  have h := eq_hard a b c d w
  rw [run_eql_struct] at h
  rw [run_neq_struct]
  cases hr : (Op.equalIn 10000 23 (.agg #[.int .i64 a, .int .i64 b]) (.agg #[.int .i64 c, .int .i64 d])).run Try.prog w with
  | ok b w1 =>
    rw [hr] at h
    simp only [Result.andThen] at h ⊢
    injection h with h1 h2
    injection h1 with h1
    rw [h1, h2]
  | halt x w1 =>
    rw [hr] at h
    simp [Result.andThen] at h
theorem did_end {w W5 w6 wx : World} {b o : Nat} {lv : Value} {r' : R} {v v' : Value} {ou ou' : Out} (hk : Kept (fun k => k = b) w W5) (hd : Did W5 w6 b lv r' v ou) (hx : Below w6.heap.size w6 wx) (hv : ∀ G W, OutIs G W v ou → OutIs G W v' ou') (hbl : b < w.heap.size ∧ ∀ k, lv.ownBlock = some k → k < w.heap.size) (ho : w.heap.size ≤ o ∧ o < W5.heap.size) (y0 y1 y2 y3 y4 y5 : Value) :
    Did w ((((((wx.setCell ⟨o, 0, none⟩ y0).setCell ⟨o, 1, none⟩ y1).setCell ⟨o, 2, none⟩ y2).setCell ⟨o, 3, none⟩ y3).setCell ⟨o, 4, none⟩ y4).setCell ⟨o, 5, none⟩ y5) b lv r' v' ou' := by
  obtain ⟨lv', h1, h2, h3, h4⟩ := hd
  have hs := hk.size
  refine did_set6 (h1.on hx) ?_ (((hk.mono (fun _ _ e => Or.inl e)).trans h3 (fun _ _ e => e)).trans (Kept.below (S := fun _ => False) hx) (fun _ _ e => e.elim)) hbl.1 ho.1 (fun e => ?_) ((hv _ _ (h4.on hx)).mono (fun k hk => ⟨⟨by omega, hk.2⟩, by omega⟩)) _ _ _ _ _ _
  · rcases h2 with q | ⟨y, q, q2⟩
    · exact Or.inl q
    · exact Or.inr ⟨y, q, by omega⟩
  · rcases h2 with q | ⟨y, q, q2⟩
    · rw [q] at e; have := hbl.2 _ e; omega
    · rw [q] at e; injection e with e; omega
theorem OutIs.head {G : Nat → Prop} {w : World} {o : Out} {xs : Bool} {xt xv xf : Int} {xa : Option Addr} {xn xc : Nat} {ya : Option Addr} {yn yc : Nat} (h : OutIs G w (.agg #[.bool xs, .int .i64 xt, .int .i64 xv, .int .i64 xf, .slice xa xn xc, .slice ya yn yc]) o) (s : Bool) (hh : Hard) : OutIs G w (.agg #[.bool s, .int .i64 hh.tm, .int .i64 hh.vt, .int .i64 xf, .slice xa xn xc, .slice ya yn yc]) { o with save := s, h := hh } := by
  obtain ⟨ra, rc, sa, sc, ps, h1, h2⟩ := h
  injection h1 with h1
  simp only [Array.mk.injEq, List.cons.injEq, and_true] at h1
  obtain ⟨_, _, _, q1, q2, q3⟩ := h1
  refine ⟨ra, rc, sa, sc, ps, ?_, h2⟩
  rw [q1, q2, q3]
theorem rep_later {w : World} {b : Nat} {lv : Value} {r : R} (h : RepAt w b lv r) {m : Msg} (hm : Right r.id m) (hT : r.h.tm < m.tm) : RepAt (((w.setCell ⟨b, 1, none⟩ (.int .i64 m.tm)).setCell ⟨b, 2, none⟩ (.int .i64 (-1))).setCell ⟨b, 4, none⟩ (.int .i64 0)) b lv (later r m) := by
  have hl : later r m = { r with h := ⟨m.tm, -1⟩, role := 0 } := by unfold later; rw [if_pos hT]
  have hf := (later_fine h.fine hm).1
  rw [hl] at hf ⊢
  have hk : Kept (fun k => k = b) w (((w.setCell ⟨b, 1, none⟩ (.int .i64 m.tm)).setCell ⟨b, 2, none⟩ (.int .i64 (-1))).setCell ⟨b, 4, none⟩ (.int .i64 0)) := ((Kept.set b 1 w _).trans (Kept.set b 2 _ _) (fun _ _ e => e)).trans (Kept.set b 4 _ _) (fun _ _ e => e)
  have q1 : (w.setCell ⟨b, 1, none⟩ (.int .i64 m.tm)).heap[b]? = some (.cells #[.int .i64 r.id, .int .i64 m.tm, .int .i64 r.h.vt, lv, .int .i64 r.role, .int .i64 r.cm, .int .i64 (r.nxt 0), .int .i64 (r.nxt 1), .int .i64 (r.nxt 2), .int .i64 (r.mat 0), .int .i64 (r.mat 1), .int .i64 (r.mat 2)] 75 (0, 0)) := box_set h.blk 1 _
  have q2 : ((w.setCell ⟨b, 1, none⟩ (.int .i64 m.tm)).setCell ⟨b, 2, none⟩ (.int .i64 (-1))).heap[b]? = some (.cells #[.int .i64 r.id, .int .i64 m.tm, .int .i64 (-1), lv, .int .i64 r.role, .int .i64 r.cm, .int .i64 (r.nxt 0), .int .i64 (r.nxt 1), .int .i64 (r.nxt 2), .int .i64 (r.mat 0), .int .i64 (r.mat 1), .int .i64 (r.mat 2)] 75 (0, 0)) := box_set q1 2 _
  exact ⟨box_set q2 4 _, h.row.kept hk (fun k e e' => h.apart (by rw [e, e'])), h.apart, hf⟩
theorem hear_right {r : R} {m : Msg} (h : right r.id m = true) : hearR r m = ((kindR (later r m) m).1, if (kindR (later r m) m).1.h = r.h then (kindR (later r m) m).2 else { (kindR (later r m) m).2 with save := true, h := (kindR (later r m) m).1.h }) := by
  unfold hearR; rw [if_neg (by rw [h]; decide)]
theorem hear_wrong {r : R} {m : Msg} (h : right r.id m = false) : hearR r m = (r, Out.zero) := by
  unfold hearR; rw [if_pos h]
end Go.Proofs.Ytoghaogcekappaa
