/-
  The law's examples.
-/
import Derived.Test.YtoghaogcekappaaRTwo
namespace Go.Proofs.Ytoghaogcekappaa
set_option maxRecDepth 100000
open Go Go.RowKit Rp

def q0 : R := ⟨0, ⟨0, -1⟩, [], 0, 0, fun _ => false, fun _ => 0, fun _ => 0⟩
def q1 : R := ⟨1, ⟨0, -1⟩, [], 0, 0, fun _ => false, fun _ => 0, fun _ => 0⟩
def e1 : Msg := ⟨0, 0, 1, 1, 0, 0, 0, false, []⟩
def e2 : Msg := ⟨1, 1, 0, 1, 0, 0, 0, true, []⟩
def e4 : Msg := ⟨2, 0, 1, 1, 0, 0, 0, false, [⟨1, [97]⟩]⟩
def e5 : Msg := ⟨3, 1, 0, 1, 1, 0, 0, true, []⟩
theorem x_new0 : newR 0 ⟨0, -1⟩ [] = some q0 := rfl
theorem x_new1 : newR 1 ⟨0, -1⟩ [] = some q1 := rfl
theorem x1 : (tickR q0).2 = ⟨true, ⟨1, 0⟩, 0, [], [e1, ⟨0, 0, 2, 1, 0, 0, 0, false, []⟩]⟩ := by decide
theorem x2 : (hearR q1 e1).2 = ⟨true, ⟨1, 0⟩, 0, [], [e2]⟩ := by decide
theorem x3 : (hearR (tickR q0).1 e2).2 = ⟨false, ⟨0, 0⟩, 0, [], [⟨2, 0, 1, 1, 0, 0, 0, false, []⟩, ⟨2, 0, 2, 1, 0, 0, 0, false, []⟩]⟩ := by decide
theorem x4 : (proposeR (hearR (tickR q0).1 e2).1 [97]).2 = (1, 0, ⟨false, ⟨0, 0⟩, 1, [⟨1, [97]⟩], [e4, ⟨2, 0, 2, 1, 0, 0, 0, false, [⟨1, [97]⟩]⟩]⟩) := by decide
theorem x4r : (proposeR (hearR (tickR q0).1 e2).1 [97]).1.role = 2 := by decide
theorem x5 : (hearR (hearR q1 e1).1 e4).2 = ⟨false, ⟨0, 0⟩, 1, [⟨1, [97]⟩], [e5]⟩ := by decide
theorem x5l : (hearR (hearR q1 e1).1 e4).1.l.length = 1 := by decide
theorem x6c : (hearR (proposeR (hearR (tickR q0).1 e2).1 [97]).1 e5).1.cm = 1 := by decide
theorem x6l : (hearR (proposeR (hearR (tickR q0).1 e2).1 [97]).1 e5).1.l.length = 1 := by decide
/-- The first message of a list. -/
theorem first_msg {G : Nat → Prop} {w : World} {ya : Option Addr} {yc yn : Nat} {ps : List PM} {m : Msg} {rest : List Msg} (h1 : ps.length = yn) (h2 : ps.map PM.m = m :: rest) (h3 : Src G w ya yc yn (msgsV ps)) (h5 : ∀ p ∈ ps, p.ok G w) : ∃ pa pc b off, ya = some ⟨b, off, none⟩ ∧ G b ∧ MCell ⟨m, pa, pc⟩ w b off ∧ PM.ok G w ⟨m, pa, pc⟩ := by
  cases ps with
  | nil => cases h2
  | cons p ps =>
    rw [List.map_cons] at h2
    injection h2 with h2 _
    subst h2
    obtain ⟨b, off, q1, q2, q3⟩ := msg_cells h3 h1.symm (k := 0) (p := p) rfl
    rw [Nat.zero_mul, Nat.add_zero] at q3
    exact ⟨p.a, p.c, b, off, q1, q2, q3, h5 p (List.mem_cons_self ..)⟩
/-- A call of one of two replicas; its result is put into a variable of its own. -/
theorem step_x {w0 W w' U : World} {pa : Nat} {la : Value} {ra ra' : R} {pb : Nat} {lb : Value} {rb : R} {o : Out} {s : Bool} {t v f : Int} {rs : List Rec} {m : Msg} {ms : List Msg} {xs : Bool} {xt xv xf : Int} {xa : Option Addr} {xn xc : Nat} {ya : Option Addr} {yn yc : Nat} (h : Two W pa la ra pb lb rb) (hb : Below w0.heap.size w0 W) (ho : (∀ k, Own pa la k → w0.heap.size ≤ k) ∧ (∀ k, Own pb lb k → w0.heap.size ≤ k)) (hd : Did W w' pa la ra' (.agg #[.bool xs, .int .i64 xt, .int .i64 xv, .int .i64 xf, .slice xa xn xc, .slice ya yn yc]) o) (he : o = ⟨s, ⟨t, v⟩, f, rs, m :: ms⟩) (hU : U = w'.alloc (.cells #[.bool xs, .int .i64 xt, .int .i64 xv, .int .i64 xf, .slice xa xn xc, .slice ya yn yc] 35)) :
    xs = s ∧ xt = t ∧ xv = v ∧ xf = f ∧ xn = rs.length ∧ yn = ms.length + 1 ∧ ∃ la', Two U pa la' ra' pb lb rb ∧ Below w0.heap.size w0 U ∧ ((∀ k, Own pa la' k → w0.heap.size ≤ k) ∧ (∀ k, Own pb lb k → w0.heap.size ≤ k)) ∧ Kept (fun k => Own pa la k) W U ∧ U.heap[w'.heap.size]? = some (.cells #[.bool xs, .int .i64 xt, .int .i64 xv, .int .i64 xf, .slice xa xn xc, .slice ya yn yc] 35 (0, 0)) ∧ Free U pa la' pb lb w'.heap.size ∧ (∀ k, Free W pa la pb lb k → Free U pa la' pb lb k) ∧
      ∃ ma mc mb mo, ya = some ⟨mb, mo, none⟩ ∧ Free U pa la' pb lb mb ∧ MCell ⟨m, ma, mc⟩ U mb mo ∧ PM.ok (Free U pa la' pb lb) U ⟨m, ma, mc⟩ := by
  subst he
  obtain ⟨la', h1, h2, h3, h4⟩ := h.did hd
  obtain ⟨p0, p1, p2, p3, p4, p5, _, ps, p6, p7, p8, p9⟩ := h2.parts
  have hs3 := h3.size
  have hal : Below w'.heap.size w' U := by rw [hU]; exact below_new _ _
  have hUs : U.heap.size = w'.heap.size + 1 := by rw [hU]; simp
  have hkU : Kept (fun k => Own pa la k) W U := h3.trans (Kept.below (S := fun _ => False) hal) (fun _ _ e => e.elim)
  obtain ⟨ma, mc, mb, mo, r1, r2, r3, r4⟩ := first_msg p6 p7 p8 p9
  obtain ⟨lv9, g1, g2, g3, g4⟩ := hd
  have hown : ∀ k, Own pa la' k → w0.heap.size ≤ k := fun k e => by
    rcases Nat.lt_or_ge k W.heap.size with q | q
    · apply Classical.byContradiction
      intro hc
      have hf : Free W pa la pb lb k := ⟨q, fun e' => hc (ho.1 k e'), fun e' => hc (ho.2 k e')⟩
      exact (h4 k hf).2.1 e
    · have := hb.size; omega
  refine ⟨p0, p1, p2, p3, p4, p5, la', h1.on hal, hb.trans (hkU.toBelow hb.size (fun k e => ho.1 k e)), ⟨hown, ho.2⟩, hkU, by rw [hU]; exact box_new _ _, h1.new (by omega), fun k hf => (h4 k hf).on hal.size, ma, mc, mb, mo, r1, r2.on hal.size, r3.kept (Kept.below (S := fun _ => False) hal) (fun e => e), (PM.ok.on r4 hal).mono (fun k hf => hf.on hal.size)⟩
end Go.Proofs.Ytoghaogcekappaa
