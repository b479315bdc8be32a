/-
  The program reads entries.
-/
import Derived.Test.YtkmojcpiadpbaaaGreatDoorKEnc
import Derived.Test.YtkmojcpiadpbaaaGreatDoorReadB
namespace Go.Proofs.YtkmojcpiadpbaaaGreatDoor
set_option maxRecDepth 100000
open Go Go.RowKit Go.Sort Wire Rp

/-- A reader beside a world of old. -/
structure RA (w0 w : World) (b : Nat) (s : RS) : Prop where
  low : Below w0.heap.size w0 w
  hb : w0.heap.size ≤ b
  rd : Rd w b s.r s.f
  ok : s.ok
theorem only_kept {b : Nat} {w w' : World} (h : Only b w w') : Kept (fun k => k = b) w w' := Kept.grown h (fun k e => by injection e with e; exact e.symm)
section
variable {w0 w w' : World} {b : Nat} {s : RS}
theorem RA.on (h : RA w0 w b s) (hb : Below w.heap.size w w') : RA w0 w' b s := ⟨h.low.trans (hb.mono h.low.size), h.hb, h.rd.on hb, h.ok⟩
theorem RA.far (h : RA w0 w b s) {S : Nat → Prop} (hk : Kept S w w') (h1 : ∀ k, S k → w0.heap.size ≤ k) (h2 : ¬ S b) : RA w0 w' b s := ⟨h.low.trans (hk.toBelow h.low.size h1), h.hb, hk.heap h.rd h2, h.ok⟩
theorem RA.only (h : RA w0 w b s) (ho : Only b w w') {s' : RS} (hr : Rd w' b s'.r s'.f) (hs : s'.ok) : RA w0 w' b s' := ⟨h.low.trans ((only_kept ho).toBelow h.low.size (fun k e => by rw [e]; exact h.hb)), h.hb, hr, hs⟩
theorem ra_int (h : RA w0 w b s) (hg : Good w0) (hl : s.r.length ≤ 4000000) : Calls Tryz.prog 24 #[.pointer (some ⟨b, 0, none⟩)] w fun e w' => e = .returned (.int .i64 (rdI s).1) ∧ RA w0 w' b (rdI s).2 ∧ Only b w w' := by
  have hok := rdI_ok h.ok
  cases hr : rInt 59 s.r with
  | some p =>
    obtain ⟨n, r'⟩ := p
    have e : rdI s = (n, ⟨r', s.f⟩) := by unfold rdI; rw [hr]
    rw [e] at hok ⊢
    exact (rIntM_ok b s.r s.f n r' hr (by omega) w (hg.on h.low) h.rd).mono fun e w' ⟨he, h1, h2⟩ => ⟨he, h.only h2 h1 hok, h2⟩
  | none =>
    have e : rdI s = (0, ⟨[], true⟩) := by unfold rdI; rw [hr]
    rw [e] at hok ⊢
    exact (rIntM_no b s.r s.f hr (by omega) w (hg.on h.low) h.rd).mono fun e w' ⟨he, h1, h2⟩ => ⟨he, h.only h2 h1 hok, h2⟩
theorem ra_num (h : RA w0 w b s) (hg : Good w0) (hl : s.r.length ≤ 4000000) : Calls Tryz.prog 25 #[.pointer (some ⟨b, 0, none⟩)] w fun e w' => e = .returned (.int .i64 (rdN s).1) ∧ RA w0 w' b (rdN s).2 ∧ Only b w w' := by
  have hok := rdN_ok h.ok
  cases hr : rNum 59 s.r with
  | some p =>
    obtain ⟨n, r'⟩ := p
    have e : rdN s = (n, ⟨r', s.f⟩) := by unfold rdN; rw [hr]
    rw [e] at hok ⊢
    exact (rNumM_ok b s.r s.f n r' hr (by omega) w (hg.on h.low) h.rd).mono fun e w' ⟨he, h1, h2⟩ => ⟨he, h.only h2 h1 hok, h2⟩
  | none =>
    have e : rdN s = (0, ⟨[], true⟩) := by unfold rdN; rw [hr]
    rw [e] at hok ⊢
    exact (rNumM_no b s.r s.f hr (by omega) w (hg.on h.low) h.rd).mono fun e w' ⟨he, h1, h2⟩ => ⟨he, h.only h2 h1 hok, h2⟩
theorem ra_text (h : RA w0 w b s) (hg : Good w0) (hl : s.r.length ≤ 4000000) : Calls Tryz.prog 49 #[.pointer (some ⟨b, 0, none⟩)] w fun e w' => e = .returned (.string ⟨(rdT s).1.toArray⟩) ∧ RA w0 w' b (rdT s).2 ∧ Only b w w' := by
  have hok := rdT_ok h.ok
  cases hr : rText s.r with
  | some p =>
    obtain ⟨n, r'⟩ := p
    have e : rdT s = (n, ⟨r', s.f⟩) := by unfold rdT; rw [hr]
    rw [e] at hok ⊢
    exact (rTextM_ok b s.r s.f n r' hr (by omega) w (hg.on h.low) h.rd).mono fun e w' ⟨he, h1, h2⟩ => ⟨he, h.only h2 h1 hok, h2⟩
  | none =>
    have e : rdT s = ([], ⟨[], true⟩) := by unfold rdT; rw [hr]
    rw [e] at hok ⊢
    exact (rTextM_no b s.r s.f hr (by omega) w (hg.on h.low) h.rd).mono fun e w' ⟨he, h1, h2⟩ => ⟨he, h.only h2 h1 hok, h2⟩
end
theorem sizeRec8 : (Tryz.prog.info? 27).map (·.size) = some 2 := by kernel_rfl
theorem ret_rec {fn : Func} {p : Tmp} (hr : fn.results = #[.cell p 27]) (tmps : Array Value) (w : World) (b : Nat) (x y : Value) (hp : tmps.getD p undef = .pointer (some ⟨b, 0, none⟩)) (h : w.heap[b]? = some (.cells #[x, y] 27 (0, 0))) :
    (results fn tmps).run Tryz.prog w = .ok (.agg #[x, y]) w :=
  results_cell_row hr tmps w b _ _ _ _ hp h Tryz.underlying27 rfl (by rw [sizeRec8]; rfl)
theorem ret_rec2 {fn : Func} {p u : Tmp} (hr : fn.results = #[.cell p 27, .tmp u]) (tmps : Array Value) (w : World) (b : Nat) (x y : Value) (hp : tmps.getD p undef = .pointer (some ⟨b, 0, none⟩)) (h : w.heap[b]? = some (.cells #[x, y] 27 (0, 0))) :
    (results fn tmps).run Tryz.prog w = .ok (.tuple #[.agg #[x, y], tmps.getD u undef]) w := by
  rw [results_cell_tmp hr, hp]
  simp only [asAddr, Sem.run_pure, Result.andThen_ok]
  rw [run_loadVar_row w b _ _ _ _ _ h Tryz.underlying27 rfl (by rw [sizeRec8]; rfl)]
  rfl
theorem ret_msg2 {fn : Func} {p u : Tmp} (hr : fn.results = #[.cell p 24, .tmp u]) (tmps : Array Value) (w : World) (b : Nat) (m : PM) (hp : tmps.getD p undef = .pointer (some ⟨b, 0, none⟩)) (h : m.at w b) :
    (results fn tmps).run Tryz.prog w = .ok (.tuple #[m.val, tmps.getD u undef]) w := by
  rw [results_cell_tmp hr, hp]
  simp only [asAddr, Sem.run_pure, Result.andThen_ok]
  rw [run_loadVar_row w b _ _ _ _ _ h Tryz.underlying24 rfl (by rw [sizeMsg]; rfl)]
  rfl
/-- An entry is read. -/
def RecPost (w0 w : World) (b : Nat) (s : RS) (e : Ending) (w' : World) : Prop := ∃ x : Rec, x = (rdRec s).1 ∧ e = .returned (.agg #[.int .i64 x.t, .string ⟨x.d.toArray⟩]) ∧ RA w0 w' b (rdRec s).2 ∧ Only b w w'
set_option maxHeartbeats 1000000 in
theorem readRec_k {w0 w : World} {b : Nat} {s : RS} (h : RA w0 w b s) (hg : Good w0) (hl : s.r.length ≤ 4000000) : Calls Tryz.prog 20 #[.pointer (some ⟨b, 0, none⟩)] w fun e w' => RecPost w0 w b s e w' := by
  obtain ⟨W1, hW1⟩ : ∃ W1, W1 = w.alloc (.cells #[.int .i64 0, .string ⟨#[]⟩] 27) := ⟨_, rfl⟩
  have hb1 : Below w.heap.size w W1 := by rw [hW1]; exact below_new w _
  have hx1 : W1.heap[w.heap.size]? = some (.cells #[.int .i64 0, .string ⟨#[]⟩] 27 (0, 0)) := by rw [hW1]; exact box_new w _
  have hbl : b < w.heap.size := h.rd.lt
  have h1 := h.on hb1
  have Q1 := Lib.hid (ra_int h1 hg hl)
  have Q2 := Lib.hid (fun (wx : World) (hh : RA w0 wx b (rdI s).2 ∧ Only b W1 wx) => (ra_text hh.1 hg (by have := rdI_le s; omega)).mono (R' := fun e w' => e = .returned (.string ⟨(rdT (rdI s).2).1.toArray⟩) ∧ (w'.cell? ⟨w.heap.size, 0, none⟩ = some (.int .i64 0) ∧ w'.cell? ⟨w.heap.size, 1, none⟩ = some (.string ⟨#[]⟩) ∧ (∀ o, w'.frozen? ⟨w.heap.size, o, none⟩ = false)) ∧ Hid (RA w0 w' b (rdT (rdI s).2).2 ∧ Only b W1 w')) (fun e w' hq => by
    have hk := (only_kept hh.2).trans (only_kept hq.2.2) (fun _ _ e => e)
    have hx := hk.heap hx1 (fun e => by have e : w.heap.size = b := e; omega)
    exact ⟨hq.1, ⟨by rw [Lib.cell_of_heap hx]; rfl, by rw [Lib.cell_of_heap hx]; rfl, fun o => Lib.frozen_of_heap hx o⟩, Lib.hid ⟨hq.2.1, hh.2.trans hq.2.2⟩⟩))
  have HX := Lib.hid hx1
  have HB1 := Lib.hid hb1
  have HBL := Lib.hid hbl
  have HH := Lib.hid h
  clear h1 hx1 hb1 hbl h hg hl
  go_enter Tryz.func20, Tryz.ntmps20
  go_upto_region 1 with fail
  rw [← hW1]
  clear hW1
  go_wp2_with (first | ((with_reducible refine Q1.out.mono ?_); rintro e w2 ⟨rfl, g2⟩; have H2 := Lib.hid g2; clear g2) | ((with_reducible refine (Q2.out _ H2.out).mono ?_); rintro e w3 ⟨rfl, ⟨c0, c1, cf⟩, H3⟩))
  (try simp only [Exit.inBlock, Exit.then])
  have hk3 := only_kept H3.out.2
  have hx3 := hk3.heap HX.out (fun e => by have e : w.heap.size = b := e; have := HBL.out; omega)
  refine bodyPost_ret (ret_rec rfl _ _ w.heap.size _ _ rfl (box_set (box_set hx3 0 _) 1 _)) rfl ?_
  have hkk : Kept (fun k => k = w.heap.size) w3 ((w3.setCell ⟨w.heap.size, 0, none⟩ (.int .i64 (rdI s).1)).setCell ⟨w.heap.size, 1, none⟩ (.string ⟨(rdT (rdI s).2).1.toArray⟩)) := (Kept.set _ _ _ _).trans (Kept.set _ _ _ _) (fun _ _ e => e)
  refine ⟨(rdRec s).1, rfl, rfl, H3.out.1.far hkk (fun k e => by rw [e]; exact HH.out.low.size) (fun e => by have e : b = w.heap.size := e; have := HBL.out; omega), ?_⟩
  have hk := ((Kept.below (S := fun k => k = b) HB1.out).trans hk3 (fun _ _ e => e)).trans (S := fun k => k = b) (S' := fun k => k = w.heap.size) hkk (fun k hk e => by omega)
  exact ⟨hk.os, hk.tape, hk.output, hk.size, fun k hk' hn => hk.block k hk' (fun e => hn (by rw [e]))⟩
end Go.Proofs.YtkmojcpiadpbaaaGreatDoor
