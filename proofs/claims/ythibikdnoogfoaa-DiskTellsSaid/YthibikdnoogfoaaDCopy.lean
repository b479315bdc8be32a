/-
  disk.Copy.
-/
import Derived.Test.YthibikdnoogfoaaDNew
import Derived.Test.YthibikdnoogfoaaDFClone
namespace Go.Proofs.Ythibikdnoogfoaa
open Go Go.RowKit Go.Maps Dk

/-- The files that were copied so far, each in blocks of its own from block B on. -/
structure FilesDone (w : World) (B : Nat) (blk : Nat → Nat) (own : Nat → Nat → Prop) (g : Nat → F) (left : Nat → Bool) : Prop where
  file : ∀ i, i < 16 → left i = false → FileIn w (blk i) (own i) (g i)
  lt : ∀ i, i < 16 → ∀ x, own i x → x < w.heap.size ∧ B ≤ x
  one : ∀ i j, i < 16 → j < 16 → i ≠ j → ∀ x, own i x → ¬ own j x
theorem FilesDone.kept {w w' : World} {T : Nat → Prop} {B : Nat} {blk : Nat → Nat} {own : Nat → Nat → Prop} {g : Nat → F} {left : Nat → Bool} (h : FilesDone w B blk own g left) (hk : Kept T w w') (hT : ∀ x, B ≤ x → ¬ T x) : FilesDone w' B blk own g left :=
  ⟨fun i hi hl => (h.file i hi hl).kept hk (fun x hx => hT x (h.lt i hi x hx).2), fun i hi x hx => ⟨Nat.lt_of_lt_of_le (h.lt i hi x hx).1 hk.size, (h.lt i hi x hx).2⟩, h.one⟩
theorem secsV_one (q : List (Nat × Nat)) : ∀ u ∈ secsV q, u.oneCell' = true := by
  intro u hu
  unfold secsV at hu
  obtain ⟨p, _, hp⟩ := List.mem_flatMap.1 hu
  simp only [List.mem_cons, List.not_mem_nil, or_false] at hp
  rcases hp with rfl | rfl <;> rfl

set_option maxHeartbeats 2000000 in
set_option maxRecDepth 100000 in
theorem copy_c (d : Nat) (S : Nat → Prop) (X : D) (w : World) (h : DiskIn w d S X) : Calls Try.prog 18 #[.pointer (some ⟨d, 0, none⟩)] w fun e w' => ∃ c, e = .returned (.pointer (some ⟨c, 0, none⟩)) ∧ DiskIn w' c (fun k => w.heap.size ≤ k) X ∧ Below w.heap.size w w' := by
  obtain ⟨bm, blk, own, qv, kv, h, hS⟩ := h
  obtain ⟨qa, qc, rfl, _⟩ := own_shape h.queue
  obtain ⟨ka, kc, rfl, _⟩ := own_shape h.keep
  have k0 := h.c0
  have k1 := h.c1
  have k2 := h.c2
  have k3 := h.c3
  have k4 := h.c4
  have k5 := h.c5
  obtain ⟨QL, hQL⟩ : ∃ QL, QL = X.queue.length := ⟨_, rfl⟩
  obtain ⟨KL, hKL⟩ : ∃ KL, KL = X.keep.length := ⟨_, rfl⟩
  rw [← hQL] at k1
  rw [← hKL] at k5
  obtain ⟨W1, hW1⟩ : ∃ W1, W1 = w.alloc (.cells #[.map (some bm), .slice qa QL qc, .bool X.down, .int .i64 (X.lost : Int), .int .i64 (X.left : Int), .slice ka KL kc] 55) := ⟨_, rfl⟩
  have hsz1 : W1.heap.size = w.heap.size + 1 := by rw [hW1]; simp
  have hb1 : Below w.heap.size w W1 := by rw [hW1]; exact (Below.refl _ w).alloc (Nat.le_refl _) _
  have hd1 : W1.heap[w.heap.size]? = some (.cells #[.map (some bm), .slice qa QL qc, .bool X.down, .int .i64 (X.lost : Int), .int .i64 (X.left : Int), .slice ka KL kc] 55 (0, 0)) := by rw [hW1]; exact heap_alloc_new w _
  have h1 := h.kept (Kept.below (S := fun _ => False) hb1) (fun _ _ e => e)
  obtain ⟨Dm, ⟨es, clock, hes, hfit, hle, hDm⟩, hM2, hM3⟩ := h1.files
  obtain ⟨W3, hW3⟩ : ∃ W3, W3 = (W1.alloc (.map es clock)).setCell ⟨w.heap.size, 0, none⟩ (.map (some (w.heap.size + 1))) := ⟨_, rfl⟩
  have hkA := Kept.alloc (fun k => k = w.heap.size) W1 (.map es clock)
  have hk13 : Kept (fun k => k = w.heap.size) W1 W3 := by rw [hW3]; exact hkA.trans (Kept.set w.heap.size 0 _ _) (fun _ _ e => e)
  have hsz3 : W3.heap.size = w.heap.size + 2 := by rw [hW3]; simp [World.setCell, hsz1]
  have hd3 : W3.heap[w.heap.size]? = some (.cells #[.map (some (w.heap.size + 1)), .slice qa QL qc, .bool X.down, .int .i64 (X.lost : Int), .int .i64 (X.left : Int), .slice ka KL kc] 55 (0, 0)) := by
    rw [hW3]
    exact cells6_set ((Kept.alloc (fun _ => False) W1 (.map es clock)).heap hd1 (fun e => e)) 0 _ (by omega)
  have hb3 : Below w.heap.size w W3 := hb1.trans (hk13.toBelow (by omega) (fun k e => by omega))
  have h3 := h.kept (Kept.below (S := fun _ => False) hb3) (fun _ _ e => e)
  have hbm : bm < w.heap.size := h.lt (Or.inr (Or.inl rfl))
  have hown3 : W3.ownsMap Try.prog 3 ptrElem bm 16 Dm := ownsMap_kept ⟨es, clock, hes, hfit, hle, hDm⟩ hk13 (fun e => by omega)
  have hcl3 : FilesN W3 (w.heap.size + 1) blk 16 := by
    refine ⟨Dm, ⟨es, clock, ?_, hfit, hle, hDm⟩, hM2, hM3⟩
    rw [hW3]
    have e1 := heap_alloc_new W1 (.map es clock)
    rw [hsz1] at e1
    exact (Kept.set w.heap.size 0 _ (.map (some (w.heap.size + 1)))).heap e1 (fun e => by omega)
  obtain ⟨W4, hrun, hrg, hg4, hsz4⟩ := hown3.range lawI Try.underlying52
  have hk34 : Kept (fun _ => False) W3 W4 := Kept.grown hg4 (fun _ e => by cases e)
  have c0' : W3.cell? ⟨d, 0, none⟩ = some (.map (some bm)) := h3.c0
  have hrun0 := hrun
  rw [hsz3] at hrun0
  have q := (fmclone_c bm es clock W1 hes).mono (R' := fun e w2 => e = .returned (.map (some (w.heap.size + 1))) ∧ (w2.cell? ⟨d, 0, none⟩ = some (.map (some bm)) ∧ w2.cell? ⟨w.heap.size, 0, none⟩ = some (.map (some bm)) ∧ w2.frozen? ⟨w.heap.size, 0, none⟩ = false) ∧
      (Instr.range 52 (.map (some bm))).run Try.prog (w2.setCell ⟨w.heap.size, 0, none⟩ (.map (some (w.heap.size + 1)))) = .ok (.pointer (some ⟨w.heap.size + 2, 0, none⟩)) W4) (by
    rintro e w2 ⟨rfl, rfl⟩
    have hk := Kept.alloc (fun _ => False) W1 (.map es clock)
    have hd2 := hk.heap hd1 (fun e => e)
    exact ⟨by rw [hsz1], ⟨hk.cell h1.c0 (fun e => e), by rw [Lib.cell_of_heap hd2]; rfl, Lib.frozen_of_heap hd2 0⟩, by rw [← hW3]; exact hrun0⟩)
  have H := Lib.hid h
  have HQL := Lib.hid hQL
  have HKL := Lib.hid hKL
  have Q := Lib.hid q
  have HW1 := Lib.hid hW1
  have HW3 := Lib.hid hW3
  have HM2 := Lib.hid hM2
  have HM3 := Lib.hid hM3
  have HRG := Lib.hid hrg
  have HD4 := Lib.hid (hk34.heap hd3 (fun e => e))
  have HC4 := Lib.hid (hcl3.kept hk34 (fun e => e))
  have HB4 := Lib.hid (hb3.trans (hk34.toBelow (by omega) (fun _ e => e.elim)))
  rw [hsz3] at hrg hsz4
  have HRG' := Lib.hid hrg
  have HS4 := Lib.hid hsz4
  have hdl : d < w.heap.size := h.lt (Or.inl rfl)
  have hdn : ¬ d = w.heap.size := by omega
  have hdn' : ¬ w.heap.size = d := by omega
  clear hrun hrun0 h h1 hb1 hd1 hes hfit hle hDm hM2 hM3 q hW1 hW3 hkA hk13 hsz3 hd3 hb3 h3 hown3 hcl3 hrg hg4 hk34 hS hQL hKL hsz1 hsz4 HRG
  go_enter Try.func18, Try.ntmps18
  go_wp2_with (go_at_call 41; rw [← HW1.out]; refine Q.out.mono ?_; rintro e w2 ⟨rfl, ⟨j0, j1, z0⟩, hrun⟩)
  clear k0 k1 k2 k3 k4 k5 j0 j1 z0 hrun
  go_loopw [4] (fun _ wr => ∃ (left : Lit → Bool) (cnt : Nat) (blk' : Nat → Nat) (own' : Nat → Nat → Prop), wr.ranges Try.prog 3 ptrElem bm (w.heap.size + 2) 16 Dm left cnt ∧
      wr.heap[w.heap.size]? = some (.cells #[.map (some (w.heap.size + 1)), .slice qa QL qc, .bool X.down, .int .i64 (X.lost : Int), .int .i64 (X.left : Int), .slice ka KL kc] 55 (0, 0)) ∧
      FilesN wr (w.heap.size + 1) blk' 16 ∧ FilesDone wr (w.heap.size + 3) blk' own' X.file (fun i => left (.int .i64 (i : Int))) ∧ Below w.heap.size w wr) (fun _ wr => wr.rangeLeft bm (w.heap.size + 2))
  case atStart =>
    exact ⟨_, _, blk, fun _ _ => False, HRG'.out, HD4.out, HC4.out, ⟨fun i hi hl => (by rw [(HM3.out i hi).1] at hl; cases hl), fun i hi x hx => hx.elim, fun i j _ _ _ x hx => hx.elim⟩, HB4.out⟩
  case round =>
    obtain ⟨left, cnt, blk', own', hrg, hc, hN, hF, hb⟩ := hrel
    have hX := H.out.kept (Kept.below (S := fun _ => False) hb) (fun _ _ e => e)
    rcases hrg.next lawI 0 with ⟨_, hl0, hnx⟩ | ⟨key, v, kl, y, wx, cnt', hkey, hlk, hRv, hat, hnx, hrg', hlt, hgx, hszx, hen⟩
    · have hsq : SrcV wr 2 (.slice qa QL qc) QL (secsV X.queue) := by have := SrcV.own hX.queue; rw [← HQL.out] at this; exact this
      have hqlen := queue_len H.out.inv
      have c1 : wr.cell? ⟨d, 1, none⟩ = some (.slice qa QL qc) := by rw [HQL.out]; exact hX.c1
      have q1 := (sclone_c (.slice qa QL qc) QL (secsV X.queue) wr hsq (secsV_one _) (by rw [HQL.out]; omega) (by rw [HQL.out]; omega)).mono (R' := fun e w1 => ∃ a' n' c', e = .returned (.slice a' n' c') ∧ (w1.cell? ⟨w.heap.size, 1, none⟩ = some (.slice qa QL qc) ∧ w1.frozen? ⟨w.heap.size, 1, none⟩ = false) ∧
          Hid (w1.ownsRow wr.heap.size 74 2 (.slice a' n' c') QL (secsV X.queue) ∧ Below wr.heap.size wr w1)) (by
        rintro e w1 ⟨v', rfl, ho, hb1⟩
        obtain ⟨a', c', rfl, _⟩ := own_shape (own_base ho)
        have hc1 := (Kept.below (S := fun _ => False) hb1).heap hc (fun e => e)
        exact ⟨a', _, c', rfl, ⟨by rw [Lib.cell_of_heap hc1]; rfl, Lib.frozen_of_heap hc1 1⟩, ho, hb1⟩)
      have q2 : ∀ (w1 : World) (v' : Value), Below wr.heap.size wr w1 → Calls Try.prog 44 #[.slice ka KL kc] (w1.setCell ⟨w.heap.size, 1, none⟩ v') fun e w2 => ∃ a' n' c', e = .returned (.slice a' n' c') ∧ (w2.cell? ⟨w.heap.size, 5, none⟩ = some (.slice ka KL kc) ∧ w2.frozen? ⟨w.heap.size, 5, none⟩ = false) ∧
          Hid (w2.ownsRow w1.heap.size 3 1 (.slice a' n' c') KL (intsV X.keep) ∧ Below w1.heap.size (w1.setCell ⟨w.heap.size, 1, none⟩ v') w2 ∧ w2.heap[w.heap.size]? = some (.cells #[.map (some (w.heap.size + 1)), v', .bool X.down, .int .i64 (X.lost : Int), .int .i64 (X.left : Int), .slice ka KL kc] 55 (0, 0))) := by
        intro w1 v' hb1
        have hk1 : Kept (fun k => k = w.heap.size) wr (w1.setCell ⟨w.heap.size, 1, none⟩ v') := (Kept.below hb1).trans (Kept.set w.heap.size 1 w1 v') (fun _ _ e => e)
        have hX1 := H.out.kept (Kept.below (S := fun _ => False) (hb.trans (hk1.toBelow hb.size (fun k e => by omega)))) (fun _ _ e => e)
        have hsk : SrcV (w1.setCell ⟨w.heap.size, 1, none⟩ v') 1 (.slice ka KL kc) KL (intsV X.keep) := by have := SrcV.own hX1.keep; rw [← HKL.out] at this; exact this
        have hkl := H.out.keepLen
        refine (iclone_c (.slice ka KL kc) KL (intsV X.keep) _ hsk (intsV_one _) (by rw [HKL.out]; omega) (by rw [HKL.out]; omega)).mono ?_
        rintro e w2 ⟨v2, rfl, ho, hb2⟩
        obtain ⟨a', c', rfl, _⟩ := own_shape (own_base ho)
        have hsz : (w1.setCell ⟨w.heap.size, 1, none⟩ v').heap.size = w1.heap.size := by simp [World.setCell]
        rw [hsz] at ho hb2
        have hc1 := cells6_set ((Kept.below (S := fun _ => False) hb1).heap hc (fun e => e)) 1 v' (by omega)
        have hc2 : w2.heap[w.heap.size]? = some (.cells #[.map (some (w.heap.size + 1)), v', .bool X.down, .int .i64 (X.lost : Int), .int .i64 (X.left : Int), .slice ka KL kc] 55 (0, 0)) :=
          (hb2.block _ (by have := hb.size; have := hb1.size; have := (Array.getElem?_eq_some_iff.1 hc).1; omega)).trans hc1
        exact ⟨a', _, c', rfl, ⟨by rw [Lib.cell_of_heap hc2]; rfl, Lib.frozen_of_heap hc2 5⟩, ho, hb2, hc2⟩
      have c5 : wr.cell? ⟨d, 5, none⟩ = some (.slice ka KL kc) := by rw [HKL.out]; exact hX.c5
      have q1' := q1.mono (R' := fun e w1 => ∃ a' n' c', e = .returned (.slice a' n' c') ∧ (w1.cell? ⟨w.heap.size, 1, none⟩ = some (.slice qa QL qc) ∧ w1.frozen? ⟨w.heap.size, 1, none⟩ = false ∧ w1.cell? ⟨d, 5, none⟩ = some (.slice ka KL kc)) ∧
          Hid (w1.ownsRow wr.heap.size 74 2 (.slice a' n' c') QL (secsV X.queue) ∧ Below wr.heap.size wr w1)) (by
        rintro e w1 ⟨a', n', c', rfl, ⟨g1, g2⟩, hp⟩
        exact ⟨a', n', c', rfl, ⟨g1, g2, (Kept.below (S := fun _ => False) hp.out.2).cell c5 (fun e => e)⟩, hp⟩)
      have hFD : ∀ i, i < 16 → FileIn wr (blk' i) (own' i) (X.file i) := fun i hi => hF.file i hi (hl0 _)
      have hcl := (Array.getElem?_eq_some_iff.1 hc).1
      have HC := Lib.hid hc
      have HN := Lib.hid hN
      have HF := Lib.hid hF
      have HFD := Lib.hid hFD
      have HB := Lib.hid hb
      have Q1 := Lib.hid q1'
      have Q2 := Lib.hid q2
      clear hrg hc hN hF hb hX hsq hqlen q1 q1' q2 hFD hl0
      go_wp2_with (first
        | (go_at_call 43; refine Q1.out.mono ?_; rintro e w1 ⟨a1, n1, c1', rfl, ⟨j1, z1, j5⟩, HP1⟩)
        | (go_at_call 44; refine (Q2.out _ _ HP1.out.2).mono ?_; rintro e w2 ⟨a2, n2, c2', rfl, ⟨l5, y5⟩, HP2⟩))
      go_ret
      obtain ⟨o1, b1⟩ := HP1.out
      obtain ⟨o2, b2, hc2⟩ := HP2.out
      have hs1 := b1.size
      have hsz : (w1.setCell ⟨w.heap.size, 1, none⟩ (.slice a1 n1 c1')).heap.size = w1.heap.size := by simp [World.setCell]
      have hs2 : w1.heap.size ≤ w2.heap.size := by have := b2.size; omega
      have hkB : Kept (fun k => k = w.heap.size) w1 (w2.setCell ⟨w.heap.size, 5, none⟩ (.slice a2 n2 c2')) := ((Kept.set w.heap.size 1 w1 _).trans (Kept.below (S := fun k => k = w.heap.size) (by rw [hsz]; exact b2)) (fun _ _ e => e)).trans (Kept.set w.heap.size 5 w2 _) (fun _ _ e => e)
      have hkA : Kept (fun k => k = w.heap.size) wr (w2.setCell ⟨w.heap.size, 5, none⟩ (.slice a2 n2 c2')) := (Kept.below b1).trans hkB (fun _ _ e => e)
      have hbl : w.heap.size + 1 < wr.heap.size := by obtain ⟨D, g, _⟩ := HN.out; exact g.lt
      have hq1 := fun k (e : (Value.slice a1 n1 c1').ownBlock = some k) => o1.lt k e
      have hq2 := fun k (e : (Value.slice a2 n2 c2').ownBlock = some k) => o2.lt k e
      have hsw := HB.out.size
      refine ⟨w.heap.size, rfl, ⟨w.heap.size + 1, blk', own', .slice a1 n1 c1', .slice a2 n2 c2', { cell := cells6_set hc2 5 _ (by omega), files := FilesN.kept HN.out hkA (by omega), queue := ?_, keep := ?_, file := fun i hi => (HFD.out i hi).kept hkA (fun x hx e => by have := (HF.out.lt i hi x hx).2; omega), inv := H.out.inv, lost := H.out.lost, left := H.out.left, keepIn := H.out.keepIn, keepLen := H.out.keepLen, ownLt := fun i hi x hx => Nat.lt_of_lt_of_le (HF.out.lt i hi x hx).1 hkA.size, ownNe := fun i hi x hx => ?_, ownOne := HF.out.one, apart := ?_ }, fun k hin => ?_⟩, HB.out.trans (hkA.toBelow hsw (fun k e => by omega))⟩
      · rw [← HQL.out]
        exact own_kept (own_base o1) hkB (fun k e e' => by have := (hq1 k e).1; omega)
      · rw [← HKL.out]
        exact own_kept (own_base o2) (Kept.set w.heap.size 5 w2 _) (fun k e e' => by have := (hq2 k e).1; omega)
      · have h1 := HF.out.lt i hi x hx
        exact ⟨by omega, by omega, fun e => by have := (hq1 x e).1; omega, fun e => by have := (hq2 x e).1; omega⟩
      · exact ⟨by omega, fun e => by have := (hq1 _ e).1; omega, fun e => by have := (hq1 _ e).1; omega, fun e => by have := (hq2 _ e).1; omega, fun e => by have := (hq2 _ e).1; omega, fun k e e' => by have := (hq1 k e).2; have := (hq2 k e').1; omega⟩
      · rcases hin with e | e | e | e | ⟨i, hi, e⟩
        · omega
        · omega
        · have := (hq1 k e).1; omega
        · have := (hq2 k e).1; omega
        · have := (HF.out.lt i hi k e).2; omega
    · have hhas : Maps.has Dm kl = true := Maps.has_true_of_atKey hat
      obtain ⟨i, hi, rfl⟩ := HM2.out kl hhas
      obtain ⟨x, rfl, e, _⟩ := Maps.keyOf_int_inv Try.underlying3 hkey
      injection e with _ e
      subst e
      have e1 := (HM3.out i hi).2 .nil
      rw [hat .nil] at e1
      obtain ⟨y1, y2⟩ := y
      simp only at e1
      subst e1
      obtain rfl := ptrElem_inv hRv
      have hkx : Kept (fun k => k = w.heap.size + 2) wr wx := Kept.grown hgx (fun k e => by injection e with e; exact e.symm)
      have hrl := hrg'.lt
      have hbx : Below w.heap.size w wx := hb.trans (hkx.toBelow hb.size (fun k e => by omega))
      have hXx := H.out.kept (Kept.below (S := fun _ => False) hbx) (fun _ _ e => e)
      have hcx := hkx.heap hc (by omega)
      have hNx := hN.kept hkx (by omega)
      have hFx := hF.kept hkx (fun x hx e => by omega)
      obtain ⟨nv, dv, mb, hFA, hFS⟩ := hXx.file i hi
      have q := (fclone_c (blk i) nv dv mb (X.file i) wx.drew (hFA.kept (Kept.drew (fun _ => False) wx) (fun _ _ e => e)) (H.out.inv.file i hi).toOk).mono (R' := fun e w2 => ∃ p w3, e = .returned (.pointer (some ⟨p, 0, none⟩)) ∧ w2.cell? ⟨w.heap.size, 0, none⟩ = some (.map (some (w.heap.size + 1))) ∧
          (Instr.mapUpdate 52 (.map (some (w.heap.size + 1))) (.int .i64 i) (.pointer (some ⟨p, 0, none⟩))).run Try.prog w2 = .ok () w3 ∧
          Hid (∃ (blk2 : Nat → Nat) (own2 : Nat → Nat → Prop), w3.ranges Try.prog 3 ptrElem bm (w.heap.size + 2) 16 Dm (fun x => left x && !x.sameKey (.int .i64 (i : Int))) cnt' ∧
            w3.heap[w.heap.size]? = some (.cells #[.map (some (w.heap.size + 1)), .slice qa QL qc, .bool X.down, .int .i64 (X.lost : Int), .int .i64 (X.left : Int), .slice ka KL kc] 55 (0, 0)) ∧
            FilesN w3 (w.heap.size + 1) blk2 16 ∧ FilesDone w3 (w.heap.size + 3) blk2 own2 X.file (fun j => left (.int .i64 (j : Int)) && !(Lit.int .i64 (j : Int)).sameKey (.int .i64 (i : Int))) ∧ Below w.heap.size w w3)) (by
        rintro e w2 ⟨p, nv', dv', mb', rfl, hFA', hb2, hnew⟩
        have hsd : wx.drew.heap.size = wx.heap.size := rfl
        have hk2 : Kept (fun _ => False) wx w2 := (Kept.drew _ wx).trans (Kept.below hb2) (fun _ _ e => e)
        have hc2 := hk2.heap hcx (fun e => e)
        have hN2 := hNx.kept hk2 (fun e => e)
        obtain ⟨w3, hrun, hN3, hg3⟩ := hN2.store i 16 hi (by omega) (Or.inl ⟨rfl, hi⟩) p
        have hk3 : Kept (fun x => x = w.heap.size + 1) w2 w3 := Kept.grown hg3 (fun x e => by injection e with e; exact e.symm)
        have hF3 := (hFx.kept hk2 (fun _ _ e => e)).kept hk3 (fun x hx e => by omega)
        have hFA3 := hFA'.kept hk3 (fun x hin e => by have := hnew x hin; omega)
        refine ⟨p, w3, rfl, by rw [Lib.cell_of_heap hc2]; rfl, hrun, _, fun j x => if j = i then InF p nv' dv' mb' x else own' j x, ranges_kept (ranges_kept hrg' hk2 (fun e => e) (fun e => e)) hk3 (by omega) (by omega), hk3.heap hc2 (by omega), hN3, ⟨fun j hj hl => ?_, fun j hj x hx => ?_, fun a b ha hb' hab x hx hx' => ?_⟩, ?_⟩
        · by_cases e : j = i
          · subst e
            simp only [if_pos]
            exact ⟨_, _, _, hFA3, fun x hx => hx⟩
          · simp only [if_neg e]
            rw [sameInt j i (by omega)] at hl
            have e2 : (j == i) = false := by simp [e]
            rw [e2] at hl
            exact hF3.file j hj (by simpa using hl)
        · by_cases e : j = i
          · subst e
            simp only [if_pos] at hx
            exact ⟨hFA3.lt hx, by have := hnew x hx; omega⟩
          · simp only [if_neg e] at hx
            exact hF3.lt j hj x hx
        · by_cases e : a = i
          · subst e
            simp only [if_pos] at hx
            rw [if_neg (fun e => hab e.symm)] at hx'
            have := (hFx.lt b hb' x hx').1
            have := hnew x hx
            omega
          · rw [if_neg e] at hx
            by_cases e' : b = i
            · subst e'
              simp only [if_pos] at hx'
              have := (hFx.lt a ha x hx).1
              have := hnew x hx'
              omega
            · rw [if_neg e'] at hx'
              exact hF.one a b ha hb' hab x hx hx'
        · exact (hbx.trans (hk2.toBelow hbx.size (fun _ e => e.elim))).trans (hk3.toBelow (Nat.le_trans hbx.size hk2.size) (fun x e => by omega)))
      have cx : wx.cell? ⟨w.heap.size, 0, none⟩ = some (.map (some (w.heap.size + 1))) := by rw [Lib.cell_of_heap hcx]; rfl
      have HG1 := Lib.hid hrg
      have HLT := Lib.hid hlt
      have Q2 := Lib.hid q
      clear q hrg hrg' hc hN hF hb hX hkx hrl hbx hXx hcx hNx hFx hFA hFS hhas hat hRv hkey hlk hlt hgx hszx
      go_wp2_with fail
      go_region_law (go_simp; go_at_call 42; refine Q2.out.mono ?_; rintro e w2 ⟨p, w3, rfl, j0, hrun, HP2⟩)
      all_goals
        go_wp2_with fail
        go_roundw
        case rel =>
          obtain ⟨blk2, own2, h1, h2, h3, h4, h5⟩ := HP2.out
          exact ⟨_, _, blk2, own2, h1, h2, h3, h4, h5⟩
        case measure =>
          obtain ⟨blk2, own2, h1, h2, h3, h4, h5⟩ := HP2.out
          rw [h1.left_eq, HG1.out.left_eq]
          exact HLT.out
end Go.Proofs.Ythibikdnoogfoaa
