/-
  disk.settle: a file made durable, and none of its sectors pending any more.
-/
import Derived.Test.YtninopllfbiccaaDoorDDel2
namespace Go.Proofs.YtninopllfbiccaaDoor
set_option maxRecDepth 100000
open Go Go.RowKit Go.Maps Dk

/-- What a method leaves, told with a disk's parts. -/
theorem DiskIn.of {w w' : World} {d bm : Nat} {blk' : Nat → Nat} {own own' : Nat → Nat → Prop} {qv kv qv' kv' : Value} {X' : D} {S : Nat → Prop} (hS : ∀ k, InD d bm own qv kv k → S k) (h : DiskAt w' d bm blk' own' qv' kv' X')
    (h1 : ∀ i, i < 16 → ∀ k, own' i k → own i k ∨ w.heap.size ≤ k) (h2 : ∀ k, qv'.ownBlock = some k → qv.ownBlock = some k ∨ w.heap.size ≤ k) (h3 : ∀ k, kv'.ownBlock = some k → kv.ownBlock = some k ∨ w.heap.size ≤ k) : DiskIn w' d (After S w) X' := by
  refine ⟨bm, blk', own', qv', kv', h, fun k hin => ?_⟩
  rcases hin with e | e | e | e | ⟨i, hi, e⟩
  · exact Or.inl (hS k (Or.inl e))
  · exact Or.inl (hS k (Or.inr (Or.inl e)))
  · rcases h2 k e with e | e
    · exact Or.inl (hS k (Or.inr (Or.inr (Or.inl e))))
    · exact Or.inr e
  · rcases h3 k e with e | e
    · exact Or.inl (hS k (Or.inr (Or.inr (Or.inr (Or.inl e)))))
    · exact Or.inr e
  · rcases h1 i hi k e with e | e
    · exact Or.inl (hS k (Or.inr (Or.inr (Or.inr (Or.inr ⟨i, hi, e⟩)))))
    · exact Or.inr e

set_option maxHeartbeats 1000000 in
set_option maxRecDepth 100000 in
theorem settle_at (d bm : Nat) (blk : Nat → Nat) (own : Nat → Nat → Prop) (qv kv : Value) (X : D) (f : Nat) (hf : f < 16) (w : World) (h : DiskAt w d bm blk own qv kv X) :
    Calls Tryd.prog 55 #[.pointer (some ⟨d, 0, none⟩), .int .i64 f] w fun e w' => e = .returned (.tuple #[]) ∧ ∃ own' qv', DiskAt w' d bm blk own' qv' kv (X.settle f) ∧ (∀ i, i < 16 → ∀ k, own' i k → own i k ∨ w.heap.size ≤ k) ∧ qv'.ownBlock = qv.ownBlock ∧
      Kept (fun k => k = d ∨ own f k ∨ qv.ownBlock = some k) w w' := by
  obtain ⟨W0, hW0⟩ : ∃ W0, W0 = w.alloc (.cells #[.int .i64 (f : Int)] 3) := ⟨_, rfl⟩
  have hal : Kept (fun _ => False) w W0 := by rw [hW0]; exact Kept.alloc _ _ _
  have hal2 := hal.trans (Kept.drew (fun _ => False) W0) (fun _ _ e => e)
  have h0 := h.kept hal (fun _ _ e => e)
  have h1 := h.kept hal2 (fun _ _ e => e)
  have hsz0 : W0.heap.size = w.heap.size + 1 := by rw [hW0]; simp
  have k0 := h0.c0
  have kb : W0.cell? ⟨w.heap.size, 0, none⟩ = some (.int .i64 (f : Int)) := by rw [hW0, Lib.cell_of_heap (heap_alloc_new w _)]; rfl
  have hlk : (Instr.lookup 57 (.map (some bm)) (.int .i64 (f : Int)) false).run Tryd.prog W0.drew = .ok (.pointer (some ⟨blk f, 0, none⟩)) W0.drew := h1.files.look1 f hf
  obtain ⟨nv, dv, mb, hFA, hFS⟩ := h1.file f hf
  obtain ⟨qa, qc, rfl, _⟩ := own_shape h.queue
  have q := (fsettle_c (blk f) nv dv mb (X.file f) W0.drew hFA (h.inv.file f hf)).mono (R' := fun e w1 => e = .returned (.tuple #[]) ∧ (w1.cell? ⟨d, 1, none⟩ = some (.slice qa X.queue.length qc) ∧ w1.frozen? ⟨d, 1, none⟩ = false ∧ w1.cell? ⟨w.heap.size, 0, none⟩ = some (.int .i64 (f : Int))) ∧
      Hid (FilesIn w1 blk (ownUp own f W0.drew.heap.size w1.heap.size) (upd X.file f (X.file f).settle) ∧ Kept (own f) W0.drew w1)) (by
    rintro e w1 ⟨rfl, dv', mb', hF, hk, hb, hm⟩
    have hT : ∀ k, (k = blk f ∨ dv.ownBlock = some k) → own f k := fun k e => hFS k (by rcases e with e | e; exact Or.inl e; exact Or.inr (Or.inr (Or.inr e)))
    have hst := h1.filesIn.step hf hk hT (f := (X.file f).settle) ⟨nv, dv', mb', hF, fun x hin => by
      rcases hin with hx | hx | hx | hx
      · exact Or.inl (hFS x (Or.inl hx))
      · exact Or.inr (by omega)
      · exact Or.inl (hFS x (Or.inr (Or.inr (Or.inl hx))))
      · rcases hb with hb | ⟨y, hb, hy⟩
        · exact Or.inl (hFS x (Or.inr (Or.inr (Or.inr (by rw [← hb]; exact hx)))))
        · rw [hb] at hx
          injection hx with hx
          exact Or.inr (by rw [← hx]; exact hy)⟩
    have hk' := hk.mono (S' := own f) (fun k _ e => hT k e)
    have hd := hk'.heap h1.cell (fun e => (h.ownNe f hf d e).1 rfl)
    refine ⟨rfl, ⟨by rw [Lib.cell_of_heap hd]; rfl, Lib.frozen_of_heap hd 1, ?_⟩, hst, hk'⟩
    exact hk'.cell (show W0.drew.cell? _ = _ from kb) (fun e => by have := h.ownLt f hf _ e; simp at this))
  have H := Lib.hid h
  have H1 := Lib.hid h1
  have Q := Lib.hid q
  have HW := Lib.hid hW0
  have HA2 := Lib.hid hal2
  have HSZ := Lib.hid hsz0
  clear h hal hal2 h0 h1 hFA hFS q hW0 hsz0
  go_enter Tryd.func55, Tryd.ntmps55
  go_upto_region 1 with fail
  rw [← HW.out]
  go_region_law (go_simp; go_at_call 62; refine Q.out.mono ?_; rintro e w1 ⟨rfl, ⟨j1, z1, jb⟩, HP⟩)
  all_goals
    obtain ⟨hFI, hKf⟩ := HP.out
    have hk01 : Kept (own f) w w1 := (HA2.out.mono (S' := own f) (fun _ _ e => e.elim)).trans hKf (fun _ _ e => e)
    have hown1 := own_kept H.out.queue hk01 (fun k e ho => (H.out.ownNe f hf k ho).2.2.1 e)
    have hd1 := hk01.heap H.out.cell (fun e => (H.out.ownNe f hf d e).1 rfl)
    have hqn : (Value.slice qa X.queue.length qc).ownBlock ≠ some w.heap.size := fun e => by have := own_lt H.out.queue e; omega
    have q2 := (del_c f w.heap.size _ X.queue w1 hown1 jb hqn).mono (R' := fun e w2 => ∃ a' n' c', e = .returned (.slice a' n' c') ∧ (w2.cell? ⟨d, 1, none⟩ = some (.slice qa X.queue.length qc) ∧ w2.frozen? ⟨d, 1, none⟩ = false) ∧
        Hid (w2.ownsRow 0 84 2 (.slice a' n' c') (noF f X.queue).length (secsV (noF f X.queue)) ∧ (Value.slice a' n' c').ownBlock = (Value.slice qa X.queue.length qc).ownBlock ∧ Kept (fun k => (Value.slice qa X.queue.length qc).ownBlock = some k) w1 w2)) (by
      rintro e w2 ⟨v', rfl, ho, hb, hk⟩
      obtain ⟨a', c', rfl, _⟩ := own_shape ho
      have hd2 := hk.heap hd1 (fun e => H.out.apart.2.1 e)
      exact ⟨a', _, c', rfl, ⟨by rw [Lib.cell_of_heap hd2]; rfl, Lib.frozen_of_heap hd2 1⟩, ho, hb, hk⟩)
    have Q2 := Lib.hid q2
    have HFI := Lib.hid hFI
    have HK1 := Lib.hid hk01
    have HD1 := Lib.hid hd1
    clear hFI hKf hk01 hown1 hqn q2 hd1
    go_wp2_with (go_at_call 63; refine Q2.out.mono ?_; rintro e w2 ⟨a', n', c', rfl, ⟨j2, z2⟩, HP2⟩)
    go_end0
    obtain ⟨ho, hb, hk⟩ := HP2.out
    have hk3 := Kept.set d 1 w2 (.slice a' n' c')
    obtain ⟨b1, b2, b3, b4, b5, b6⟩ := H.out.apart
    have hd2 := hk.heap HD1.out b2
    have hsw : w.heap.size ≤ W0.drew.heap.size := HA2.out.size
    have hall : Kept (fun k => k = d ∨ own f k ∨ (Value.slice qa X.queue.length qc).ownBlock = some k) w (w2.setCell ⟨d, 1, none⟩ (.slice a' n' c')) :=
      ((HK1.out.mono (S' := fun k => k = d ∨ own f k ∨ (Value.slice qa X.queue.length qc).ownBlock = some k) (fun k _ e => Or.inr (Or.inl e))).trans hk (fun k _ e => Or.inr (Or.inr e))).trans hk3 (fun k _ e => Or.inl e)
    have hnn : ∀ i, i < 16 → ∀ k, ownUp own f W0.drew.heap.size w1.heap.size i k → k ≠ d ∧ k ≠ bm ∧ (Value.slice qa X.queue.length qc).ownBlock ≠ some k ∧ kv.ownBlock ≠ some k := fun i hi k hx => by
      rcases ownUp_or hx with h1 | h1
      · exact H.out.ownNe i hi k h1
      · have g1 := H.out.lt (Or.inl rfl)
        have g2 := H.out.lt (Or.inr (Or.inl rfl))
        exact ⟨by omega, by omega, fun e => by have := own_lt H.out.queue e; omega, fun e => by have := own_lt H.out.keep e; omega⟩
    have hX : X.settle f = ⟨upd X.file f (X.file f).settle, noF f X.queue, X.down, X.lost, X.left, X.keep⟩ := rfl
    refine ⟨rfl, ownUp own f W0.drew.heap.size w1.heap.size, .slice a' n' c', { cell := ?_, files := ?_, queue := ?_, keep := ?_, file := fun i hi => ?_, inv := D.settle_inv H.out.inv hf, lost := H.out.lost, left := H.out.left, keepIn := H.out.keepIn, keepLen := H.out.keepLen, ownLt := fun i hi k hx => ?_, ownNe := fun i hi k hx => ?_, ownOne := HFI.out.one, apart := ?_ }, fun i hi k hx => ?_, hb, hall⟩
    · exact cells6_set hd2 1 (.slice a' n' c') (by omega)
    · exact H.out.files.kept hall (fun e => by
        rcases e with e | e | e
        · exact b1 e.symm
        · exact (H.out.ownNe f hf bm e).2.1 rfl
        · exact b3 e)
    · exact own_kept ho hk3 (fun k e e' => by rw [hb] at e; exact b2 (by rw [e, e']))
    · exact own_kept H.out.keep hall (fun k e e' => by
        rcases e' with e' | e' | e'
        · exact b4 (by rw [e, e'])
        · exact (H.out.ownNe f hf k e').2.2.2 e
        · exact b6 k e' e)
    · refine (HFI.out.file i hi).kept ((hk.mono (S' := fun k => k = d ∨ (Value.slice qa X.queue.length qc).ownBlock = some k) (fun _ _ e => Or.inr e)).trans hk3 (fun _ _ e => Or.inl e)) (fun k hx e => ?_)
      have hn := hnn i hi k hx
      rcases e with e | e
      · exact hn.1 e
      · exact hn.2.2.1 e
    · exact Nat.lt_of_lt_of_le (HFI.out.lt i hi k hx) (Nat.le_trans hk.size hk3.size)
    · have hn := hnn i hi k hx
      exact ⟨hn.1, hn.2.1, by rw [hb]; exact hn.2.2.1, hn.2.2.2⟩
    · exact ⟨b1, by rw [hb]; exact b2, by rw [hb]; exact b3, b4, b5, by rw [hb]; exact b6⟩
    · rcases ownUp_or hx with h1 | h1
      · exact Or.inl h1
      · exact Or.inr (by omega)

theorem settle_c (d : Nat) (S : Nat → Prop) (X : D) (f : Nat) (hf : f < 16) (w : World) (h : DiskIn w d S X) :
    Calls Tryd.prog 55 #[.pointer (some ⟨d, 0, none⟩), .int .i64 f] w fun e w' => e = .returned (.tuple #[]) ∧ DiskIn w' d (After S w) (X.settle f) ∧ Kept S w w' := by
  obtain ⟨bm, blk, own, qv, kv, h, hS⟩ := h
  refine (settle_at d bm blk own qv kv X f hf w h).mono ?_
  rintro e w' ⟨rfl, own', qv', hd, ho, hq, hk⟩
  refine ⟨rfl, DiskIn.of hS hd ho (fun k e => Or.inl (by rw [← hq]; exact e)) (fun k e => Or.inl e), hk.mono (fun k _ e => ?_)⟩
  rcases e with e | e | e
  · exact hS k (Or.inl e)
  · exact hS k (Or.inr (Or.inr (Or.inr (Or.inr ⟨f, hf, e⟩))))
  · exact hS k (Or.inr (Or.inr (Or.inl e)))
end Go.Proofs.YtninopllfbiccaaDoor
