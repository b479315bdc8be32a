/-
  disk.Crash.
-/
import Derived.Test.YtninopllfbiccaaDoorDArm
namespace Go.Proofs.YtninopllfbiccaaDoor
set_option maxRecDepth 100000
open Go Go.RowKit Go.Maps Dk

theorem saveAll_snoc (keep : List Int) (p : Nat × Nat) : ∀ (q : List (Nat × Nat)) (i : Nat) (g : Nat → F), saveAll keep (q ++ [p]) i g = if surv keep (i + q.length) then saveAt (saveAll keep q i g) p else saveAll keep q i g
  | [], i, g => rfl
  | a :: q, i, g => by
    show saveAll keep (q ++ [p]) (i + 1) _ = _
    rw [saveAll_snoc keep p q (i + 1)]
    have e : i + 1 + q.length = i + (a :: q).length := by simp; omega
    rw [e]
    rfl
theorem secsV_get (q : List (Nat × Nat)) : ∀ (k : Nat) (p : Nat × Nat), q[k]? = some p → (secsV q)[k * 2]? = some (.int .i64 (p.1 : Int)) ∧ (secsV q)[k * 2 + 1]? = some (.int .i64 (p.2 : Int)) := by
  induction q with
  | nil => intro k p h; simp at h
  | cons a q ih =>
    intro k p h
    have e : secsV (a :: q) = [Value.int .i64 (a.1 : Int), .int .i64 (a.2 : Int)] ++ secsV q := by simp [secsV]
    rw [e]
    cases k with
    | zero =>
      simp at h
      subst h
      exact ⟨rfl, rfl⟩
    | succ k =>
      obtain ⟨h1, h2⟩ := ih k p (by simpa using h)
      refine ⟨?_, ?_⟩
      · rw [List.getElem?_append_right (by simp; omega), ← h1]
        congr 1
        simp
        omega
      · rw [List.getElem?_append_right (by simp; omega), ← h2]
        congr 1
        simp
        omega

/-- A keep: what a crash is given, in memory that the crash does not turn. -/
def KeepAt (w : World) (v : Value) (l : List Int) (T : Nat → Prop) : Prop :=
  ∃ a c, v = .slice a l.length c ∧ (l ≠ [] → ∃ b off, a = some ⟨b, off, none⟩ ∧ ¬ T b ∧ ∀ j x, l[j]? = some x → w.cell? ⟨b, off + j, none⟩ = some (.int .i64 x))

set_option maxHeartbeats 2000000 in
set_option maxRecDepth 100000 in
theorem crash_up (d bm : Nat) (blk : Nat → Nat) (own : Nat → Nat → Prop) (qv kv : Value) (X : D) (v : Value) (l : List Int) (w : World) (h : DiskAt w d bm blk own qv kv X) (hup : X.down = false) (hs : KeepAt w v l (fun k => ∃ i, i < 16 ∧ own i k)) (hl : l.length ≤ 9223372036854775807)
    (hin : ∀ k ∈ l, -9223372036854775808 ≤ k ∧ k ≤ 9223372036854775807) :
    Calls Tryd.prog 25 #[.pointer (some ⟨d, 0, none⟩), v] w fun e w' => e = .returned (.tuple #[]) ∧ ∃ own' kv', DiskAt w' d bm blk own' (.slice none 0 0) kv' (X.crash l) ∧ Kept (fun k => k = d ∨ ∃ i, i < 16 ∧ own i k) w w' ∧
      (∀ i, i < 16 → ∀ k, own' i k → own i k ∨ w.heap.size ≤ k) ∧ ∀ k, kv'.ownBlock = some k → w.heap.size ≤ k := by
  obtain ⟨va, vc, rfl, hsrc⟩ := hs
  obtain ⟨qa, qc, rfl, hqc, hqm, hqn⟩ := own_shape h.queue
  obtain ⟨L, hL⟩ : ∃ L, L = X.queue.length := ⟨_, rfl⟩
  rw [← hL] at h hqc
  have k2 := h.c2
  have k1 := h.c1
  rw [hup] at k2
  have H := Lib.hid h
  have HS := Lib.hid hsrc
  have HL := Lib.hid hL
  have HQN := Lib.hid hqn
  have HIN := Lib.hid hin
  have HUP := Lib.hid hup
  have hLm : L ≤ 9223372036854775807 := by unfold maxLen at hqm; omega
  clear h hsrc hL hqn hin hqm hup
  go_enter Tryd.func25, Tryd.ntmps25
  go_wp2_with fail
  go_loopw [17] (fun v17 wr => ∃ (k : Nat) (own' : Nat → Nat → Prop), k ≤ L ∧ v17 = .int .i64 (k : Int) ∧ FilesIn wr blk own' (saveAll l (X.queue.take k) 0 X.file) ∧ (∀ i, i < 16 → ∀ x, own' i x → own i x ∨ w.heap.size ≤ x) ∧ Kept (fun x => ∃ i, i < 16 ∧ own i x) w wr) (fun v17 _ => L - (intOf v17).toNat)
  case atStart => exact ⟨0, own, Nat.zero_le _, rfl, H.out.filesIn, fun i _ x hx => Or.inl hx, Kept.refl _ _⟩
  case round =>
    obtain ⟨k, own', hk, rfl, hF, hO, hK⟩ := hrel
    have hd := hK.heap H.out.cell (fun ⟨i, hi, ho⟩ => (H.out.ownNe i hi d ho).1 rfl)
    by_cases hkL : k < L
    · obtain ⟨p, hp⟩ : ∃ p, X.queue[k]? = some p := ⟨X.queue[k]'(by have := HL.out; omega), List.getElem?_eq_getElem _⟩
      obtain ⟨f, n⟩ := p
      have hmem := (H.out.inv.queue f n).1 (List.mem_of_getElem? hp)
      obtain ⟨g, hga, hgq⟩ : ∃ g, qa = some ⟨g, 0, none⟩ ∧ ∀ j u, (secsV X.queue)[j]? = some u → wr.cell? ⟨g, j, none⟩ = some u := by
        have hq := own_kept H.out.queue hK (fun x e ⟨i, hi, ho⟩ => (H.out.ownNe i hi x ho).2.2.1 e)
        cases qa with
        | none => have := (HQN.out rfl).1; have := HL.out; omega
        | some ad =>
          rcases hq.2 with ⟨e, _⟩ | ⟨g, cap, cur, e, _⟩
          · cases e
          · injection e with e
            injection e with e
            subst e
            refine ⟨g, rfl, fun j u hu => ?_⟩
            have := own_cell hq (by rw [HL.out]) j u hu
            rw [Lib.add_plain, Nat.zero_add] at this
            exact this
      subst hga
      have c1 := hgq _ _ (secsV_get _ k _ hp).1
      have c2 := hgq _ _ (secsV_get _ k _ hp).2
      have c0 : wr.cell? ⟨d, 0, none⟩ = some (.map (some bm)) := by rw [Lib.cell_of_heap hd]; rfl
      have hgl : g < wr.heap.size := by have := World.block_lt_of_cell? _ _ c1; simpa using this
      have hdl : d < wr.heap.size := by have := World.block_lt_of_cell? _ _ c0; simpa using this
      have hkL2 : (k : Int) < (L : Int) := by omega
      have HF := Lib.hid hF
      have HO := Lib.hid hO
      have HK := Lib.hid hK
      have HD := Lib.hid hd
      have HP := Lib.hid hp
      have HM := Lib.hid hmem
      clear hF hO hK hd hp hmem hgq
      by_cases hl0 : l.length = 0
      · have hls : surv l k = false := by
          have : l = [] := List.eq_nil_of_length_eq_zero hl0
          subst this
          rfl
        have HLS := Lib.hid hls
        have hll : ((l.length : Nat) : Int) = 0 := by omega
        clear hls
        go_wp2_with fail
        go_roundw
        case rel =>
          have hal := Kept.alloc (fun _ => False) wr (.cells #[.int .i64 (f : Int), .int .i64 (n : Int)] 84)
          refine ⟨k + 1, own', by omega, by go_num, ?_, HO.out, HK.out.trans hal (fun _ _ e => e.elim)⟩
          have e : X.queue.take (k + 1) = X.queue.take k ++ [(f, n)] := by rw [List.take_add_one, HP.out]; rfl
          have e2 : (X.queue.take k).length = k := by have := HL.out; simp; omega
          rw [e, saveAll_snoc, e2, Nat.zero_add, HLS.out]
          exact HF.out.kept hal (fun _ _ _ _ e => e)
        case measure => simp [intOf]; omega
      · obtain ⟨b, off, rfl, hTb, hcell⟩ := HS.out (fun e => hl0 (by rw [e]; rfl))
        obtain ⟨j, hj⟩ : ∃ j, j = k % l.length := ⟨_, rfl⟩
        have hjl : j < l.length := by rw [hj]; exact Nat.mod_lt _ (by omega)
        obtain ⟨x, hx⟩ : ∃ x, l[j]? = some x := ⟨l[j], List.getElem?_eq_getElem hjl⟩
        have cj : wr.cell? ⟨b, off + j, none⟩ = some (.int .i64 x) := HK.out.cell (hcell j x hx) hTb
        have hsv : surv l k = (x.tmod 2 != 0) := by unfold surv; rw [← hj, hx]
        have hxr := HIN.out x (List.mem_of_getElem? hx)
        have hrem : (k : Int).tmod (l.length : Int) = (j : Int) := by rw [Int.tmod_eq_emod_of_nonneg (by omega), hj]; rfl
        have hrem2 : (k : Int) % (l.length : Int) = (j : Int) := by rw [hj]; rfl
        have hll : 0 < l.length := by omega
        have hbl : b < wr.heap.size := by have := World.block_lt_of_cell? _ _ cj; simpa using this
        have HJ := Lib.hid hj
        have HSV := Lib.hid hsv
        clear hcell hj hsv hTb
        by_cases hx2 : x.tmod 2 = 0
        · go_wp2_with fail
          go_roundw
          case rel =>
            have hal := Kept.alloc (fun _ => False) wr (.cells #[.int .i64 (f : Int), .int .i64 (n : Int)] 84)
            refine ⟨k + 1, own', by omega, by go_num, ?_, HO.out, HK.out.trans hal (fun _ _ e => e.elim)⟩
            have e : X.queue.take (k + 1) = X.queue.take k ++ [(f, n)] := by rw [List.take_add_one, HP.out]; rfl
            have e2 : (X.queue.take k).length = k := by have := HL.out; simp; omega
            have e3 : surv l k = false := by rw [HSV.out, hx2]; rfl
            rw [e, saveAll_snoc, e2, Nat.zero_add, e3]
            exact HF.out.kept hal (fun _ _ _ _ e => e)
          case measure => simp [intOf]; omega
        · obtain ⟨W1, hW1⟩ : ∃ W1, W1 = wr.alloc (.cells #[.int .i64 (f : Int), .int .i64 (n : Int)] 84) := ⟨_, rfl⟩
          have hal : Kept (fun _ => False) wr W1 := by rw [hW1]; exact Kept.alloc _ _ _
          have hal2 := hal.trans (Kept.drew (fun _ => False) W1) (fun _ _ e => e)
          have hf16 := HM.out.1
          have hlk : (Instr.lookup 57 (.map (some bm)) (.int .i64 (f : Int)) false).run Tryd.prog W1.drew = .ok (.pointer (some ⟨blk f, 0, none⟩)) W1.drew :=
            ((H.out.files.kept HK.out (fun ⟨i, hi, ho⟩ => (H.out.ownNe i hi bm ho).2.1 rfl)).kept hal2 (fun e => e)).look1 f hf16
          have hso := saveAll_ok l (X.queue.take k) 0 X.file (fun i hi => (H.out.inv.file i hi).toOk) (fun p hp => by
            obtain ⟨f', n'⟩ := p
            have := (H.out.inv.queue f' n').1 (List.mem_of_mem_take hp)
            exact (H.out.inv.file f' this.1).inside n' this.2) f hf16
          have hFd := HF.out.kept hal2 (fun _ _ _ _ e => e)
          obtain ⟨nv, dv, mb, hFA, hFS⟩ := hFd.file f hf16
          have q := (save_c (blk f) nv dv mb _ n W1.drew hFA hso.1 (by rw [hso.2]; exact (H.out.inv.file f hf16).inside n HM.out.2)).mono (R' := fun e w2 => e = .returned (.tuple #[]) ∧ ∃ own2, FilesIn w2 blk own2 (saveAll l (X.queue.take (k + 1)) 0 X.file) ∧
              (∀ i, i < 16 → ∀ x, own2 i x → own i x ∨ w.heap.size ≤ x) ∧ Kept (fun x => ∃ i, i < 16 ∧ own i x) w w2) (by
            rintro e w2 ⟨rfl, dv2, hF2, hK2, hb2⟩
            have hs1 : w.heap.size ≤ W1.drew.heap.size := Nat.le_trans HK.out.size hal2.size
            have hst := hFd.step hf16 hK2 (fun x hx => hFS x (by rcases hx with hx | hx; exact Or.inl hx; exact Or.inr (Or.inr (Or.inr hx)))) (f := ((saveAll l (X.queue.take k) 0 X.file) f).save n) ⟨nv, dv2, mb, hF2, fun x hin => by
              rcases hin with hx | hx | hx | hx
              · exact Or.inl (hFS x (Or.inl hx))
              · exact Or.inl (hFS x (Or.inr (Or.inl hx)))
              · exact Or.inl (hFS x (Or.inr (Or.inr (Or.inl hx))))
              · rcases hb2 with hb2 | ⟨y, hb2, hy⟩
                · exact Or.inl (hFS x (Or.inr (Or.inr (Or.inr (by rw [← hb2]; exact hx)))))
                · rw [hb2] at hx
                  injection hx with hx
                  exact Or.inr (by rw [← hx]; exact hy)⟩
            refine ⟨rfl, ownUp own' f W1.drew.heap.size w2.heap.size, ?_, fun i hi x hx => ?_, ?_⟩
            · have e : X.queue.take (k + 1) = X.queue.take k ++ [(f, n)] := by rw [List.take_add_one, HP.out]; rfl
              have e2 : (X.queue.take k).length = k := by have := HL.out; simp; omega
              have e3 : surv l k = true := by rw [HSV.out]; simpa using hx2
              rw [e, saveAll_snoc, e2, Nat.zero_add, e3]
              exact hst
            · rcases ownUp_or hx with hx | hx
              · exact HO.out i hi x hx
              · exact Or.inr (Nat.le_trans hs1 hx)
            · refine (HK.out.trans hal2 (fun _ _ e => e.elim)).trans hK2 (fun x hx e => ⟨f, HM.out.1, ?_⟩)
              have h1 : own' f x := hFS x (by rcases e with e | e; exact Or.inl e; exact Or.inr (Or.inr (Or.inr e)))
              rcases HO.out f HM.out.1 x h1 with h2 | h2
              · exact h2
              · omega)
          have Q := Lib.hid q
          have HAL := Lib.hid hal2
          rw [hW1] at hlk
          have HW1 := Lib.hid hW1
          clear hal hal2 hso hFd hFA hFS q hf16 hW1
          go_wp2_with fail
          rw [← HW1.out] at hlk ⊢
          have d0 : W1.cell? ⟨d, 0, none⟩ = some (.map (some bm)) := HAL.out.cell c0 (fun e => e)
          have d1 : W1.cell? ⟨wr.heap.size, 0, none⟩ = some (.int .i64 (f : Int)) := by rw [HW1.out, Lib.cell_of_heap (heap_alloc_new wr _)]; rfl
          have d2 : W1.cell? ⟨wr.heap.size, 1, none⟩ = some (.int .i64 (n : Int)) := by rw [HW1.out, Lib.cell_of_heap (heap_alloc_new wr _)]; rfl
          go_region_law (go_simp; go_at_call 45; refine Q.out.mono ?_; rintro e w2 ⟨rfl, own2, r1, r2, r3⟩)
          all_goals
            go_wp2_with fail
            go_roundw
            case rel => exact ⟨k + 1, own2, hkL, by go_num, r1, r2, r3⟩
            case measure => simp [intOf]; omega
    · have hkL' : ¬ ((k : Int) < (L : Int)) := by omega
      have hke : k = L := by omega
      have htk : X.queue.take k = X.queue := List.take_of_length_le (by rw [hke, HL.out]; exact Nat.le_refl _)
      rw [htk] at hF
      obtain ⟨G, hG⟩ : ∃ G, G = saveAll l X.queue 0 X.file := ⟨_, rfl⟩
      rw [← hG] at hF
      have c0 : wr.cell? ⟨d, 0, none⟩ = some (.map (some bm)) := by rw [Lib.cell_of_heap hd]; rfl
      have hfm := H.out.files.kept hK (fun ⟨i, hi, ho⟩ => (H.out.ownNe i hi bm ho).2.1 rfl)
      obtain ⟨Dm, hM1, hM2, hM3⟩ := hfm
      obtain ⟨w1, hrun, hrg, hg1, hsz1⟩ := hM1.range lawI Tryd.underlying57
      have hk1 : Kept (fun _ => False) wr w1 := Kept.grown hg1 (fun _ e => by cases e)
      have hF1 := hF.kept hk1 (fun _ _ _ _ e => e)
      have hGok : ∀ f, f < 16 → (G f).Ok := fun f hf => by
        rw [hG]
        exact (saveAll_ok l X.queue 0 X.file (fun i hi => (H.out.inv.file i hi).toOk) (fun p hp => by
          obtain ⟨f', n'⟩ := p
          have := (H.out.inv.queue f' n').1 hp
          exact (H.out.inv.file f' this.1).inside n' this.2) f hf).1
      have hbr : bm < wr.heap.size := hM1.lt
      have hdr : d < wr.heap.size := (Array.getElem?_eq_some_iff.1 hd).1
      have HF := Lib.hid hF
      have HO := Lib.hid hO
      have HK := Lib.hid hK
      have HD := Lib.hid hd
      have HG := Lib.hid hG
      have HM2 := Lib.hid hM2
      have HM3 := Lib.hid hM3
      have HRG := Lib.hid hrg
      have HK1 := Lib.hid hk1
      have HF1 := Lib.hid hF1
      have HGO := Lib.hid hGok
      clear hF hO hK hd hG hM1 hM2 hM3 hrg hg1 hk1 hF1 hGok htk
      obtain ⟨w0, rfl⟩ : ∃ w0, w0 = wr := ⟨_, rfl⟩
      go_wp2_with fail
      go_loopw [7] (fun _ wr => ∃ (left : Lit → Bool) (cnt : Nat) (own2 : Nat → Nat → Prop), wr.ranges Tryd.prog 3 ptrElem bm w0.heap.size 16 Dm left cnt ∧ FilesIn wr blk own2 (fun i => if left (.int .i64 (i : Int)) then G i else (G i).revert) ∧
          (∀ i, i < 16 → ∀ x, own2 i x → own' i x ∨ w0.heap.size < x) ∧ Kept (fun x => ∃ i, i < 16 ∧ own' i x) w0 wr) (fun _ wr => wr.rangeLeft bm w0.heap.size)
      case atStart =>
        refine ⟨_, _, own', HRG.out, ⟨fun i hi => ?_, HF1.out.lt, HF1.out.one⟩, fun i _ x hx => Or.inl hx, HK1.out.mono (fun _ _ e => e.elim)⟩
        rw [(HM3.out i hi).1]
        exact HF1.out.file i hi
      case round =>
        obtain ⟨left, cnt, own2, hrg, hF, hO2, hK2⟩ := hrel
        rcases hrg.next lawI 0 with ⟨_, hl0, hnx⟩ | ⟨key, v, kl, y, wx, cnt', hkey, hlk, hRv, hat, hnx, hrg', hlt, hgx, hszx, hen⟩
        · have hk2' : Kept (fun x => ∃ i, i < 16 ∧ own i x) w wr := HK.out.trans hK2 (fun x hx ⟨i, hi, ho⟩ => ⟨i, hi, by
            rcases HO.out i hi x ho with h2 | h2
            · exact h2
            · omega⟩)
          have hD2 := hk2'.heap H.out.cell (fun ⟨i, hi, ho⟩ => (H.out.ownNe i hi d ho).1 rfl)
          have hF2 : FilesIn wr blk own2 (fun f => (G f).revert) := ⟨fun i hi => by
            have := hF.file i hi
            simp only [hl0] at this
            exact this, hF.lt, hF.one⟩
          have hO2' : ∀ i, i < 16 → ∀ x, own2 i x → own i x ∨ w.heap.size ≤ x := fun i hi x hx => by
            have hs := HK.out.size
            rcases hO2 i hi x hx with h1 | h1
            · exact HO.out i hi x h1
            · exact Or.inr (by omega)
          have c1 : wr.cell? ⟨d, 1, none⟩ = some (.slice qa L qc) := by rw [Lib.cell_of_heap hD2]; rfl
          have c2 : wr.cell? ⟨d, 2, none⟩ = some (.bool X.down) := by rw [Lib.cell_of_heap hD2]; rfl
          have z1 : wr.frozen? ⟨d, 1, none⟩ = false := Lib.frozen_of_heap hD2 1
          have z2 : wr.frozen? ⟨d, 2, none⟩ = false := Lib.frozen_of_heap hD2 2
          obtain ⟨W3, hW3⟩ : ∃ W3, W3 = (wr.setCell ⟨d, 1, none⟩ (.slice none 0 0)).setCell ⟨d, 2, none⟩ (.bool true) := ⟨_, rfl⟩
          have hk3 : Kept (fun k => k = d) wr W3 := by rw [hW3]; exact (Kept.set d 1 wr _).trans (Kept.set d 2 _ _) (fun _ _ e => e)
          have hn2 : ∀ i, i < 16 → ∀ x, own2 i x → x ≠ d ∧ x ≠ bm ∧ kv.ownBlock ≠ some x := fun i hi x hx => by
            have hd := H.out.lt (Or.inl rfl)
            have hb := H.out.lt (Or.inr (Or.inl rfl))
            rcases hO2' i hi x hx with h1 | h1
            · have := H.out.ownNe i hi x h1
              exact ⟨this.1, this.2.1, this.2.2.2⟩
            · exact ⟨by omega, by omega, fun e => by have := own_lt H.out.keep e; omega⟩
          have hX3 : DiskAt W3 d bm blk own2 (.slice none 0 0) kv ⟨fun f => (saveAll l X.queue 0 X.file f).revert, [], true, X.lost, X.left, X.keep⟩ := by
            have hk03 := hk2'.mono (S' := fun x => x = d ∨ ∃ i, i < 16 ∧ own i x) (fun _ _ e => Or.inr e) |>.trans hk3 (fun _ _ e => Or.inl e)
            have hci := D.crash_inv H.out.inv l
            unfold D.crash at hci
            rw [HUP.out] at hci
            refine { cell := ?_, files := ?_, queue := World.ownsRow_nil _ _ _ _, keep := ?_, file := fun i hi => ?_, inv := ?_, lost := H.out.lost, left := H.out.left, keepIn := H.out.keepIn, keepLen := H.out.keepLen, ownLt := fun i hi x hx => Nat.lt_of_lt_of_le (hF2.lt i hi x hx) hk3.size, ownNe := fun i hi x hx => ?_, ownOne := hF2.one, apart := ?_ }
            · rw [hW3]
              exact cells6_set (cells6_set hD2 1 (.slice none 0 0) (by omega)) 2 (.bool true) (by omega)
            · exact H.out.files.kept hk03 (fun e => by
                rcases e with e | ⟨i, hi, ho⟩
                · exact H.out.apart.1 e.symm
                · exact (H.out.ownNe i hi bm ho).2.1 rfl)
            · exact own_kept H.out.keep hk03 (fun k e e' => by
                rcases e' with e' | ⟨i, hi, ho⟩
                · exact H.out.apart.2.2.2.1 (by rw [e, e'])
                · exact (H.out.ownNe i hi k ho).2.2.2 e)
            · rw [← HG.out]
              exact (hF2.file i hi).kept hk3 (fun k ho e => (hn2 i hi k ho).1 e)
            · exact D.set_inv (d := ⟨fun f => (saveAll l X.queue 0 X.file f).revert, [], true, X.lost, 0, []⟩) hci X.lost X.left X.keep true
            · have := hn2 i hi x hx
              exact ⟨this.1, this.2.1, by simp [Value.ownBlock], this.2.2⟩
            · obtain ⟨a1, a2, a3, a4, a5, a6⟩ := H.out.apart
              exact ⟨a1, by simp [Value.ownBlock], by simp [Value.ownBlock], a4, a5, by simp [Value.ownBlock]⟩
          have q := (arm_at d bm blk own2 (.slice none 0 0) kv _ 0 (by omega) (.slice none 0 0) [] W3 hX3 ⟨none, 0, rfl, rfl, fun _ => rfl, fun _ h => by cases h⟩ (by simp) (by simp))
          have Q := Lib.hid q
          have HW3 := Lib.hid hW3
          have HK3 := Lib.hid hk3
          have HK2' := Lib.hid hk2'
          have HO2 := Lib.hid hO2'
          clear hrg hF hO2 hK2 hk2' hD2 hF2 hO2' hk3 hn2 hX3 q hW3 hl0
          go_wp2_with (go_at_call 18; rw [← HW3.out]; refine Q.out.mono ?_; rintro e w4 ⟨rfl, kv', hd4, hk4, hf4⟩)
          go_end0
          have hX : X.crash l = D.arm ⟨fun f => (saveAll l X.queue 0 X.file f).revert, [], true, X.lost, X.left, X.keep⟩ 0 [] := by unfold D.crash; rw [HUP.out]; rfl
          rw [hX]
          have hk03 := (HK2'.out.mono (S' := fun x => x = d ∨ ∃ i, i < 16 ∧ own i x) (fun _ _ e => Or.inr e)).trans HK3.out (fun _ _ e => Or.inl e)
          have hsz := hk03.size
          exact ⟨rfl, own2, kv', hd4, hk03.trans hk4 (fun _ _ e => Or.inl e), HO2.out, fun k e => by have := hf4 k e; omega⟩
        · have hhas : Maps.has Dm kl = true := Maps.has_true_of_atKey hat
          obtain ⟨i, hi, rfl⟩ := HM2.out kl hhas
          obtain ⟨x, rfl, e, _⟩ := Maps.keyOf_int_inv Tryd.underlying3 hkey
          injection e with _ e
          subst e
          have e1 := (HM3.out i hi).2 .nil
          rw [hat .nil] at e1
          obtain ⟨y1, y2⟩ := y
          simp only at e1
          subst e1
          obtain rfl := ptrElem_inv hRv
          have hkx : Kept (fun k => k = w0.heap.size) wr wx := Kept.grown hgx (fun k e => by injection e with e; exact e.symm)
          have hor : ∀ j, j < 16 → ∀ x, own2 j x → ¬ x = w0.heap.size := fun j hj x hx e => by
            rcases hO2 j hj x hx with h1 | h1
            · have := HF.out.lt j hj x h1; omega
            · omega
          have hFx := hF.kept hkx hor
          obtain ⟨nv, dv, mb, hFA, hFS⟩ := hFx.file i hi
          simp only [hlk, if_true] at hFA
          have q := (revert_c (blk i) nv dv mb (G i) wx hFA (HGO.out i hi)).mono (R' := fun e w2 => e = .returned (.tuple #[]) ∧ ∃ own3, w2.ranges Tryd.prog 3 ptrElem bm w0.heap.size 16 Dm (fun x => left x && !x.sameKey (.int .i64 (i : Int))) cnt' ∧
              FilesIn w2 blk own3 (fun j => if (left (.int .i64 (j : Int)) && !(Lit.int .i64 (j : Int)).sameKey (.int .i64 (i : Int))) then G j else (G j).revert) ∧ (∀ i, i < 16 → ∀ x, own3 i x → own' i x ∨ w0.heap.size < x) ∧ Kept (fun x => ∃ i, i < 16 ∧ own' i x) w0 w2) (by
            rintro e w2 ⟨rfl, nv2, mb2, hF2, hK3, hb2, hm2⟩
            have hrl := hrg'.lt
            have hsw : w0.heap.size < wx.heap.size := hrl
            have hst := hFx.step hi hK3 hFS (f := (G i).revert) ⟨nv2, dv, mb2, hF2, fun x hin => by
              rcases hin with hx | hx | hx | hx
              · exact Or.inl (hFS x (Or.inl hx))
              · exact Or.inr (by omega)
              · rcases hb2 with hb2 | ⟨y, hb2, hy⟩
                · exact Or.inl (hFS x (Or.inr (Or.inr (Or.inl (by rw [← hb2]; exact hx)))))
                · rw [hb2] at hx
                  injection hx with hx
                  exact Or.inr (by rw [← hx]; exact hy)
              · exact Or.inl (hFS x (Or.inr (Or.inr (Or.inr hx))))⟩
            refine ⟨rfl, ownUp own2 i wx.heap.size w2.heap.size, ranges_kept hrg' hK3 (fun e => ?_) (fun e => ?_), ⟨fun j hj => ?_, hst.lt, hst.one⟩, fun j hj x hx => ?_, ?_⟩
            · have h1 := hFS _ e
              rcases hO2 i hi _ h1 with h2 | h2
              · rcases HO.out i hi _ h2 with h3 | h3
                · exact (H.out.ownNe i hi bm h3).2.1 rfl
                · have := H.out.lt (Or.inr (Or.inl rfl)); omega
              · omega
            · exact hor i hi _ (hFS _ e) rfl
            · have := hst.file j hj
              by_cases e : j = i
              · subst e
                rw [upd_same] at this
                rw [sameInt j j (by omega)]
                simpa using this
              · rw [upd_other _ _ e] at this
                rw [sameInt j i (by omega)]
                have e2 : (j == i) = false := by simp [e]
                rw [e2]
                simpa using this
            · rcases ownUp_or hx with hx | hx
              · exact hO2 j hj x hx
              · exact Or.inr (by omega)
            · refine (hK2.trans hkx (fun x hx e => by omega)).trans hK3 (fun x hx e => ⟨i, hi, ?_⟩)
              rcases hO2 i hi x (hFS x e) with h2 | h2
              · exact h2
              · omega)
          have Q := Lib.hid q
          have HG1 := Lib.hid hrg
          have HG2 := Lib.hid hrg'
          have HLT := Lib.hid hlt
          clear q hrg hrg' hlt hF hO2 hK2 hkx hor hFx hFA hFS hhas hat hRv hkey hlk hgx hszx
          go_wp2_with (go_at_call 46; refine Q.out.mono ?_; rintro e w2 ⟨rfl, own3, r0, r1, r2, r3⟩)
          go_roundw
          case rel => exact ⟨_, _, own3, r0, r1, r2, r3⟩
          case measure =>
            rw [r0.left_eq, HG1.out.left_eq]
            exact HLT.out

set_option maxRecDepth 100000 in
theorem crash_dn (d bm : Nat) (blk : Nat → Nat) (own : Nat → Nat → Prop) (qv kv : Value) (X : D) (v : Value) (w : World) (h : DiskAt w d bm blk own qv kv X) (hup : X.down = true) :
    Calls Tryd.prog 25 #[.pointer (some ⟨d, 0, none⟩), v] w fun e w' => e = .returned (.tuple #[]) ∧ w' = w := by
  have k2 := h.c2
  rw [hup] at k2
  clear h
  go_enter Tryd.func25, Tryd.ntmps25
  go_wp2_with fail
  (try simp only [Exit.inBlock, Exit.then])
  refine bodyPost_ret (results_none rfl _ _ _) rfl ?_
  exact ⟨rfl, rfl⟩

/-- What a disk may hold after a method, and what the method may have turned. -/
def After (S : Nat → Prop) (w : World) : Nat → Prop := fun k => S k ∨ w.heap.size ≤ k

theorem crash_c (d : Nat) (S : Nat → Prop) (X : D) (v : Value) (l : List Int) (w : World) (h : DiskIn w d S X) (hs : KeepAt w v l S) (hl : l.length ≤ 9223372036854775807)
    (hin : ∀ k ∈ l, -9223372036854775808 ≤ k ∧ k ≤ 9223372036854775807) :
    Calls Tryd.prog 25 #[.pointer (some ⟨d, 0, none⟩), v] w fun e w' => e = .returned (.tuple #[]) ∧ DiskIn w' d (After S w) (X.crash l) ∧ Kept S w w' := by
  obtain ⟨bm, blk, own, qv, kv, h, hS⟩ := h
  cases hup : X.down with
  | true =>
    refine (crash_dn d bm blk own qv kv X v w h hup).mono ?_
    rintro e w' ⟨rfl, rfl⟩
    have : X.crash l = X := by unfold D.crash; rw [hup]; rfl
    rw [this]
    exact ⟨rfl, ⟨bm, blk, own, qv, kv, h, fun k hin => Or.inl (hS k hin)⟩, Kept.refl _ _⟩
  | false =>
    have hs' : KeepAt w v l (fun k => ∃ i, i < 16 ∧ own i k) := by
      obtain ⟨a, c, h1, h2⟩ := hs
      refine ⟨a, c, h1, fun hne => ?_⟩
      obtain ⟨b, off, h3, h4, h5⟩ := h2 hne
      exact ⟨b, off, h3, fun ⟨i, hi, ho⟩ => h4 (hS b (Or.inr (Or.inr (Or.inr (Or.inr ⟨i, hi, ho⟩))))), h5⟩
    refine (crash_up d bm blk own qv kv X v l w h hup hs' hl hin).mono ?_
    rintro e w' ⟨rfl, own', kv', hd, hk, ho, hf⟩
    refine ⟨rfl, ⟨bm, blk, own', _, kv', hd, fun k hin => ?_⟩, hk.mono (fun k _ e => ?_)⟩
    · rcases hin with e | e | e | e | ⟨i, hi, e⟩
      · exact Or.inl (hS k (Or.inl e))
      · exact Or.inl (hS k (Or.inr (Or.inl e)))
      · simp [Value.ownBlock] at e
      · exact Or.inr (hf k e)
      · rcases ho i hi k e with h1 | h1
        · exact Or.inl (hS k (Or.inr (Or.inr (Or.inr (Or.inr ⟨i, hi, h1⟩)))))
        · exact Or.inr h1
    · rcases e with e | ⟨i, hi, e⟩
      · exact hS k (Or.inl e)
      · exact hS k (Or.inr (Or.inr (Or.inr (Or.inr ⟨i, hi, e⟩))))
end Go.Proofs.YtninopllfbiccaaDoor
