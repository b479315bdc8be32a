/-
  disk.New.
-/
import Derived.Test.YtninopllfbiccaaDoorDTrunc
namespace Go.Proofs.YtninopllfbiccaaDoor
set_option maxRecDepth 100000
open Go Go.RowKit Go.Maps Dk

/-- A map of files with the numbers below N. -/
def FilesN (w : World) (b : Nat) (blk : Nat → Nat) (N : Nat) : Prop :=
  ∃ D : DataW Unit, w.ownsMap Tryd.prog 3 ptrElem b 16 D ∧ (∀ kl, Maps.has D kl = true → ∃ i : Nat, i < N ∧ kl = .int .i64 i) ∧
    ∀ i : Nat, i < N → Maps.has D (.int .i64 i) = true ∧ ∀ z, D.atKey (.int .i64 i) z = .lit (.int .i64 (blk i : Int))
theorem FilesN.kept {w w' : World} {S : Nat → Prop} {b : Nat} {blk : Nat → Nat} {N : Nat} (h : FilesN w b blk N) (hk : Kept S w w') (hn : ¬ S b) : FilesN w' b blk N := by
  obtain ⟨D, h1, h2⟩ := h
  exact ⟨D, ownsMap_kept h1 hk hn, h2⟩
theorem FilesN.store {w : World} {b : Nat} {blk : Nat → Nat} {N : Nat} (h : FilesN w b blk N) (i M : Nat) (hi : i < 16) (hM : M ≤ 16) (hNM : (N = M ∧ i < N) ∨ (M = N + 1 ∧ i = N)) (p : Nat) :
    ∃ w', (Instr.mapUpdate 57 (.map (some b)) (.int .i64 i) (.pointer (some ⟨p, 0, none⟩))).run Tryd.prog w = .ok () w' ∧ FilesN w' b (fun j => if j = i then p else blk j) M ∧ w.grownBy w' (some b) := by
  obtain ⟨D, h1, h2, h3⟩ := h
  obtain ⟨w', hrun, ho, hg⟩ := h1.update (val := .pointer (some ⟨p, 0, none⟩)) lawI Tryd.underlying57 (by unfold maxLen; omega) (keyI (n := (i : Int)) (by omega)) (ptrElem_mk p)
  have hm : Maps.IsMap D := by obtain ⟨es, hD, _⟩ := h1.entries lawI; exact ⟨es, hD⟩
  have hkey : WideAt.IsKeyLit (.int .i64 (i : Int)) := lawI.key (keyI (n := (i : Int)) (by omega))
  have hhas : ∀ kl, Maps.has (D.put (.int .i64 (i : Int)) (.lit (.int .i64 (p : Int)))) kl = true → ∃ m : Nat, m < M ∧ kl = .int .i64 m := by
    intro kl hk
    by_cases e : kl = .int .i64 (i : Int)
    · exact ⟨i, by omega, e⟩
    · rw [Maps.has_put_other e] at hk
      obtain ⟨m, h4, h5⟩ := h2 kl hk
      exact ⟨m, by omega, h5⟩
  refine ⟨w', hrun, ⟨_, own_tight ho (fun kl hk => ?_), hhas, fun m hs => ?_⟩, hg⟩
  · obtain ⟨m, h4, h5⟩ := hhas kl hk
    exact ⟨m, by omega, h5⟩
  · by_cases e : m = i
    · subst e
      have e1 : (fun j => if j = m then p else blk j) m = p := if_pos rfl
      rw [e1]
      exact ⟨Maps.has_put_same hm hkey _, fun z => Maps.atKey_put_same hm hkey _ _⟩
    · have hne : (Lit.int .i64 (m : Int)) ≠ .int .i64 (i : Int) := fun h => by injection h with _ h; omega
      have e1 : (fun j => if j = i then p else blk j) m = blk m := if_neg e
      rw [e1]
      exact ⟨by rw [Maps.has_put_other hne]; exact (h3 m (by omega)).1, fun z => by rw [Maps.atKey_put_other hne]; exact (h3 m (by omega)).2 z⟩

/-- The first k files of a disk under way, each in blocks of its own from block B on. -/
structure FilesTo (w : World) (B : Nat) (blk : Nat → Nat) (own : Nat → Nat → Prop) (g : Nat → F) (k : Nat) : Prop where
  file : ∀ i, i < k → FileIn w (blk i) (own i) (g i)
  lt : ∀ i, i < k → ∀ x, own i x → x < w.heap.size ∧ B ≤ x
  one : ∀ i j, i < k → j < k → i ≠ j → ∀ x, own i x → ¬ own j x
theorem FilesTo.kept {w w' : World} {T : Nat → Prop} {B : Nat} {blk : Nat → Nat} {own : Nat → Nat → Prop} {g : Nat → F} {k : Nat} (h : FilesTo w B blk own g k) (hk : Kept T w w') (hT : ∀ x, B ≤ x → ¬ T x) : FilesTo w' B blk own g k :=
  ⟨fun i hi => (h.file i hi).kept hk (fun x hx => hT x (h.lt i hi x hx).2), fun i hi x hx => ⟨Nat.lt_of_lt_of_le (h.lt i hi x hx).1 hk.size, (h.lt i hi x hx).2⟩, h.one⟩

set_option maxHeartbeats 1000000 in
set_option maxRecDepth 100000 in
theorem new_c (w : World) : Calls Tryd.prog 10 #[] w fun e w' => ∃ d, e = .returned (.pointer (some ⟨d, 0, none⟩)) ∧ DiskIn w' d (fun k => w.heap.size ≤ k) D.new ∧ Below w.heap.size w w' := by
  have hmm := fun w => run_makeMap (P := Tryd.prog) 57 w
  obtain ⟨W1, hW1⟩ : ∃ W1, W1 = (w.alloc (.map #[] 0)).alloc (.cells #[.map (some w.heap.size), .slice none 0 0, .bool false, .int .i64 0, .int .i64 0, .slice none 0 0] 60) := ⟨_, rfl⟩
  have hsz1 : W1.heap.size = w.heap.size + 2 := by rw [hW1]; simp
  have hb1 : Below w.heap.size w W1 := by rw [hW1]; exact ((Below.refl _ w).alloc (Nat.le_refl _) _).alloc (by simp) _
  have hd1 : W1.heap[w.heap.size + 1]? = some (.cells #[.map (some w.heap.size), .slice none 0 0, .bool false, .int .i64 0, .int .i64 0, .slice none 0 0] 60 (0, 0)) := by
    rw [hW1]
    have e := heap_alloc_new (w.alloc (.map #[] 0)) (.cells #[.map (some w.heap.size), .slice none 0 0, .bool false, .int .i64 0, .int .i64 0, .slice none 0 0] 60)
    rw [show (w.alloc (.map #[] 0)).heap.size = w.heap.size + 1 by simp] at e
    exact e
  have hm1 : FilesN W1 w.heap.size (fun _ => 0) 0 := by
    rw [hW1]
    refine FilesN.kept (w := w.alloc (.map #[] 0)) ⟨.map [], (World.ownsMap_made w _ _ _).mono (Nat.zero_le _), fun kl h => ?_, fun i hi => absurd hi (Nat.not_lt_zero _)⟩ (Kept.alloc (fun _ => False) _ _) (fun e => e)
    simp [Maps.has] at h
  have HB1 := Lib.hid hb1
  have HD1 := Lib.hid hd1
  have HM1 := Lib.hid hm1
  have HW1 := Lib.hid hW1
  have HS1 := Lib.hid hsz1
  clear hb1 hd1 hm1 hW1 hsz1
  go_enter Tryd.func10, Tryd.ntmps10
  go_wp2_with fail
  rw [← HW1.out]
  go_loopw [6] (fun v6 wr => ∃ (k : Nat) (blk : Nat → Nat) (own : Nat → Nat → Prop), k ≤ 16 ∧ v6 = .int .i64 (k : Int) ∧ wr.heap[w.heap.size + 1]? = some (.cells #[.map (some w.heap.size), .slice none 0 0, .bool false, .int .i64 0, .int .i64 0, .slice none 0 0] 60 (0, 0)) ∧
      FilesN wr w.heap.size blk k ∧ FilesTo wr (w.heap.size + 2) blk own (fun _ => F.new) k ∧ Below w.heap.size w wr) (fun v6 _ => 16 - (intOf v6).toNat)
  case atStart => exact ⟨0, _, fun _ _ => False, Nat.zero_le _, rfl, HD1.out, HM1.out, ⟨fun i hi => absurd hi (Nat.not_lt_zero _), fun i hi => absurd hi (Nat.not_lt_zero _), fun i j hi => absurd hi (Nat.not_lt_zero _)⟩, HB1.out⟩
  case round =>
    obtain ⟨k, blk, own, hk, rfl, hd, hm, hF, hb⟩ := hrel
    by_cases hk16 : k < 16
    · have hk16' : (k : Int) < 16 := by omega
      have hdl := (Array.getElem?_eq_some_iff.1 hd).1
      have c0 : wr.cell? ⟨w.heap.size + 1, 0, none⟩ = some (.map (some w.heap.size)) := by rw [Lib.cell_of_heap hd]; rfl
      have q := (newFile_c wr.drew).mono (R' := fun e w2 => ∃ p w3, e = .returned (.pointer (some ⟨p, 0, none⟩)) ∧ w2.cell? ⟨w.heap.size + 1, 0, none⟩ = some (.map (some w.heap.size)) ∧ (Instr.mapUpdate 57 (.map (some w.heap.size)) (.int .i64 k) (.pointer (some ⟨p, 0, none⟩))).run Tryd.prog w2 = .ok () w3 ∧
          Hid (∃ (blk' : Nat → Nat) (own' : Nat → Nat → Prop), w3.heap[w.heap.size + 1]? = some (.cells #[.map (some w.heap.size), .slice none 0 0, .bool false, .int .i64 0, .int .i64 0, .slice none 0 0] 60 (0, 0)) ∧
            FilesN w3 w.heap.size blk' (k + 1) ∧ FilesTo w3 (w.heap.size + 2) blk' own' (fun _ => F.new) (k + 1) ∧ Below w.heap.size w w3)) (by
        rintro e w2 ⟨p, mb, rfl, hFA, hb2, hp, hmb⟩
        have hsd : wr.drew.heap.size = wr.heap.size := rfl
        have hk2 : Kept (fun _ => False) wr w2 := (Kept.drew _ wr).trans (Kept.below hb2) (fun _ _ e => e)
        have hm2 := hm.kept hk2 (fun e => e)
        obtain ⟨w3, hrun, hm3, hg3⟩ := hm2.store k (k + 1) hk16 (by omega) (Or.inr ⟨rfl, rfl⟩) p
        have hk3 : Kept (fun x => x = w.heap.size) w2 w3 := Kept.grown hg3 (fun x e => by injection e with e; exact e.symm)
        have hd2 := hk2.heap hd (fun e => e)
        have hF3 := (hF.kept hk2 (fun _ _ e => e)).kept hk3 (fun x hx e => by omega)
        have hFA3 := hFA.kept hk3 (fun x hin e => by
          rcases hin with e1 | e1 | e1 | e1
          · omega
          · omega
          · cases e1
          · cases e1)
        refine ⟨p, w3, rfl, by rw [Lib.cell_of_heap hd2]; rfl, hrun, _, fun j x => if j = k then InF p (.slice none 0 0) (.slice none 0 0) mb x else own j x, hk3.heap hd2 (by omega), hm3, ⟨fun i hi => ?_, fun i hi x hx => ?_, fun i j hi hj hij x hx hx' => ?_⟩, ?_⟩
        · by_cases e : i = k
          · subst e
            simp only [if_pos]
            exact ⟨_, _, mb, hFA3, fun x hx => hx⟩
          · simp only [if_neg e]
            exact hF3.file i (by omega)
        · by_cases e : i = k
          · subst e
            simp only [if_pos] at hx
            refine ⟨hFA3.lt hx, ?_⟩
            rcases hx with e1 | e1 | e1 | e1
            · omega
            · omega
            · cases e1
            · cases e1
          · simp only [if_neg e] at hx
            exact hF3.lt i (by omega) x hx
        · have hfr : ∀ y, InF p (.slice none 0 0) (.slice none 0 0) mb y → wr.heap.size ≤ y := fun y hy => by
            rcases hy with e1 | e1 | e1 | e1
            · omega
            · omega
            · cases e1
            · cases e1
          by_cases e : i = k
          · subst e
            simp only [if_pos] at hx
            rw [if_neg (by omega)] at hx'
            have := (hF.lt j (by omega) x hx').1
            have := hfr x hx
            omega
          · rw [if_neg e] at hx
            by_cases e' : j = k
            · subst e'
              simp only [if_pos] at hx'
              have := (hF.lt i (by omega) x hx).1
              have := hfr x hx'
              omega
            · rw [if_neg e'] at hx'
              exact hF.one i j (by omega) (by omega) hij x hx hx'
        · exact (hb.trans (hk2.toBelow hb.size (fun _ e => e.elim))).trans (hk3.toBelow (Nat.le_trans hb.size hk2.size) (fun x e => by omega)))
      have Q := Lib.hid q
      clear hd hm hF hb q
      go_wp2_with fail
      go_region_law (go_simp; go_at_call 34; refine Q.out.mono ?_; rintro e w2 ⟨p, w3, rfl, j0, hrun, HP⟩)
      all_goals
        go_wp2_with fail
        go_roundw
        case rel =>
          obtain ⟨blk', own', h1, h2, h3, h4⟩ := HP.out
          exact ⟨k + 1, blk', own', hk16, by go_num, h1, h2, h3, h4⟩
        case measure => simp [intOf]; omega
    · have hk16' : ¬ (k : Int) < 16 := by omega
      obtain rfl : k = 16 := by omega
      have HD := Lib.hid hd
      have HM := Lib.hid hm
      have HF := Lib.hid hF
      have HB := Lib.hid hb
      clear hd hm hF hb
      go_wp2_with fail
      go_ret
      have hM : FilesAt wr w.heap.size blk := HM.out
      refine ⟨_, rfl, ⟨w.heap.size, blk, own, .slice none 0 0, .slice none 0 0, { cell := HD.out, files := hM, queue := World.ownsRow_nil _ _ _ _, keep := World.ownsRow_nil _ _ _ _, file := HF.out.file, inv := D.new_inv, lost := by decide, left := by decide, keepIn := (fun k hk => by cases hk), keepLen := by decide, ownLt := fun i hi x hx => (HF.out.lt i hi x hx).1, ownNe := fun i hi x hx => ?_, ownOne := HF.out.one, apart := ?_ }, fun k hin => ?_⟩, HB.out⟩
      · have := (HF.out.lt i hi x hx).2
        exact ⟨by omega, by omega, by simp [Value.ownBlock], by simp [Value.ownBlock]⟩
      · exact ⟨by omega, by simp [Value.ownBlock], by simp [Value.ownBlock], by simp [Value.ownBlock], by simp [Value.ownBlock], by simp [Value.ownBlock]⟩
      · rcases hin with e | e | e | e | ⟨i, hi, e⟩
        · omega
        · omega
        · cases e
        · cases e
        · have := (HF.out.lt i hi k e).2; omega
end Go.Proofs.YtninopllfbiccaaDoor
