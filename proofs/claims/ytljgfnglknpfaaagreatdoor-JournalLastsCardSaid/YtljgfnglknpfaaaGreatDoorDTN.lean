/-
  disk's method Truncate.
  disk.New.
  disk's files: a copy of a file.
  disk.Copy.
  The law's acts.
  The examples of the chapter hold.
  The law's helpers: few, played.
  DiskReads returns true, for every list of acts, file, offset, string and size; of what was there nothing has turned.
-/
import Derived.Test.YtljgfnglknpfaaaGreatDoorDSync
import Derived.Test.YtljgfnglknpfaaaGreatDoorDClone
namespace Go.Proofs.YtljgfnglknpfaaaGreatDoor
set_option maxRecDepth 100000
open Go Go.RowKit Go.Maps Dk

theorem DiskAt.refile {w w' : World} {d bm : Nat} {blk : Nat → Nat} {own own' : Nat → Nat → Prop} {qv kv : Value} {X : D} (h : DiskAt w d bm blk own qv kv X) {g : Nat → F} (hF : FilesIn w' blk own' g) {T : Nat → Prop} (hk : Kept T w w') (hT : ∀ k, T k → ∃ i, i < 16 ∧ own i k)
    (ho : ∀ i, i < 16 → ∀ k, own' i k → own i k ∨ w.heap.size ≤ k) (hi : D.Inv { X with file := g }) : DiskAt w' d bm blk own' qv kv { X with file := g } := by
  have hnd : ∀ k, InD d bm own qv kv k → (k = d ∨ k = bm ∨ qv.ownBlock = some k ∨ kv.ownBlock = some k) → ¬ T k := fun k _ e ht => by
    obtain ⟨i, hi, ho⟩ := hT k ht
    have := h.ownNe i hi k ho
    rcases e with e | e | e | e
    · exact this.1 e
    · exact this.2.1 e
    · exact this.2.2.1 e
    · exact this.2.2.2 e
  refine { cell := hk.heap h.cell (hnd d (Or.inl rfl) (Or.inl rfl)), files := h.files.kept hk (hnd bm (Or.inr (Or.inl rfl)) (Or.inr (Or.inl rfl))), queue := own_kept h.queue hk (fun k e => hnd k (Or.inr (Or.inr (Or.inl e))) (Or.inr (Or.inr (Or.inl e)))), keep := own_kept h.keep hk (fun k e => hnd k (Or.inr (Or.inr (Or.inr (Or.inl e)))) (Or.inr (Or.inr (Or.inr e)))), file := hF.file, inv := hi, lost := h.lost, left := h.left, keepIn := h.keepIn, keepLen := h.keepLen, ownLt := hF.lt, ownNe := fun i hi k hx => ?_, ownOne := hF.one, apart := h.apart }
  rcases ho i hi k hx with h1 | h1
  · exact h.ownNe i hi k h1
  · have g1 := h.lt (Or.inl rfl)
    have g2 := h.lt (Or.inr (Or.inl rfl))
    exact ⟨by omega, by omega, fun e => by have := own_lt h.queue e; omega, fun e => by have := own_lt h.keep e; omega⟩

end Go.Proofs.YtljgfnglknpfaaaGreatDoor

namespace Go.Proofs.YtljgfnglknpfaaaGreatDoor
set_option maxRecDepth 100000
open Go Go.RowKit Go.Maps Dk

/-- A map of files with the numbers below N. -/
def FilesN (w : World) (b : Nat) (blk : Nat → Nat) (N : Nat) : Prop :=
  ∃ D : DataW Unit, w.ownsMap Tryz.prog 3 ptrElem b 16 D ∧ (∀ kl, Maps.has D kl = true → ∃ i : Nat, i < N ∧ kl = .int .i64 i) ∧
    ∀ i : Nat, i < N → Maps.has D (.int .i64 i) = true ∧ ∀ z, D.atKey (.int .i64 i) z = .lit (.int .i64 (blk i : Int))
theorem FilesN.kept {w w' : World} {S : Nat → Prop} {b : Nat} {blk : Nat → Nat} {N : Nat} (h : FilesN w b blk N) (hk : Kept S w w') (hn : ¬ S b) : FilesN w' b blk N := by
  obtain ⟨D, h1, h2⟩ := h
  exact ⟨D, ownsMap_kept h1 hk hn, h2⟩
theorem FilesN.store {w : World} {b : Nat} {blk : Nat → Nat} {N : Nat} (h : FilesN w b blk N) (i M : Nat) (hi : i < 16) (hM : M ≤ 16) (hNM : (N = M ∧ i < N) ∨ (M = N + 1 ∧ i = N)) (p : Nat) :
    ∃ w', (Instr.mapUpdate 50 (.map (some b)) (.int .i64 i) (.pointer (some ⟨p, 0, none⟩))).run Tryz.prog w = .ok () w' ∧ FilesN w' b (fun j => if j = i then p else blk j) M ∧ w.grownBy w' (some b) := by
  obtain ⟨D, h1, h2, h3⟩ := h
  obtain ⟨w', hrun, ho, hg⟩ := h1.update (val := .pointer (some ⟨p, 0, none⟩)) lawI Tryz.underlying50 (by unfold maxLen; omega) (keyI (n := (i : Int)) (by omega)) (ptrElem_mk p)
  have hm : Maps.IsMap D := by obtain ⟨es, hD, _⟩ := h1.entries lawI; exact ⟨es, hD⟩
  have hkey : WideAt.IsKeyLit (.int .i64 (i : Int)) := lawI.key (keyI (n := (i : Int)) (by omega))
  have hhas : ∀ kl, Maps.has (D.put (.int .i64 (i : Int)) (.lit (.int .i64 (p : Int)))) kl = true → ∃ m : Nat, m < M ∧ kl = .int .i64 m := by
    intro kl hk
    by_cases e : kl = .int .i64 (i : Int)
    · exact ⟨i, by omega, e⟩
    · rw [Maps.has_put_other e] at hk
      obtain ⟨m, h4, h5⟩ := h2 kl hk
      exact ⟨m, by omega, h5⟩
  refine ⟨w', hrun, ⟨_, own_tight ho (fun kl hk => ?_), hhas, fun m hs => ?_⟩, hg⟩
  · obtain ⟨m, h4, h5⟩ := hhas kl hk
    exact ⟨m, by omega, h5⟩
  · by_cases e : m = i
    · subst e
      have e1 : (fun j => if j = m then p else blk j) m = p := if_pos rfl
      rw [e1]
      exact ⟨Maps.has_put_same hm hkey _, fun z => Maps.atKey_put_same hm hkey _ _⟩
    · have hne : (Lit.int .i64 (m : Int)) ≠ .int .i64 (i : Int) := fun h => by injection h with _ h; omega
      have e1 : (fun j => if j = i then p else blk j) m = blk m := if_neg e
      rw [e1]
      exact ⟨by rw [Maps.has_put_other hne]; exact (h3 m (by omega)).1, fun z => by rw [Maps.atKey_put_other hne]; exact (h3 m (by omega)).2 z⟩

/-- The first k files of a disk under way, each in blocks of its own from block B on. -/
structure FilesTo (w : World) (B : Nat) (blk : Nat → Nat) (own : Nat → Nat → Prop) (g : Nat → F) (k : Nat) : Prop where
  file : ∀ i, i < k → FileIn w (blk i) (own i) (g i)
  lt : ∀ i, i < k → ∀ x, own i x → x < w.heap.size ∧ B ≤ x
  one : ∀ i j, i < k → j < k → i ≠ j → ∀ x, own i x → ¬ own j x
theorem FilesTo.kept {w w' : World} {T : Nat → Prop} {B : Nat} {blk : Nat → Nat} {own : Nat → Nat → Prop} {g : Nat → F} {k : Nat} (h : FilesTo w B blk own g k) (hk : Kept T w w') (hT : ∀ x, B ≤ x → ¬ T x) : FilesTo w' B blk own g k :=
  ⟨fun i hi => (h.file i hi).kept hk (fun x hx => hT x (h.lt i hi x hx).2), fun i hi x hx => ⟨Nat.lt_of_lt_of_le (h.lt i hi x hx).1 hk.size, (h.lt i hi x hx).2⟩, h.one⟩

set_option maxHeartbeats 1000000 in
set_option maxRecDepth 100000 in
theorem new_c (w : World) : Calls Tryz.prog 8 #[] w fun e w' => ∃ d, e = .returned (.pointer (some ⟨d, 0, none⟩)) ∧ DiskIn w' d (fun k => w.heap.size ≤ k) D.new ∧ Below w.heap.size w w' := by
  have hmm := fun w => run_makeMap (P := Tryz.prog) 50 w
  obtain ⟨W1, hW1⟩ : ∃ W1, W1 = (w.alloc (.map #[] 0)).alloc (.cells #[.map (some w.heap.size), .slice none 0 0, .bool false, .int .i64 0, .int .i64 0, .slice none 0 0] 53) := ⟨_, rfl⟩
  have hsz1 : W1.heap.size = w.heap.size + 2 := by rw [hW1]; simp
  have hb1 : Below w.heap.size w W1 := by rw [hW1]; exact ((Below.refl _ w).alloc (Nat.le_refl _) _).alloc (by simp) _
  have hd1 : W1.heap[w.heap.size + 1]? = some (.cells #[.map (some w.heap.size), .slice none 0 0, .bool false, .int .i64 0, .int .i64 0, .slice none 0 0] 53 (0, 0)) := by
    rw [hW1]
    have e := heap_alloc_new (w.alloc (.map #[] 0)) (.cells #[.map (some w.heap.size), .slice none 0 0, .bool false, .int .i64 0, .int .i64 0, .slice none 0 0] 53)
    rw [show (w.alloc (.map #[] 0)).heap.size = w.heap.size + 1 by simp] at e
    exact e
  have hm1 : FilesN W1 w.heap.size (fun _ => 0) 0 := by
    rw [hW1]
    refine FilesN.kept (w := w.alloc (.map #[] 0)) ⟨.map [], (World.ownsMap_made w _ _ _).mono (Nat.zero_le _), fun kl h => ?_, fun i hi => absurd hi (Nat.not_lt_zero _)⟩ (Kept.alloc (fun _ => False) _ _) (fun e => e)
    simp [Maps.has] at h
  have HB1 := Lib.hid hb1
  have HD1 := Lib.hid hd1
  have HM1 := Lib.hid hm1
  have HW1 := Lib.hid hW1
  have HS1 := Lib.hid hsz1
  clear hb1 hd1 hm1 hW1 hsz1
  go_enter Tryz.func8, Tryz.ntmps8
  go_wp2_with fail
  rw [← HW1.out]
  go_loopw [6] (fun v6 wr => ∃ (k : Nat) (blk : Nat → Nat) (own : Nat → Nat → Prop), k ≤ 16 ∧ v6 = .int .i64 (k : Int) ∧ wr.heap[w.heap.size + 1]? = some (.cells #[.map (some w.heap.size), .slice none 0 0, .bool false, .int .i64 0, .int .i64 0, .slice none 0 0] 53 (0, 0)) ∧
      FilesN wr w.heap.size blk k ∧ FilesTo wr (w.heap.size + 2) blk own (fun _ => F.new) k ∧ Below w.heap.size w wr) (fun v6 _ => 16 - (intOf v6).toNat)
  case atStart => exact ⟨0, _, fun _ _ => False, Nat.zero_le _, rfl, HD1.out, HM1.out, ⟨fun i hi => absurd hi (Nat.not_lt_zero _), fun i hi => absurd hi (Nat.not_lt_zero _), fun i j hi => absurd hi (Nat.not_lt_zero _)⟩, HB1.out⟩
  case round =>
    obtain ⟨k, blk, own, hk, rfl, hd, hm, hF, hb⟩ := hrel
    by_cases hk16 : k < 16
    · have hk16' : (k : Int) < 16 := by omega
      have hdl := (Array.getElem?_eq_some_iff.1 hd).1
      have c0 : wr.cell? ⟨w.heap.size + 1, 0, none⟩ = some (.map (some w.heap.size)) := by rw [Lib.cell_of_heap hd]; rfl
      have q := (newFile_c wr.drew).mono (R' := fun e w2 => ∃ p w3, e = .returned (.pointer (some ⟨p, 0, none⟩)) ∧ w2.cell? ⟨w.heap.size + 1, 0, none⟩ = some (.map (some w.heap.size)) ∧ (Instr.mapUpdate 50 (.map (some w.heap.size)) (.int .i64 k) (.pointer (some ⟨p, 0, none⟩))).run Tryz.prog w2 = .ok () w3 ∧
          Hid (∃ (blk' : Nat → Nat) (own' : Nat → Nat → Prop), w3.heap[w.heap.size + 1]? = some (.cells #[.map (some w.heap.size), .slice none 0 0, .bool false, .int .i64 0, .int .i64 0, .slice none 0 0] 53 (0, 0)) ∧
            FilesN w3 w.heap.size blk' (k + 1) ∧ FilesTo w3 (w.heap.size + 2) blk' own' (fun _ => F.new) (k + 1) ∧ Below w.heap.size w w3)) (by
        rintro e w2 ⟨p, mb, rfl, hFA, hb2, hp, hmb⟩
        have hsd : wr.drew.heap.size = wr.heap.size := rfl
        have hk2 : Kept (fun _ => False) wr w2 := (Kept.drew _ wr).trans (Kept.below hb2) (fun _ _ e => e)
        have hm2 := hm.kept hk2 (fun e => e)
        obtain ⟨w3, hrun, hm3, hg3⟩ := hm2.store k (k + 1) hk16 (by omega) (Or.inr ⟨rfl, rfl⟩) p
        have hk3 : Kept (fun x => x = w.heap.size) w2 w3 := Kept.grown hg3 (fun x e => by injection e with e; exact e.symm)
        have hd2 := hk2.heap hd (fun e => e)
        have hF3 := (hF.kept hk2 (fun _ _ e => e)).kept hk3 (fun x hx e => by omega)
        have hFA3 := hFA.kept hk3 (fun x hin e => by
          rcases hin with e1 | e1 | e1 | e1
          · omega
          · omega
          · cases e1
          · cases e1)
        refine ⟨p, w3, rfl, by rw [Lib.cell_of_heap hd2]; rfl, hrun, _, fun j x => if j = k then InF p (.slice none 0 0) (.slice none 0 0) mb x else own j x, hk3.heap hd2 (by omega), hm3, ⟨fun i hi => ?_, fun i hi x hx => ?_, fun i j hi hj hij x hx hx' => ?_⟩, ?_⟩
        · by_cases e : i = k
          · subst e
            simp only [if_pos]
            exact ⟨_, _, mb, hFA3, fun x hx => hx⟩
          · simp only [if_neg e]
            exact hF3.file i (by omega)
        · by_cases e : i = k
          · subst e
            simp only [if_pos] at hx
            refine ⟨hFA3.lt hx, ?_⟩
            rcases hx with e1 | e1 | e1 | e1
            · omega
            · omega
            · cases e1
            · cases e1
          · simp only [if_neg e] at hx
            exact hF3.lt i (by omega) x hx
        · have hfr : ∀ y, InF p (.slice none 0 0) (.slice none 0 0) mb y → wr.heap.size ≤ y := fun y hy => by
            rcases hy with e1 | e1 | e1 | e1
            · omega
            · omega
            · cases e1
            · cases e1
          by_cases e : i = k
          · subst e
            simp only [if_pos] at hx
            rw [if_neg (by omega)] at hx'
            have := (hF.lt j (by omega) x hx').1
            have := hfr x hx
            omega
          · rw [if_neg e] at hx
            by_cases e' : j = k
            · subst e'
              simp only [if_pos] at hx'
              have := (hF.lt i (by omega) x hx).1
              have := hfr x hx'
              omega
            · rw [if_neg e'] at hx'
              exact hF.one i j (by omega) (by omega) hij x hx hx'
        · exact (hb.trans (hk2.toBelow hb.size (fun _ e => e.elim))).trans (hk3.toBelow (Nat.le_trans hb.size hk2.size) (fun x e => by omega)))
      have Q := Lib.hid q
      clear hd hm hF hb q
      go_wp2_with fail
      go_region_law (go_simp; go_at_call 22; refine Q.out.mono ?_; rintro e w2 ⟨p, w3, rfl, j0, hrun, HP⟩)
      all_goals
        go_wp2_with fail
        go_roundw
        case rel =>
          obtain ⟨blk', own', h1, h2, h3, h4⟩ := HP.out
          exact ⟨k + 1, blk', own', hk16, by go_num, h1, h2, h3, h4⟩
        case measure => simp [intOf]; omega
    · have hk16' : ¬ (k : Int) < 16 := by omega
      obtain rfl : k = 16 := by omega
      have HD := Lib.hid hd
      have HM := Lib.hid hm
      have HF := Lib.hid hF
      have HB := Lib.hid hb
      clear hd hm hF hb
      go_wp2_with fail
      go_ret
      have hM : FilesAt wr w.heap.size blk := HM.out
      refine ⟨_, rfl, ⟨w.heap.size, blk, own, .slice none 0 0, .slice none 0 0, { cell := HD.out, files := hM, queue := World.ownsRow_nil _ _ _ _, keep := World.ownsRow_nil _ _ _ _, file := HF.out.file, inv := D.new_inv, lost := by decide, left := by decide, keepIn := (fun k hk => by cases hk), keepLen := by decide, ownLt := fun i hi x hx => (HF.out.lt i hi x hx).1, ownNe := fun i hi x hx => ?_, ownOne := HF.out.one, apart := ?_ }, fun k hin => ?_⟩, HB.out⟩
      · have := (HF.out.lt i hi x hx).2
        exact ⟨by omega, by omega, by simp [Value.ownBlock], by simp [Value.ownBlock]⟩
      · exact ⟨by omega, by simp [Value.ownBlock], by simp [Value.ownBlock], by simp [Value.ownBlock], by simp [Value.ownBlock], by simp [Value.ownBlock]⟩
      · rcases hin with e | e | e | e | ⟨i, hi, e⟩
        · omega
        · omega
        · cases e
        · cases e
        · have := (HF.out.lt i hi k e).2; omega
end Go.Proofs.YtljgfnglknpfaaaGreatDoor

namespace Go.Proofs.YtljgfnglknpfaaaGreatDoor
set_option maxRecDepth 100000
open Go Go.RowKit Go.Maps Dk

theorem PendAt.copy {w : World} {b : Nat} {s : Nat → Bool} (h : PendAt w b s) : ∃ es clock, w.heap[b]? = some (.map es clock) ∧ ∀ (w' : World) (b' : Nat), w'.heap[b']? = some (.map es clock) → PendAt w' b' s := by
  obtain ⟨D, ⟨es, clock, hb, r⟩, h2⟩ := h
  exact ⟨es, clock, hb, fun w' b' h' => ⟨D, ⟨es, clock, h', r⟩, h2⟩⟩

/-- What is known behind each of the copies of a file's parts. -/
structure Part (w w' : World) (p : Nat) (nv dv : Value) (mb : Nat) : Prop where
  c0 : w'.cell? ⟨p, 0, none⟩ = some nv
  c1 : w'.cell? ⟨p, 1, none⟩ = some dv
  c2 : w'.cell? ⟨p, 2, none⟩ = some (.map (some mb))

end Go.Proofs.YtljgfnglknpfaaaGreatDoor

namespace Go.Proofs.YtljgfnglknpfaaaGreatDoor
set_option maxRecDepth 100000
open Go Go.RowKit Go.Maps Dk

/-- The files that were copied so far, each in blocks of its own from block B on. -/
structure FilesDone (w : World) (B : Nat) (blk : Nat → Nat) (own : Nat → Nat → Prop) (g : Nat → F) (left : Nat → Bool) : Prop where
  file : ∀ i, i < 16 → left i = false → FileIn w (blk i) (own i) (g i)
  lt : ∀ i, i < 16 → ∀ x, own i x → x < w.heap.size ∧ B ≤ x
  one : ∀ i j, i < 16 → j < 16 → i ≠ j → ∀ x, own i x → ¬ own j x
theorem FilesDone.kept {w w' : World} {T : Nat → Prop} {B : Nat} {blk : Nat → Nat} {own : Nat → Nat → Prop} {g : Nat → F} {left : Nat → Bool} (h : FilesDone w B blk own g left) (hk : Kept T w w') (hT : ∀ x, B ≤ x → ¬ T x) : FilesDone w' B blk own g left :=
  ⟨fun i hi hl => (h.file i hi hl).kept hk (fun x hx => hT x (h.lt i hi x hx).2), fun i hi x hx => ⟨Nat.lt_of_lt_of_le (h.lt i hi x hx).1 hk.size, (h.lt i hi x hx).2⟩, h.one⟩
theorem secsV_one (q : List (Nat × Nat)) : ∀ u ∈ secsV q, u.oneCell' = true := by
  intro u hu
  unfold secsV at hu
  obtain ⟨p, _, hp⟩ := List.mem_flatMap.1 hu
  simp only [List.mem_cons, List.not_mem_nil, or_false] at hp
  rcases hp with rfl | rfl <;> rfl

end Go.Proofs.YtljgfnglknpfaaaGreatDoor

namespace Go.Proofs.YtljgfnglknpfaaaGreatDoor
set_option maxRecDepth 100000
open Go Go.RowKit Go.Maps Dk

theorem SrcV.on {w w' : World} {size : Nat} {v : Value} {n : Nat} {xs : List Value} (h : SrcV w size v n xs) (hb : Below w.heap.size w w') : SrcV w' size v n xs := by
  obtain ⟨a, c, h1, h2, h3, h4⟩ := h
  exact ⟨a, c, h1, h2, h3, fun ad e j u hu => (Kept.below (S := fun _ => False) hb).cell (h4 ad e j u hu) (fun e => e)⟩
theorem cell_plainD {w : World} {a : Addr} {v : Value} (h : w.cell? a = some v) : ∃ b off, a = ⟨b, off, none⟩ := by
  obtain ⟨b, off, spot⟩ := a
  cases spot with
  | none => exact ⟨b, off, rfl⟩
  | some s =>
    exfalso
    unfold World.cell? at h
    split at h
    · simp at h
    · cases h
theorem SrcV.keepAt {w w' : World} {v : Value} {l : List Int} (h : SrcV w 1 v l.length (intsV l)) (hb : Below w.heap.size w w') {S : Nat → Prop} (hS : ∀ k, S k → w.heap.size ≤ k) : KeepAt w' v l S := by
  obtain ⟨a, c, h1, h2, h3, h4⟩ := h
  refine ⟨a, c, h1, fun hne => ?_⟩
  cases a with
  | none => exact absurd (List.eq_nil_of_length_eq_zero (h3 rfl)) hne
  | some ad =>
    cases l with
    | nil => exact absurd rfl hne
    | cons x l =>
      have h0 := h4 ad rfl 0 (.int .i64 x) (by simp [intsV])
      obtain ⟨b, off, hbo⟩ := cell_plainD h0
      have had : ad = ⟨b, off, none⟩ := by
        cases ad
        simp [Addr.add] at hbo
        simp [hbo]
      subst had
      rw [Lib.add_plain] at h0
      refine ⟨b, off, rfl, fun hs => ?_, fun j y hy => ?_⟩
      · have := hS b hs
        have := World.block_lt_of_cell? _ _ h0
        simp at this
        omega
      · have := h4 ⟨b, off, none⟩ rfl j (.int .i64 y) (by simp only [intsV, List.getElem?_map, hy]; rfl)
        rw [Lib.add_plain] at this
        exact (Kept.below (S := fun _ => False) hb).cell this (fun e => e)

/-- An act. -/
structure Act where
  op : Int
  f : Int
  n : Int
  s : List UInt8
  keep : List Int
def In64 (n : Int) : Prop := -9223372036854775808 ≤ n ∧ n ≤ 9223372036854775807
structure Act.Ok (a : Act) : Prop where
  op : In64 a.op
  f : In64 a.f
  n : In64 a.n
  s : a.s.length ≤ 9223372036854775807
  keep : a.keep.length ≤ 4398046511104
  keepIn : ∀ k ∈ a.keep, In64 k

def code (a : Act) : Int := bits .and .i64 a.op 7
def doM (X : D) (a : Act) : D × Int :=
  if code a = 2 then X.sync a.f else if code a = 3 then X.trunc a.f a.n else if code a = 4 then (X.lose (bits .and .i64 a.n 3), 0) else if code a = 5 then (X.arm a.n a.keep, 0)
  else if code a = 6 then (X.crash a.keep, 0) else if code a = 7 then (X.start, 0) else X.write a.f a.n a.s
theorem Kept.first {S : Nat → Prop} {w W0 w' : World} (h0 : Below w.heap.size w W0) (hk : Kept S W0 w') : Kept S w w' := (Kept.below h0).trans hk (fun _ _ e => e)
theorem DiskIn.first {S : Nat → Prop} {w W0 w' : World} {d : Nat} {X : D} (h0 : w.heap.size ≤ W0.heap.size) (h : DiskIn w' d (After S W0) X) : DiskIn w' d (After S w) X := h.mono (fun k _ e => by
  rcases e with e | e
  · exact Or.inl e
  · exact Or.inr (Nat.le_trans h0 e))
theorem DiskIn.plain {S : Nat → Prop} {w' w0 : World} {d : Nat} {X : D} (h : DiskIn w' d S X) : DiskIn w' d (After S w0) X := h.mono (fun _ _ e => Or.inl e)

theorem armIn_c (d : Nat) (S : Nat → Prop) (X : D) (n : Int) (hn : n ≤ 9223372036854775807) (v : Value) (l : List Int) (w : World) (h : DiskIn w d S X) (hs : SrcV w 1 v l.length (intsV l)) (hl : l.length ≤ 4398046511104)
    (hin : ∀ k ∈ l, -9223372036854775808 ≤ k ∧ k ≤ 9223372036854775807) :
    Calls Tryz.prog 11 #[.pointer (some ⟨d, 0, none⟩), .int .i64 n, v] w fun e w' => e = .returned (.tuple #[]) ∧ DiskIn w' d (After S w) (X.arm n l) ∧ Kept S w w' := by
  obtain ⟨bm, blk, own, qv, kv, h, hS⟩ := h
  refine (arm_at d bm blk own qv kv X n hn v l w h hs hl hin).mono ?_
  rintro e w' ⟨rfl, kv', hd, hk, hf⟩
  exact ⟨rfl, DiskIn.of hS hd (fun i _ k e => Or.inl e) (fun k e => Or.inl e) (fun k e => Or.inr (hf k e)), hk.mono (fun k _ e => by subst e; exact hS _ (Or.inl rfl))⟩
theorem KeepAt.on {w w' : World} {v : Value} {l : List Int} {T : Nat → Prop} (h : KeepAt w v l T) (hb : Below w.heap.size w w') : KeepAt w' v l T := by
  obtain ⟨a, c, h1, h2⟩ := h
  refine ⟨a, c, h1, fun hne => ?_⟩
  obtain ⟨b, off, h3, h4, h5⟩ := h2 hne
  exact ⟨b, off, h3, h4, fun j x hx => (Kept.below (S := fun _ => False) hb).cell (h5 j x hx) (fun e => e)⟩

end Go.Proofs.YtljgfnglknpfaaaGreatDoor

namespace Go.Proofs.YtljgfnglknpfaaaGreatDoor
set_option maxRecDepth 100000
open Go Go.RowKit Go.Maps Dk

namespace Ex
def s1 : D := (D.new.write 0 0 [97, 98, 99]).1
def s2 : D := (s1.sync 0).1
def s3 : D := (s2.write 0 1 [88, 89]).1
def s4 : D := s3.crash [1]
def s5 : D := s4.start
def c4 : D := s3.crash [0]
def c5 : D := c4.start
def c6 : D := (c5.write 1 62 [97, 98, 99, 100]).1
def c7 : D := c6.crash [0, 1]
def c8 : D := c7.start
def c9 : D := (c8.write 16 0 []).1
theorem r1 : (D.new.write 0 0 [97, 98, 99]).2 = 0 := by kernel_rfl
theorem r2 : (s1.sync 0).2 = 0 := by kernel_rfl
theorem r4 : s4.down = true := by kernel_rfl
theorem r5 : s4.read 0 0 9 = ([], 9) := by kernel_rfl
theorem r6 : s5.read 0 0 9 = ([97, 88, 89], 0) := by kernel_rfl
theorem r7 : c5.read 0 1 9 = ([98, 99], 0) := by kernel_rfl
theorem r8 : (c5.write 1 62 [97, 98, 99, 100]).2 = 0 := by kernel_rfl
theorem r9 : c8.read 1 60 100 = ([0, 0, 0, 0, 99, 100], 0) := by kernel_rfl
theorem r10 : c8.size 1 = 66 := by kernel_rfl
theorem r11 : (c8.write 16 0 []).2 = 1 := by kernel_rfl
theorem r12 : (c9.write 1 16777216 [97]).2 = 6 := by kernel_rfl
end Ex

theorem DiskIn.up {B : Nat} {w0 w : World} {d : Nat} {X : D} (h : DiskIn w d (After (fun k => B ≤ k) w0) X) (hB : B ≤ w0.heap.size) : DiskIn w d (fun k => B ≤ k) X := h.mono (fun k _ e => by
  rcases e with e | e
  · exact e
  · exact Nat.le_trans hB e)
theorem in0 : -9223372036854775808 ≤ (0 : Int) ∧ (0 : Int) ≤ 9223372036854775807 := by omega
/-- A slice of numbers that was just laid. -/
theorem keep_new (w : World) (l : List Int) (c : Nat) (T : Nat → Prop) (hT : ¬ T w.heap.size) : KeepAt (w.alloc (.cells (intsV l).toArray 3)) (.slice (some ⟨w.heap.size, 0, none⟩) l.length c) l T := by
  refine ⟨_, c, rfl, fun _ => ⟨w.heap.size, 0, rfl, hT, fun j x hx => ?_⟩⟩
  rw [Lib.cell_of_heap (heap_alloc_new w _)]
  simp [intsV, hx]
theorem KeepAt.cast {w : World} {v v' : Value} {l : List Int} {T : Nat → Prop} (h : KeepAt w v l T) (e : v = v') : KeepAt w v' l T := e ▸ h

end Go.Proofs.YtljgfnglknpfaaaGreatDoor

namespace Go.Proofs.YtljgfnglknpfaaaGreatDoor
set_option maxRecDepth 100000
open Go Go.RowKit Go.Maps Dk

/-- A list of acts that came in. -/
def ActsOf (P : Act → Prop) (w : World) (v : Value) (l : List Act) : Prop :=
  l.length ≤ 9223372036854775807 ∧ ∃ a c, v = .slice a l.length c ∧ ∀ i x, l[i]? = some x → ∃ b off ka kc, a = some ⟨b, off, none⟩ ∧
    (w.cell? ⟨b, off + i * 5, none⟩ = some (.int .i64 x.op) ∧ w.cell? ⟨b, off + i * 5 + 1, none⟩ = some (.int .i64 x.f) ∧ w.cell? ⟨b, off + i * 5 + 2, none⟩ = some (.int .i64 x.n) ∧ w.cell? ⟨b, off + i * 5 + 3, none⟩ = some (.string ⟨x.s.toArray⟩) ∧
      w.cell? ⟨b, off + i * 5 + 4, none⟩ = some (.slice ka x.keep.length kc)) ∧ SrcV w 1 (.slice ka x.keep.length kc) x.keep.length (intsV x.keep) ∧ P x
theorem ActsOf.on {P : Act → Prop} {w w' : World} {v : Value} {l : List Act} (h : ActsOf P w v l) (hb : Below w.heap.size w w') : ActsOf P w' v l := by
  obtain ⟨h0, a, c, h1, h2⟩ := h
  refine ⟨h0, a, c, h1, fun i x hx => ?_⟩
  obtain ⟨b, off, ka, kc, h3, ⟨c0, c1, c2, c3, c4⟩, h4, h5⟩ := h2 i x hx
  have hk : ∀ {p : Addr} {v : Value}, w.cell? p = some v → w'.cell? p = some v := fun hp => (Kept.below (S := fun _ => False) hb).cell hp (fun e => e)
  exact ⟨b, off, ka, kc, h3, ⟨hk c0, hk c1, hk c2, hk c3, hk c4⟩, h4.on hb, h5⟩
theorem ActsOf.mono {P Q : Act → Prop} {w : World} {v : Value} {l : List Act} (h : ActsOf P w v l) (hPQ : ∀ x ∈ l, P x → Q x) : ActsOf Q w v l := by
  obtain ⟨h0, a, c, h1, h2⟩ := h
  refine ⟨h0, a, c, h1, fun i x hx => ?_⟩
  obtain ⟨b, off, ka, kc, h3, h4, h5, h6⟩ := h2 i x hx
  exact ⟨b, off, ka, kc, h3, h4, h5, hPQ x (List.mem_of_getElem? hx) h6⟩
/-- An act, as it may come in: its list of numbers may be long. -/
structure Act.Fit (a : Act) : Prop where
  op : In64 a.op
  f : In64 a.f
  n : In64 a.n
  s : a.s.length ≤ 9223372036854775807
  keepIn : ∀ k ∈ a.keep, In64 k
abbrev ActsAt (w : World) (v : Value) (l : List Act) : Prop := ActsOf Act.Ok w v l
abbrev ActsIn (w : World) (v : Value) (l : List Act) : Prop := ActsOf Act.Fit w v l
theorem ActsOf.toIn {w : World} {v : Value} {l : List Act} (h : ActsAt w v l) : ActsIn w v l := h.mono fun _ _ ok => ⟨ok.op, ok.f, ok.n, ok.s, ok.keepIn⟩

def fine (x : Act) : Bool := !(decide (300 < x.s.length) || decide (60 < x.keep.length) || (decide (3000 < x.n) && decide (x.n < 16776916)))
def fewM (l : List Act) : Bool := l.all fine && decide (l.length ≤ 40)
theorem ActsOf.few {w : World} {v : Value} {l : List Act} (h : ActsIn w v l) (hf : fewM l = true) : ActsAt w v l := by
  refine h.mono fun x hx ok => ⟨ok.op, ok.f, ok.n, ok.s, ?_, ok.keepIn⟩
  unfold fewM at hf
  rw [Bool.and_eq_true, List.all_eq_true] at hf
  have := hf.1 x hx
  unfold fine at this
  simp only [Bool.not_eq_true', Bool.or_eq_false_iff, decide_eq_false_iff_not] at this
  omega

def playM (l : List Act) : D := l.foldl (fun X a => (doM X a).1) D.new

end Go.Proofs.YtljgfnglknpfaaaGreatDoor

namespace Go.Proofs.YtljgfnglknpfaaaGreatDoor
set_option maxRecDepth 100000
open Go Go.RowKit Go.Maps Dk

theorem ba_size' (l : List UInt8) : (⟨l.toArray⟩ : ByteArray).size = l.length := by show l.toArray.size = _; simp
theorem ba_extract' (q : List UInt8) (i j : Nat) : (⟨q.toArray⟩ : ByteArray).extract i j = ⟨((q.take j).drop i).toArray⟩ := by
  apply ByteArray.ext
  rw [ByteArray.data_extract]
  simp [List.drop_take]
theorem slice_str (l : List UInt8) (i j : Nat) (h1 : i ≤ j) (h2 : j ≤ l.length) (wx : World) : (Instr.slice 9 (.string ⟨l.toArray⟩) (some (.int .i64 (i : Int))) (some (.int .i64 (j : Int))) none).run Tryz.prog wx = .ok (.string ⟨((l.take j).drop i).toArray⟩) wx := by
  rw [run_slice_string wx 9 ⟨l.toArray⟩ .i64 .i64 i j Tryz.underlying9 (by omega) (by omega) (by rw [ba_size']; omega)]
  simp only [Int.toNat_natCast]
  rw [ba_extract']
theorem slice_str_h (l : List UInt8) (j : Nat) (h2 : j ≤ l.length) (wx : World) : (Instr.slice 9 (.string ⟨l.toArray⟩) none (some (.int .i64 (j : Int))) none).run Tryz.prog wx = .ok (.string ⟨(l.take j).toArray⟩) wx := by
  rw [run_slice_string_h wx 9 ⟨l.toArray⟩ Tryz.underlying9 .i64 j (by omega) (by rw [ba_size']; omega)]
  simp only [Int.toNat_natCast]
  rw [ba_extract']
  rfl

/-! ### What the model says -/
theorem strike_zero {X : D} (h : X.left = 0) : X.strike = (X, false) := by unfold D.strike; rw [if_pos h]
theorem saveAll_nil : ∀ (q : List (Nat × Nat)) (i : Nat) (g : Nat → F), saveAll [] q i g = g
  | [], _, _ => rfl
  | p :: q, i, g => by
    have e : surv [] i = false := rfl
    show saveAll [] q (i + 1) (if surv [] i then saveAt g p else g) = g
    rw [e]
    exact saveAll_nil q (i + 1) g
theorem ok_nat {i : Nat} (h : i < 16) : ok (i : Int) = true := by simp [ok]; omega
theorem write_good {X : D} (hd : X.down = false) (hl : X.left = 0) {i a : Nat} {s : List UInt8} (hi : i < 16) (ha : a + s.length ≤ 16777216) :
    X.write (i : Int) (a : Int) s = ({ X with file := upd X.file i ((X.file i).write a s), queue := X.queue ++ ((X.file i).added a s).map fun n => (i, n) }, 0) := by
  have hput : X.put (i : Int) (a : Int) s = ({ X with file := upd X.file i ((X.file i).write a s), queue := X.queue ++ ((X.file i).added a s).map fun n => (i, n) }, 0) := by
    unfold D.put
    have e2 : decide (0 ≤ (a : Int)) = true := by simp
    rw [ok_nat hi, e2, if_pos (by rfl), if_pos (by omega)]
    simp only [Int.toNat_natCast]
  unfold D.write
  rw [if_neg (by rw [hd]; simp), hput]
  dsimp only
  rw [strike_zero (by exact hl)]
  rfl
theorem read_good {X : D} (hd : X.down = false) {i a n : Nat} (hi : i < 16) : X.read (i : Int) (a : Int) (n : Int) = (((X.file i).now.drop a).take n, 0) := by
  unfold D.read
  have e1 : decide (0 ≤ (a : Int)) = true := by simp
  have e2 : decide (0 ≤ (n : Int)) = true := by simp
  rw [if_neg (by rw [hd]; simp), ok_nat hi, e1, e2, if_pos (by rfl)]
  simp only [Int.toNat_natCast]
theorem size_good {X : D} {i : Nat} (hi : i < 16) : X.size (i : Int) = (X.file i).now.length := by
  unfold D.size
  rw [ok_nat hi, if_pos rfl]
  simp only [Int.toNat_natCast]
theorem put_read (b s : List UInt8) (a : Nat) : ((put b a s).drop a).take s.length = s := by
  unfold put
  have h : ((b ++ List.replicate (a - b.length) 0).take a).length = a := by simp; omega
  rw [List.drop_append, h, List.drop_of_length_le (by omega), List.nil_append, Nat.sub_self, List.drop_zero, List.take_left]
theorem trunc_good {X : D} (hd : X.down = false) (hl : X.left = 0) {i n : Nat} (hi : i < 16) (hn : n ≤ (X.file i).now.length) :
    X.trunc (i : Int) (n : Int) = ({ X.settle i with file := upd (X.settle i).file i (((X.settle i).file i).cut n) }, 0) := by
  unfold D.trunc
  rw [if_neg (by rw [hd]; simp), strike_zero hl]
  dsimp only
  have e1 : decide (0 ≤ (n : Int)) = true := by simp
  have e2 : decide ((n : Int) ≤ ((X.file (i : Int).toNat).now.length : Int)) = true := by rw [decide_eq_true_eq]; simp only [Int.toNat_natCast]; omega
  rw [if_neg (by simp), ok_nat hi, e1, e2, if_pos (by rfl)]
  simp only [Int.toNat_natCast]
theorem crash_none {X : D} (hd : X.down = false) : X.crash [] = ⟨fun f => (X.file f).revert, [], true, X.lost, 0, []⟩ := by
  unfold D.crash
  rw [if_neg (by rw [hd]; simp)]
  simp only [saveAll_nil]

def readsEarly (l : List Act) (at' : Int) (s : List UInt8) (size : Int) : Bool := !fewM l || decide (300 < s.length) || decide (at' < 0) || decide (3000 < at') || decide (size < 0)

theorem write_bad {X : D} (hl : X.left = 0) (f a : Int) (s : List UInt8) (h : (X.down || !ok f) = true) : (X.write f a s).2 = 9 ∨ (X.write f a s).2 = 1 := by
  unfold D.write
  cases hd : X.down with
  | true => exact Or.inl rfl
  | false =>
    rw [hd] at h
    have hf : ok f = false := by simpa using h
    have hp : X.put f a s = (X, 1) := by
      unfold D.put
      rw [hf, if_neg (by simp)]
    rw [if_neg (by simp), hp]
    dsimp only
    rw [strike_zero hl]
    exact Or.inr rfl
theorem mid_eq (q : List UInt8) (a z fr m : Nat) (h1 : fr = min a q.length) (h2 : m = min z (q.length - fr)) : (q.drop a).take z = (q.take (fr + m)).drop fr := by
  rw [List.drop_take, Nat.add_sub_cancel_left]
  subst h1 h2
  by_cases h : a ≤ q.length
  · rw [Nat.min_eq_left h]
    by_cases hz : z ≤ q.length - a
    · rw [Nat.min_eq_left hz]
    · rw [Nat.min_eq_right (by omega), List.take_of_length_le (by simp; omega), List.take_of_length_le (by simp)]
  · have e : min a q.length = q.length := by omega
    rw [e, List.drop_of_length_le (by omega), List.drop_of_length_le (Nat.le_refl _)]
    simp
theorem nil_src (w : World) : SrcV w 1 (.slice none 0 0) 0 (intsV []) := ⟨none, 0, rfl, rfl, fun _ => rfl, fun ad e => by cases e⟩
theorem nil_keep (w : World) (T : Nat → Prop) : KeepAt w (.slice none 0 0) [] T := ⟨none, 0, rfl, fun h => absurd rfl h⟩
theorem DiskIn.inv {w : World} {d : Nat} {S : Nat → Prop} {X : D} (h : DiskIn w d S X) : X.Inv := by
  obtain ⟨bm, blk, own, qv, kv, h, _⟩ := h
  exact h.inv

end Go.Proofs.YtljgfnglknpfaaaGreatDoor
