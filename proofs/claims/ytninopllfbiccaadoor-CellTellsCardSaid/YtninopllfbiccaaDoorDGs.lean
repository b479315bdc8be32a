/-
  The reference's disk and the model of the disk: they stand alike, and each act keeps them so.
-/
import Derived.Test.YtninopllfbiccaaDoorDGk
import Derived.Test.YtninopllfbiccaaDoorDArms
namespace Go.Proofs.YtninopllfbiccaaDoor
set_option maxRecDepth 100000
open Go Go.RowKit Go.Maps Dk

structure Sim (X : R) (Y : D) : Prop where
  file : ∀ i : Nat, i < 16 → (getR X.fs (i : Int)).now = (Y.file i).now ∧ (getR X.fs (i : Int)).dur = (Y.file i).dur
  range : ∀ x ∈ X.fs, 0 ≤ x.num ∧ x.num < 16
  nodup : X.fs.Pairwise fun a b => a.num ≠ b.num
  q : X.q = Y.queue
  lost : X.lost = Y.lost
  down : X.down = Y.down
  left : X.left = Y.left
  keep : 0 < Y.left → X.keep = Y.keep
  inv : Y.Inv
  lostB : (Y.lost : Int) ≤ 9223372036854775807
  leftB : (Y.left : Int) ≤ 9223372036854775807
  keepIn : ∀ k ∈ X.keep, -9223372036854775808 ≤ k ∧ k ≤ 9223372036854775807
  keepLen : X.keep.length ≤ 4398046511104

theorem getR_mem : ∀ {fs : List RF}, fs.Pairwise (fun a b => a.num ≠ b.num) → ∀ {x : RF}, x ∈ fs → getR fs x.num = x
  | [], _, x, hx => by cases hx
  | y :: fs, h, x, hx => by
    obtain ⟨h1, h2⟩ := List.pairwise_cons.1 h
    unfold getR
    rcases List.mem_cons.1 hx with e | hx
    · subst e
      rw [List.find?_cons_of_pos (by simp)]
      rfl
    · rw [List.find?_cons_of_neg (by simpa using h1 x hx)]
      exact getR_mem h2 hx
theorem Sim.rok {X : R} {Y : D} (h : Sim X Y) : X.Ok := by
  refine ⟨h.range, h.nodup, fun x hx => ?_, ?_, fun p hp => ?_, by rw [h.lost]; exact h.lostB, by rw [h.left]; exact h.leftB, h.keepIn, h.keepLen⟩
  · have hr := h.range x hx
    obtain ⟨i, hi⟩ := Int.eq_ofNat_of_zero_le hr.1
    have hf := h.file i (by omega)
    have e : getR X.fs (i : Int) = x := by rw [← hi]; exact getR_mem h.nodup hx
    rw [e] at hf
    have hI := h.inv.file i (by omega)
    rw [hf.1, hf.2]
    exact ⟨hI.small, Nat.le_trans hI.le hI.small⟩
  · rw [h.q]
    have := queue_len h.inv
    omega
  · rw [h.q] at hp
    obtain ⟨f, n⟩ := p
    have h1 := (h.inv.queue f n).1 hp
    have h2 := (h.inv.file f h1.1).inside n h1.2
    have h3 := (h.inv.file f h1.1).small
    exact ⟨h1.1, by show n ≤ 262144; omega⟩
/-- The files are what counts. -/
theorem Sim.turn {X X' : R} {Y Y' : D} (h : Sim X Y) (hf : X'.fs = X.fs) (hq : X'.q = X.q) (hf' : Y'.file = Y.file) (hq' : Y'.queue = Y.queue) (lost : X'.lost = Y'.lost) (down : X'.down = Y'.down) (left : X'.left = Y'.left) (keep : 0 < Y'.left → X'.keep = Y'.keep)
    (lostB : (Y'.lost : Int) ≤ 9223372036854775807) (leftB : (Y'.left : Int) ≤ 9223372036854775807) (keepIn : ∀ k ∈ X'.keep, -9223372036854775808 ≤ k ∧ k ≤ 9223372036854775807) (keepLen : X'.keep.length ≤ 4398046511104) : Sim X' Y' :=
  ⟨by rw [hf, hf']; exact h.file, by rw [hf]; exact h.range, by rw [hf]; exact h.nodup, by rw [hq, hq']; exact h.q, lost, down, left, keep, ⟨by rw [hf']; exact h.inv.file, by rw [hf', hq']; exact h.inv.queue, by rw [hq']; exact h.inv.nodup⟩, lostB, leftB, keepIn, keepLen⟩
theorem setR_range {fs : List RF} (h : ∀ x ∈ fs, 0 ≤ x.num ∧ x.num < 16) {x : RF} (hx : 0 ≤ x.num ∧ x.num < 16) : ∀ y ∈ setR fs x, 0 ≤ y.num ∧ y.num < 16 := fun y hy => by
  rcases List.mem_append.1 hy with hy | hy
  · exact h y (List.mem_filter.1 hy).1
  · obtain rfl := List.mem_singleton.1 hy; exact hx
theorem setR_nodup {fs : List RF} (h : fs.Pairwise fun a b => a.num ≠ b.num) (x : RF) : (setR fs x).Pairwise fun a b => a.num ≠ b.num := by
  unfold setR
  rw [List.pairwise_append]
  refine ⟨h.filter _, List.pairwise_singleton _ _, fun a ha b hb => ?_⟩
  obtain rfl := List.mem_singleton.1 hb
  have := (List.mem_filter.1 ha).2
  simpa using this
/-- One file set on both sides. -/
theorem sim_set {fs : List RF} {g : Nat → F} (h : ∀ i : Nat, i < 16 → (getR fs (i : Int)).now = (g i).now ∧ (getR fs (i : Int)).dur = (g i).dur) (j : Nat) (x : F) : ∀ i : Nat, i < 16 → (getR (setR fs ⟨(j : Int), x.now, x.dur⟩) (i : Int)).now = (upd g j x i).now ∧ (getR (setR fs ⟨(j : Int), x.now, x.dur⟩) (i : Int)).dur = (upd g j x i).dur := fun i hi => by
  by_cases hij : i = j
  · subst hij
    have e := getR_set_same fs ⟨(i : Int), x.now, x.dur⟩
    simp only at e
    rw [e, upd_same]
    exact ⟨rfl, rfl⟩
  · rw [getR_set_other fs ⟨(j : Int), x.now, x.dur⟩ (by simp; omega), upd_other _ _ hij]
    exact h i hi
theorem pendR_iff (q : List (Nat × Nat)) (f n : Nat) : pendR q (f : Int) (n : Int) = true ↔ (f, n) ∈ q := by
  unfold pendR
  rw [List.any_eq_true]
  constructor
  · rintro ⟨⟨a, b⟩, hp, h⟩
    simp only [Bool.and_eq_true, beq_iff_eq] at h
    obtain ⟨h1, h2⟩ := h
    have e1 : a = f := by omega
    have e2 : b = n := by omega
    subst e1 e2
    exact hp
  · intro hp
    exact ⟨(f, n), hp, by simp⟩
theorem Sim.pend {X : R} {Y : D} (h : Sim X Y) {i : Nat} (hi : i < 16) (n : Nat) : pendR X.q (i : Int) (n : Int) = (Y.file i).pend n := by
  have h1 := pendR_iff X.q i n
  have h2 := h.inv.queue i n
  rw [h.q] at h1 ⊢
  cases hp : (Y.file i).pend n with
  | true => exact h1.2 (h2.2 ⟨hi, hp⟩)
  | false =>
    cases hq : pendR Y.queue (i : Int) (n : Int) with
    | false => rfl
    | true =>
      have := (h2.1 (h1.1 hq)).2
      rw [hp] at this
      cases this
theorem put_left' (X : D) (f a : Int) (s : List UInt8) : (X.put f a s).1.left = X.left ∧ (X.put f a s).1.down = X.down ∧ (X.put f a s).1.lost = X.lost ∧ (X.put f a s).1.keep = X.keep := by
  unfold D.put
  split
  · split <;> exact ⟨rfl, rfl, rfl, rfl⟩
  · exact ⟨rfl, rfl, rfl, rfl⟩
theorem put_fits {Y : D} {i a : Nat} {s : List UInt8} (hi : i < 16) (ha : a + s.length ≤ 16777216) : Y.put (i : Int) (a : Int) s = ({ Y with file := upd Y.file i ((Y.file i).write a s), queue := Y.queue ++ ((Y.file i).added a s).map fun n => (i, n) }, 0) := by
  unfold D.put
  have e2 : decide (0 ≤ (a : Int)) = true := by simp
  rw [ok_nat hi, e2, if_pos (by rfl), if_pos (by omega)]
  simp only [Int.toNat_natCast]
theorem Sim.add {X : R} {Y : D} (h : Sim X Y) {i a : Nat} {s : List UInt8} (hi : i < 16) (ha : a + s.length ≤ 16777216) : Sim (addR X i a s) (Y.put (i : Int) (a : Int) s).1 := by
  have hinv := D.put_inv h.inv (i : Int) (a : Int) s
  rw [put_fits hi ha] at hinv ⊢
  by_cases hs : s = []
  · subst hs
    rw [addR_nil]
    refine h.turn rfl rfl ?_ ?_ h.lost h.down h.left h.keep h.lostB h.leftB h.keepIn h.keepLen
    · show upd Y.file i ((Y.file i).write a []) = Y.file
      unfold F.write
      rw [if_pos rfl]
      exact upd_id _ _
    · show Y.queue ++ ((Y.file i).added a []).map _ = Y.queue
      unfold F.added
      rw [if_pos rfl]
      simp
  · have hw : (Y.file i).write a s = { Y.file i with now := put (Y.file i).now a s, pend := fun n => (Y.file i).pend n || (decide (a / 64 ≤ n) && decide (n ≤ (a + s.length - 1) / 64)) } := by unfold F.write; rw [if_neg hs]
    have hf := h.file i hi
    unfold addR
    rw [if_neg hs]
    refine ⟨?_, setR_range h.range ⟨by show 0 ≤ (i : Int); omega, by show (i : Int) < 16; omega⟩, setR_nodup h.nodup _, ?_, h.lost, h.down, h.left, h.keep, hinv, h.lostB, h.leftB, h.keepIn, h.keepLen⟩
    · have := sim_set h.file i ((Y.file i).write a s)
      rw [hw] at this ⊢
      rw [hf.1, hf.2]
      exact this
    · show X.q ++ newR X.q i (secs a s.length) = Y.queue ++ ((Y.file i).added a s).map fun n => (i, n)
      rw [h.q]
      congr 1
      unfold newR F.added
      rw [if_neg hs]
      congr 1
      refine List.filter_congr (fun n _ => ?_)
      rw [← h.q, h.pend hi n]
theorem noR_eq (q : List (Nat × Nat)) (i : Nat) : noR q (i : Int) = q.filter fun p => p.1 != i := by
  unfold noR
  refine List.filter_congr (fun p _ => ?_)
  by_cases e : p.1 = i
  · subst e
    rw [show ((p.1 : Int) != (p.1 : Int)) = false from by rw [bne_self_eq_false], show (p.1 != p.1) = false from by rw [bne_self_eq_false]]
  · have e1 : ((p.1 : Int) != (i : Int)) = true := bne_iff_ne.2 (fun h => e (by omega))
    have e2 : (p.1 != i) = true := bne_iff_ne.2 e
    rw [e1, e2]
theorem Sim.settle {X : R} {Y : D} (h : Sim X Y) {i : Nat} (hi : i < 16) : Sim (settleR X (i : Int) (getR X.fs (i : Int)).now) (Y.settle i) := by
  have hf := h.file i hi
  refine ⟨?_, setR_range h.range ⟨by show 0 ≤ (i : Int); omega, by show (i : Int) < 16; omega⟩, setR_nodup h.nodup _, ?_, h.lost, h.down, h.left, h.keep, D.settle_inv h.inv hi, h.lostB, h.leftB, h.keepIn, h.keepLen⟩
  · have := sim_set h.file i (Y.file i).settle
    show ∀ j : Nat, j < 16 → (getR (setR X.fs ⟨(i : Int), (getR X.fs (i : Int)).now, (getR X.fs (i : Int)).now⟩) (j : Int)).now = _ ∧ _
    rw [hf.1]
    exact this
  · show noR X.q (i : Int) = Y.queue.filter fun p => p.1 != i
    rw [h.q, noR_eq]

theorem Sim.trunc {X : R} {Y : D} (h : Sim X Y) {i n : Nat} (hi : i < 16) (hn : n ≤ (Y.file i).now.length) : Sim (settleR X (i : Int) ((getR X.fs (i : Int)).now.take n)) { Y.settle i with file := upd (Y.settle i).file i (((Y.settle i).file i).cut n) } := by
  have hf := h.file i hi
  have hq := D.settle_inv h.inv hi
  have hinv : D.Inv { Y.settle i with file := upd (Y.settle i).file i (((Y.settle i).file i).cut n) } := by
    refine ⟨fun g hg => ?_, fun g m => ?_, hq.nodup⟩
    · show (upd (Y.settle i).file i _ g).Inv
      unfold upd
      split
      · refine F.cut_inv (hq.file _ hi) (fun m => ?_)
        simp [D.settle, upd_same, F.settle]
      · exact hq.file g hg
    · rw [hq.queue]
      show g < 16 ∧ ((Y.settle i).file g).pend m = true ↔ g < 16 ∧ (upd (Y.settle i).file i _ g).pend m = true
      unfold upd
      split
      · next e => subst e; rfl
      · rfl
  refine ⟨?_, setR_range h.range ⟨by show 0 ≤ (i : Int); omega, by show (i : Int) < 16; omega⟩, setR_nodup h.nodup _, ?_, h.lost, h.down, h.left, h.keep, hinv, h.lostB, h.leftB, h.keepIn, h.keepLen⟩
  · have e : upd (Y.settle i).file i (((Y.settle i).file i).cut n) = upd Y.file i ((Y.file i).settle.cut n) := by
      funext j
      show upd (upd Y.file i (Y.file i).settle) i ((upd Y.file i (Y.file i).settle i).cut n) j = _
      rw [upd_same]
      unfold upd
      split <;> rfl
    have := sim_set h.file i ((Y.file i).settle.cut n)
    show ∀ j : Nat, j < 16 → (getR (setR X.fs ⟨(i : Int), (getR X.fs (i : Int)).now.take n, (getR X.fs (i : Int)).now.take n⟩) (j : Int)).now = (upd (Y.settle i).file i (((Y.settle i).file i).cut n) j).now ∧ (getR (setR X.fs ⟨(i : Int), (getR X.fs (i : Int)).now.take n, (getR X.fs (i : Int)).now.take n⟩) (j : Int)).dur = (upd (Y.settle i).file i (((Y.settle i).file i).cut n) j).dur
    rw [e, hf.1]
    exact this
  · show noR X.q (i : Int) = Y.queue.filter fun p => p.1 != i
    rw [h.q, noR_eq]

theorem getR_back (fs : List RF) (f : Int) : (getR (backR fs) f).now = (getR fs f).dur ∧ (getR (backR fs) f).dur = (getR fs f).dur := by
  unfold backR getR
  rw [List.find?_map]
  have e : ((fun x : RF => x.num == f) ∘ fun x : RF => (⟨x.num, x.dur, x.dur⟩ : RF)) = fun x => x.num == f := rfl
  rw [e]
  cases fs.find? (fun x => x.num == f) with
  | none => exact ⟨rfl, rfl⟩
  | some x => exact ⟨rfl, rfl⟩
/-- The files behind the sectors that survived. -/
theorem sim_save (keep : List Int) : ∀ (q : List (Nat × Nat)) (k : Nat) (X : R) (g : Nat → F), (∀ i : Nat, i < 16 → (getR X.fs (i : Int)).now = (g i).now ∧ (getR X.fs (i : Int)).dur = (g i).dur) → (∀ x ∈ X.fs, 0 ≤ x.num ∧ x.num < 16) → (X.fs.Pairwise fun a b => a.num ≠ b.num) →
    (∀ p ∈ q, p.1 < 16 ∧ 64 * p.2 < (g p.1).now.length) →
    (∀ i : Nat, i < 16 → (getR (saveR keep q k X).fs (i : Int)).now = (saveAll keep q k g i).now ∧ (getR (saveR keep q k X).fs (i : Int)).dur = (saveAll keep q k g i).dur) ∧ (∀ x ∈ (saveR keep q k X).fs, 0 ≤ x.num ∧ x.num < 16) ∧ (saveR keep q k X).fs.Pairwise fun a b => a.num ≠ b.num
  | [], _, _, _, h1, h2, h3, _ => ⟨h1, h2, h3⟩
  | p :: q, k, X, g, h1, h2, h3, h4 => by
    have key : ∀ (X' : R) (g' : Nat → F), X' = (if surv keep k then surviveR X p else X) → g' = (if surv keep k then saveAt g p else g) →
        (∀ i : Nat, i < 16 → (getR X'.fs (i : Int)).now = (g' i).now ∧ (getR X'.fs (i : Int)).dur = (g' i).dur) ∧ (∀ x ∈ X'.fs, 0 ≤ x.num ∧ x.num < 16) ∧ (X'.fs.Pairwise fun a b => a.num ≠ b.num) ∧ ∀ j, (g' j).now = (g j).now := by
      rintro X' g' rfl rfl
      obtain ⟨f, n⟩ := p
      obtain ⟨hp1, hp2⟩ := h4 (f, n) (List.mem_cons_self ..)
      cases surv keep k with
      | false => exact ⟨h1, h2, h3, fun _ => rfl⟩
      | true =>
        rw [if_pos rfl, if_pos rfl]
        have hf := h1 f hp1
        have hn := getR_num X.fs (f : Int)
        have hlen : 64 * n < (getR X.fs (f : Int)).now.length := by rw [hf.1]; exact hp2
        have e : surviveR X (f, n) = { X with fs := setR X.fs ⟨(f : Int), ((g f).save n).now, ((g f).save n).dur⟩ } := by
          unfold surviveR
          simp only
          rw [if_pos hlen, hn, hf.1, hf.2]
          rfl
        rw [e]
        refine ⟨sim_set h1 f ((g f).save n), setR_range h2 ⟨by show 0 ≤ (f : Int); omega, by show (f : Int) < 16; omega⟩, setR_nodup h3 _, fun j => ?_⟩
        unfold saveAt upd
        split
        · next e => subst e; rfl
        · rfl
    obtain ⟨k1, k2, k3, k4⟩ := key _ _ rfl rfl
    exact sim_save keep q (k + 1) _ _ k1 k2 k3 (fun x hx => by
      have := h4 x (List.mem_cons_of_mem _ hx)
      rw [k4]
      exact this)
theorem Sim.crash {X : R} {Y : D} (h : Sim X Y) (keep : List Int) : Sim (crashR X keep) (Y.crash keep) := by
  have hinv := D.crash_inv h.inv keep
  unfold crashR
  unfold D.crash at hinv ⊢
  rw [h.down]
  cases hd : Y.down with
  | true => exact h
  | false =>
    rw [hd, if_neg (by simp)] at hinv
    rw [if_neg (by simp), if_neg (by simp)]
    have hs := sim_save keep X.q 0 { X with down := true, left := 0 } Y.file h.file h.range h.nodup (fun p hp => by
      rw [h.q] at hp
      obtain ⟨f, n⟩ := p
      have h1 := (h.inv.queue f n).1 hp
      exact ⟨h1.1, (h.inv.file f h1.1).inside n h1.2⟩)
    have hr := saveR_rest keep X.q 0 { X with down := true, left := 0 }
    obtain ⟨s1, s2, s3⟩ := hs
    refine ⟨fun i hi => ?_, fun x hx => ?_, ?_, rfl, hr.2.1.trans h.lost, hr.2.2.1, hr.2.2.2.1, fun h0 => absurd h0 (Nat.lt_irrefl _), hinv, h.lostB, by show ((0 : Nat) : Int) ≤ _; omega, ?_, ?_⟩
    · have hb := getR_back (saveR keep X.q 0 { X with down := true, left := 0 }).fs (i : Int)
      have := (s1 i hi).2
      rw [h.q] at hb this
      show (getR (backR (saveR keep X.q 0 { X with down := true, left := 0 }).fs) (i : Int)).now = ((saveAll keep Y.queue 0 Y.file i).revert).now ∧ _ = ((saveAll keep Y.queue 0 Y.file i).revert).dur
      rw [h.q]
      exact ⟨hb.1.trans this, hb.2.trans this⟩
    · obtain ⟨y, hy, rfl⟩ := List.mem_map.1 hx
      exact s2 y hy
    · show (backR _).Pairwise _
      unfold backR
      rw [List.pairwise_map]
      exact s3
    · show ∀ k ∈ (saveR keep X.q 0 { X with down := true, left := 0 }).keep, _
      rw [hr.2.2.2.2]
      exact h.keepIn
    · show (saveR keep X.q 0 { X with down := true, left := 0 }).keep.length ≤ _
      rw [hr.2.2.2.2]
      exact h.keepLen

/-! ### A scheduled crash, and the acts -/
def lessD (Y : D) : D := { Y with left := Y.left - 1 }
theorem Sim.less {X : R} {Y : D} (h : Sim X Y) (h2 : 2 ≤ Y.left) : Sim (lessR X) (lessD Y) :=
  h.turn rfl rfl rfl rfl h.lost h.down (by show X.left - 1 = Y.left - 1; rw [h.left]) (fun _ => h.keep (by omega)) h.lostB (by show ((Y.left - 1 : Nat) : Int) ≤ _; have := h.leftB; omega) h.keepIn h.keepLen
theorem Sim.zero {X : R} {Y : D} (h : Sim X Y) (h1 : Y.left = 1) : Sim (lessR X) { Y with left := 0 } :=
  h.turn rfl rfl rfl rfl h.lost h.down (by show X.left - 1 = 0; rw [h.left, h1]) (fun h0 => absurd h0 (Nat.lt_irrefl _)) h.lostB (by show ((0 : Nat) : Int) ≤ _; omega) h.keepIn h.keepLen
theorem strike_two {Y : D} (h : 2 ≤ Y.left) : Y.strike = (lessD Y, false) := by
  unfold D.strike
  rw [if_neg (by omega), if_neg (by omega)]
  rfl
theorem strike_one {Y : D} (h : Y.left = 1) : Y.strike = ({ Y with left := 0 }.crash Y.keep, true) := by
  unfold D.strike
  rw [if_neg (by omega), if_pos h]
theorem strike_one' {Y : D} (h : Y.left = 1) {k : List Int} (hk : Y.keep = k) : Y.strike = ({ Y with left := 0 }.crash k, true) := by
  subst hk
  exact strike_one h
theorem put_less (Y : D) (n : Nat) (f a : Int) (s : List UInt8) : ({ Y with left := n } : D).put f a s = ({ (Y.put f a s).1 with left := n }, (Y.put f a s).2) := by
  unfold D.put
  split
  · split <;> rfl
  · rfl
theorem fits_nat {a : Int} {s : List UInt8} (h : fitsM a s = true) : ∃ n : Nat, a = (n : Int) ∧ n + s.length ≤ 16777216 := by
  unfold fitsM at h
  rw [Bool.and_eq_true, decide_eq_true_eq, decide_eq_true_eq] at h
  obtain ⟨n, rfl⟩ := Int.eq_ofNat_of_zero_le h.1
  exact ⟨n, rfl, by omega⟩
theorem ok_nat' {f : Int} (h : ok f = true) : ∃ i : Nat, f = (i : Int) ∧ i < 16 := by
  unfold ok at h
  rw [decide_eq_true_eq] at h
  obtain ⟨n, rfl⟩ := Int.eq_ofNat_of_zero_le h.1
  exact ⟨n, rfl, by omega⟩
theorem put_not {Y : D} {f a : Int} {s : List UInt8} (h : ¬ (ok f = true ∧ fitsM a s = true)) : (Y.put f a s).1 = Y := by
  unfold D.put
  split
  · next hc =>
    split
    · next hl =>
      exfalso
      rw [Bool.and_eq_true, decide_eq_true_eq] at hc
      refine h ⟨hc.1, ?_⟩
      unfold fitsM
      rw [Bool.and_eq_true, decide_eq_true_eq, decide_eq_true_eq]
      exact ⟨hc.2, hl⟩
    · rfl
  · rfl
theorem Sim.addIf {X : R} {Y : D} (h : Sim X Y) {f a : Int} {s : List UInt8} (h1 : Dk.ok f = true) (h2 : fitsM a s = true) : Sim (addR X f.toNat a.toNat s) (Y.put f a s).1 := by
  obtain ⟨i, rfl, hi⟩ := ok_nat' h1
  obtain ⟨n, rfl, hn⟩ := fits_nat h2
  simp only [Int.toNat_natCast]
  exact h.add hi hn
/-- The scheduled crash, where it comes: a write is performed ahead of it. -/
theorem Sim.hit {X : R} {Y : D} (h : Sim X Y) (h1 : Y.left = 1) (hd : Y.down = false) (f a : Int) (s : List UInt8) : Sim (comesR X f a s) ((Y.put f a s).1.strike.1) ∧ ((Y.put f a s).1.strike.2 = true) ∧ (comesR X f a s).down = true := by
  have hz := h.zero h1
  have hk : X.keep = Y.keep := h.keep (by omega)
  have hpl : (Y.put f a s).1.left = 1 := by rw [(put_left' Y f a s).1, h1]
  have hpk : (Y.put f a s).1.keep = Y.keep := (put_left' Y f a s).2.2.2
  have hst := strike_one' hpl hpk
  have hcm : comesR X f a s = if Dk.ok f && fitsM a s then crashR (addR (lessR X) f.toNat a.toNat s) X.keep else crashR (lessR X) X.keep := by
    unfold comesR
    rw [h.down, hd, h.left, h1, if_neg (by simp), if_neg (by show ¬ 0 < X.left - 1; rw [h.left, h1]; omega)]
  have hdown : ∀ Z : R, (crashR Z X.keep).down = true := fun Z => by
    unfold crashR
    split
    · next e => exact e
    · exact (saveR_rest X.keep Z.q 0 { Z with down := true, left := 0 }).2.2.1
  rw [hst]
  refine ⟨?_, rfl, ?_⟩
  · rw [hcm, hk]
    by_cases hc : Dk.ok f = true ∧ fitsM a s = true
    · rw [if_pos (by rw [hc.1, hc.2]; rfl)]
      have h3 := (hz.addIf hc.1 hc.2).crash Y.keep
      rw [put_less Y 0 f a s] at h3
      exact h3
    · rw [if_neg (by simpa using hc), put_not hc]
      exact hz.crash Y.keep
  · rw [hcm]
    split
    · exact hdown _
    · exact hdown _
theorem comes_none {X : R} {f a : Int} {s : List UInt8} (h : X.down = true ∨ X.left = 0) : comesR X f a s = X := by
  unfold comesR
  rw [if_pos (by rcases h with h | h <;> simp [h])]
theorem comes_two {X : R} {f a : Int} {s : List UInt8} (hd : X.down = false) (h : 2 ≤ X.left) : comesR X f a s = lessR X := by
  unfold comesR
  rw [hd, if_neg (by simp; omega), if_pos (by show 0 < X.left - 1; omega)]
theorem Sim.comes {X : R} {Y : D} (h : Sim X Y) (f a : Int) (s : List UInt8) : ∃ Y', Sim (comesR X f a s) Y' := by
  cases hd : Y.down with
  | true => exact ⟨Y, by rw [comes_none (Or.inl (h.down.trans hd))]; exact h⟩
  | false =>
    rcases Nat.lt_or_ge Y.left 2 with hl | hl
    · rcases Nat.lt_or_ge Y.left 1 with hl0 | hl0
      · exact ⟨Y, by rw [comes_none (Or.inr (by rw [h.left]; omega))]; exact h⟩
      · exact ⟨_, (h.hit (by omega) hd f a s).1⟩
    · exact ⟨_, by rw [comes_two (h.down.trans hd) (by rw [h.left]; exact hl)]; exact h.less hl⟩
theorem Sim.tellOk {X : R} {Y : D} (h : Sim X Y) (a : Act) (hs : a.s.length ≤ 1000000) : TellOk X a := by
  refine ⟨h.rok, ?_, fun h1 h2 => ?_, ?_, hs⟩
  · obtain ⟨Y', h'⟩ := h.comes 0 0 []
    exact h'.rok
  · rcases Nat.lt_or_ge Y.left 2 with hl | hl
    · rcases Nat.lt_or_ge Y.left 1 with hl0 | hl0
      · have e : lessR X = X := by
          unfold lessR
          have : X.left = 0 := by rw [h.left]; omega
          rw [this]
          cases X
          simp at this
          subst this
          rfl
        rw [e]
        exact (h.addIf h1 h2).rok
      · exact ((h.zero (by omega)).addIf h1 h2).rok
    · exact ((h.less hl).addIf h1 h2).rok
  · obtain ⟨Y', h'⟩ := h.comes a.f a.n a.s
    exact h'.rok

theorem may_down (f : Int) : mayM true f = 9 := rfl
theorem may_up {f : Int} (h : Dk.ok f = true) : mayM false f = 0 := by unfold mayM; rw [h]; rfl
theorem may_bad {f : Int} (h : Dk.ok f = false) : mayM false f = 1 := by unfold mayM; rw [h]; rfl

theorem Sim.write {X : R} {Y : D} (h : Sim X Y) (f a : Int) (s : List UInt8) : Sim (writeR X f a s).1 (Y.write f a s).1 ∧ (writeR X f a s).2 = (Y.write f a s).2 := by
  unfold writeR
  cases hd : Y.down with
  | true =>
    have hx : X.down = true := h.down.trans hd
    rw [comes_none (Or.inl hx), hx, may_down, if_pos (by omega)]
    unfold D.write
    rw [hd]
    exact ⟨h, rfl⟩
  | false =>
    have hx : X.down = false := h.down.trans hd
    -- the state Z in which the write is performed, and the disk's outcome
    have plain : ∀ (Z : R) (W : D), Sim Z W → W.down = false → Y.write f a s = W.put f a s → comesR X f a s = Z →
        Sim (if mayM (comesR X f a s).down f ≠ 0 then (comesR X f a s, mayM (comesR X f a s).down f) else if a < 0 then (comesR X f a s, 1) else if fitsM a s then (addR (comesR X f a s) f.toNat a.toNat s, 0) else (comesR X f a s, 6)).1 (Y.write f a s).1 ∧
          (if mayM (comesR X f a s).down f ≠ 0 then (comesR X f a s, mayM (comesR X f a s).down f) else if a < 0 then (comesR X f a s, 1) else if fitsM a s then (addR (comesR X f a s) f.toNat a.toNat s, 0) else (comesR X f a s, 6)).2 = (Y.write f a s).2 := by
      intro Z W hZ hWd hw hc
      rw [hc, hw, show Z.down = false from hZ.down.trans hWd]
      cases ho : Dk.ok f with
      | false =>
        rw [may_bad ho, if_pos (by omega)]
        have : W.put f a s = (W, 1) := by unfold D.put; rw [ho]; rfl
        rw [this]
        exact ⟨hZ, rfl⟩
      | true =>
        rw [may_up ho, if_neg (by simp)]
        by_cases ha : a < 0
        · rw [if_pos ha]
          have : W.put f a s = (W, 1) := by
            unfold D.put
            rw [ho, decide_eq_false (show ¬ 0 ≤ a by omega)]
            rfl
          rw [this]
          exact ⟨hZ, rfl⟩
        · rw [if_neg ha]
          cases hfi : fitsM a s with
          | false =>
            rw [if_neg (by simp)]
            have : W.put f a s = (W, 6) := by
              unfold D.put
              rw [ho, decide_eq_true (show 0 ≤ a by omega), if_pos (by rfl), if_neg (fun hl => by
                unfold fitsM at hfi
                rw [decide_eq_true (show 0 ≤ a by omega), decide_eq_true hl] at hfi
                cases hfi)]
            rw [this]
            exact ⟨hZ, rfl⟩
          | true =>
            rw [if_pos rfl]
            refine ⟨hZ.addIf ho hfi, ?_⟩
            obtain ⟨i, rfl, hi⟩ := ok_nat' ho
            obtain ⟨n, rfl, hn⟩ := fits_nat hfi
            rw [put_fits hi hn]
    rcases Nat.lt_or_ge Y.left 2 with hl | hl
    · rcases Nat.lt_or_ge Y.left 1 with hl0 | hl0
      · exact plain X Y h hd (write_plain (by omega) hd f a s) (comes_none (Or.inr (by rw [h.left]; omega)))
      · obtain ⟨h1, h2, h3⟩ := h.hit (by omega) hd f a s
        rw [h3, may_down, if_pos (by omega)]
        have e : Y.write f a s = ((Y.put f a s).1.strike.1, 9) := by
          unfold D.write
          rw [hd]
          show (if (Y.put f a s).1.strike.2 = true then _ else _) = _
          rw [h2]
          rfl
        rw [e]
        exact ⟨h1, rfl⟩
    · refine plain (lessR X) (lessD Y) (h.less hl) hd ?_ (comes_two hx (by rw [h.left]; exact hl))
      have e1 := put_less Y (Y.left - 1) f a s
      have e2 : (Y.put f a s).1.strike = (lessD (Y.put f a s).1, false) := strike_two (by rw [(put_left' Y f a s).1]; exact hl)
      have e3 : lessD (Y.put f a s).1 = { (Y.put f a s).1 with left := Y.left - 1 } := by unfold lessD; rw [(put_left' Y f a s).1]
      rw [write_up hd f a s e2, e3]
      exact e1.symm
/-- Sync, Truncate: the crash comes, or not. -/
theorem Sim.struck {X : R} {Y : D} (h : Sim X Y) (hd : Y.down = false) : Sim (comesR X 0 0 []) Y.strike.1 ∧ (comesR X 0 0 []).down = Y.strike.2 ∧ (Y.strike.2 = false → Y.strike.1.down = false) := by
  have hx : X.down = false := h.down.trans hd
  rcases Nat.lt_or_ge Y.left 2 with hl | hl
  · rcases Nat.lt_or_ge Y.left 1 with hl0 | hl0
    · rw [comes_none (Or.inr (by rw [h.left]; omega)), strike_zero (by omega)]
      exact ⟨h, hx, fun _ => hd⟩
    · obtain ⟨h1, h2, h3⟩ := h.hit (by omega) hd 0 0 []
      have e : (Y.put 0 0 []).1 = Y := by
        have := put_fits (Y := Y) (i := 0) (a := 0) (s := []) (by omega) (by simp)
        simp only [Int.natCast_zero] at this
        rw [show Y.put 0 0 [] = _ from this]
        show ({ Y with file := upd Y.file 0 ((Y.file 0).write 0 []), queue := Y.queue ++ ((Y.file 0).added 0 []).map _ } : D) = Y
        unfold F.write F.added
        rw [if_pos rfl, if_pos rfl, upd_id]
        simp
      rw [e] at h1 h2
      exact ⟨h1, h3.trans h2.symm, fun e => by rw [h2] at e; cases e⟩
  · rw [comes_two hx (by rw [h.left]; exact hl), strike_two hl]
    exact ⟨h.less hl, hx, fun _ => hd⟩
theorem Sim.sync {X : R} {Y : D} (h : Sim X Y) (f : Int) : Sim (syncR X f).1 (Y.sync f).1 ∧ (syncR X f).2 = (Y.sync f).2 := by
  unfold syncR
  cases hd : Y.down with
  | true =>
    have hx : X.down = true := h.down.trans hd
    rw [comes_none (Or.inl hx), hx, may_down, if_pos (by omega)]
    unfold D.sync
    rw [hd]
    exact ⟨h, rfl⟩
  | false =>
    obtain ⟨h1, h2, h3⟩ := h.struck hd
    obtain ⟨Z, hZ⟩ : ∃ Z, Z = comesR X 0 0 [] := ⟨_, rfl⟩
    rw [← hZ] at h1 h2 ⊢
    rw [h2]
    cases hst : Y.strike.2 with
    | true =>
      rw [may_down, if_pos (by omega)]
      rw [sync_hit (S := Y.strike.1) hd (by rw [← hst])]
      exact ⟨h1, rfl⟩
    | false =>
      rw [sync_up (S := Y.strike.1) hd (by rw [← hst])]
      cases ho : Dk.ok f with
      | false =>
        rw [may_bad ho, if_pos (by omega)]
        exact ⟨h1, rfl⟩
      | true =>
        rw [may_up ho, if_neg (by simp), if_pos rfl]
        by_cases hlo : 0 < Y.strike.1.lost
        · rw [if_pos (by rw [h1.lost]; exact hlo), if_pos hlo]
          refine ⟨h1.turn rfl rfl rfl rfl (by show Z.lost - 1 = Y.strike.1.lost - 1; rw [h1.lost]) h1.down h1.left h1.keep (by show ((Y.strike.1.lost - 1 : Nat) : Int) ≤ _; have := h1.lostB; omega) h1.leftB h1.keepIn h1.keepLen, rfl⟩
        · rw [if_neg (by rw [h1.lost]; exact hlo), if_neg hlo]
          obtain ⟨i, rfl, hi⟩ := ok_nat' ho
          simp only [Int.toNat_natCast]
          exact ⟨h1.settle hi, trivial⟩
theorem Sim.truncate {X : R} {Y : D} (h : Sim X Y) (f z : Int) : Sim (truncR X f z).1 (Y.trunc f z).1 ∧ (truncR X f z).2 = (Y.trunc f z).2 := by
  unfold truncR
  cases hd : Y.down with
  | true =>
    have hx : X.down = true := h.down.trans hd
    rw [comes_none (Or.inl hx), hx, may_down, if_pos (by omega)]
    unfold D.trunc
    rw [hd]
    exact ⟨h, rfl⟩
  | false =>
    obtain ⟨h1, h2, h3⟩ := h.struck hd
    obtain ⟨Z, hZ⟩ : ∃ Z, Z = comesR X 0 0 [] := ⟨_, rfl⟩
    rw [← hZ] at h1 h2 ⊢
    rw [h2]
    cases hst : Y.strike.2 with
    | true =>
      rw [may_down, if_pos (by omega)]
      rw [trunc_hit (S := Y.strike.1) hd (by rw [← hst])]
      exact ⟨h1, rfl⟩
    | false =>
      rw [trunc_up (S := Y.strike.1) hd (by rw [← hst])]
      cases ho : Dk.ok f with
      | false =>
        rw [may_bad ho, if_pos (by omega)]
        exact ⟨h1, rfl⟩
      | true =>
        rw [may_up ho, if_neg (by simp)]
        obtain ⟨i, rfl, hi⟩ := ok_nat' ho
        simp only [Int.toNat_natCast]
        have hf := h1.file i hi
        by_cases hz : z < 0 ∨ ((Y.strike.1.file i).now.length : Int) < z
        · rw [if_pos (by rw [hf.1]; exact hz), if_neg (by simp; omega)]
          exact ⟨h1, rfl⟩
        · rw [if_neg (by rw [hf.1]; exact hz), if_pos (by simp; omega)]
          obtain ⟨n, rfl⟩ := Int.eq_ofNat_of_zero_le (show 0 ≤ z by omega)
          simp only [Int.toNat_natCast]
          exact ⟨h1.trunc hi (by omega), trivial⟩
theorem Sim.act {X : R} {Y : D} (h : Sim X Y) (a : Act) (ho : a.Ok) : Sim (tellM X a).1 (doM Y a).1 ∧ (tellM X a).2 = (doM Y a).2 := by
  unfold tellM doM
  by_cases h2 : code a = 2
  · rw [if_pos h2, if_pos h2]; exact h.sync a.f
  · rw [if_neg h2, if_neg h2]
    by_cases h3 : code a = 3
    · rw [if_pos h3, if_pos h3]; exact h.truncate a.f a.n
    · rw [if_neg h3, if_neg h3]
      by_cases h4 : code a = 4
      · rw [if_pos h4, if_pos h4]
        exact ⟨h.turn rfl rfl rfl rfl rfl h.down h.left h.keep (by show ((bits .and .i64 a.n 3).toNat : Int) ≤ _; have := bits_hi_i64 .and a.n 3; omega) h.leftB h.keepIn h.keepLen, rfl⟩
      · rw [if_neg h4, if_neg h4]
        by_cases h5 : code a = 5
        · rw [if_pos h5, if_pos h5]
          exact ⟨h.turn rfl rfl rfl rfl h.lost h.down rfl (fun _ => rfl) h.lostB (by show (a.n.toNat : Int) ≤ _; have := ho.n.2; omega) ho.keepIn ho.keep, rfl⟩
        · rw [if_neg h5, if_neg h5]
          by_cases h6 : code a = 6
          · rw [if_pos h6, if_pos h6]; exact ⟨h.crash a.keep, rfl⟩
          · rw [if_neg h6, if_neg h6]
            by_cases h7 : code a = 7
            · rw [if_pos h7, if_pos h7]
              exact ⟨h.turn rfl rfl rfl rfl h.lost rfl h.left h.keep h.lostB h.leftB h.keepIn h.keepLen, rfl⟩
            · rw [if_neg h7, if_neg h7]; exact h.write a.f a.n a.s
theorem sim_new : Sim ⟨[], [], 0, false, 0, []⟩ D.new :=
  ⟨fun i _ => ⟨rfl, rfl⟩, (fun x hx => by cases hx), List.Pairwise.nil, rfl, rfl, rfl, rfl, fun _ => rfl, D.new_inv, (by show ((0 : Nat) : Int) ≤ _; omega), (by show ((0 : Nat) : Int) ≤ _; omega), (fun k hk => by cases hk), by simp⟩
theorem Sim.size {X : R} {Y : D} (h : Sim X Y) (f : Int) : (getR X.fs f).now.length = Y.size f := by
  unfold D.size
  cases ho : Dk.ok f with
  | true =>
    obtain ⟨i, rfl, hi⟩ := ok_nat' ho
    rw [if_pos rfl, (h.file i hi).1]
    simp only [Int.toNat_natCast]
  | false =>
    have : getR X.fs f = ⟨f, [], []⟩ := getR_none (fun x hx e => by
      have := h.range x hx
      unfold Dk.ok at ho
      rw [decide_eq_false_iff_not] at ho
      omega)
    rw [this]
    rfl
theorem Sim.read {X : R} {Y : D} (h : Sim X Y) (f a n : Int) : readR X f a n = Y.read f a n := by
  unfold readR D.read
  rw [h.down]
  cases Y.down with
  | true => rfl
  | false =>
    cases ho : Dk.ok f with
    | false => rfl
    | true =>
      obtain ⟨i, rfl, hi⟩ := ok_nat' ho
      rw [(h.file i hi).1]
      simp only [Int.toNat_natCast]
end Go.Proofs.YtninopllfbiccaaDoor
