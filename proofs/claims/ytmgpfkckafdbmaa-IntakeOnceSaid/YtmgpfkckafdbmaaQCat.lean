/-
  slices.Concat of the positions and one more.
-/
import Derived.Test.YtmgpfkckafdbmaaQFence
namespace Go.Proofs.Ytmgpfkckafdbmaa
set_option maxRecDepth 100000
open Go Go.RowKit Pq

theorem sizeElemInt (wx : World) : ((sizeOf (Try.prog.elem 32)).run Try.prog wx) = .ok 1 wx := by
  obtain ⟨i0, hi, hz0, hz1, hz2⟩ := info_parts infoIntQ
  have e : Try.prog.elem 32 = 3 := by kernel_rfl
  rw [e]; simp [sizeOf, typeInfo, hi, hz1]
theorem num_to (a : Option Addr) (n c h : Nat) (h2 : h ≤ c) (wx : World) : (Instr.slice 32 (.slice a n c) none (some (.int .i64 (h : Int))) none).run Try.prog wx = .ok (.slice a h c) wx := by
  have hs := run_slice_h (P := Try.prog) wx 32 a n c Try.underlying32 .i64 h (by omega) (by omega)
  rw [hs, sizeElemInt wx]
  cases a <;> simp [Result.andThen, sliced, Addr.add]
theorem num_from (a : Option Addr) (n c k : Nat) (h : k ≤ n) : ∃ A, (∀ wx : World, (Instr.slice 32 (.slice a n c) (some (.int .i64 (k : Int))) none none).run Try.prog wx = .ok (.slice A (n - k) (c - k)) wx) ∧ (k < c → A = a.map (·.add k)) := by
  refine ⟨if c = k then a else a.map (·.add k), fun wx => ?_, fun h => by simp [show c ≠ k by omega]⟩
  have hs := run_slice_l (P := Try.prog) wx 32 a n c Try.underlying32 .i64 k (by omega) (by omega)
  rw [hs, sizeElemInt wx]
  simp [Result.andThen, sliced]
theorem grow_c (n : Nat) (h0 : 0 < n) (hn : n ≤ 100000) (w : World) : Calls Try.prog 51 #[.slice none 0 0, .int .i64 (n : Int)] w fun r w' => ∃ C, r = .returned (.slice (some ⟨w.heap.size, 0, none⟩) 0 C) ∧ w'.ownsRow w.heap.size 3 1 (.slice (some ⟨w.heap.size, 0, none⟩) 0 C) 0 [] ∧ Below w.heap.size w w' := by
  obtain ⟨i0, hi0, hz0, hz1, hz2⟩ := info_parts infoIntQ
  have hto := num_to none 0 0 0 (Nat.le_refl _)
  have hgr := Lib.run_append_grow_zeros (P := Try.prog) w 32 3 32 3 i0 _ .i64 .i64 Try.underlying32 Try.underlying3 hi0 hz0 none 0 0 [] rfl n h0 (by rw [hz1]; decide) (by omega) (by omega) (by rw [hz2]; omega) (by rw [hz2]; exact growslice_fits (by omega) (by omega))
  rw [Nat.zero_add] at hgr
  have hge := grownCap_ge w n 0 3
  have hle := grownCap_le_maxLen w n 0 3 (by unfold maxLen; omega)
  generalize grownCap w n 0 3 = C at hgr hge hle
  generalize hcs : ([] : List Value).toArray ++ Builtin.zeroCells (Value.int .i64 0).cells n ++ Builtin.zeroCells (Value.int .i64 0).cells (C - n) = cs at hgr
  have hsz : cs.size = C := by
    rw [← hcs]
    simp [size_zeroCells, Value.cells]
    omega
  have hto2 := num_to (some ⟨w.heap.size, 0, none⟩) n C 0 (Nat.zero_le _)
  have hw : IntKind.i64.wrap (n : Int) = n := by rw [IntKind.wrap_i64]; omega
  have h1 : ¬ (n : Int) < 0 := by omega
  have h2 : (0 : Int) < (n : Int) := by omega
  simp only [Int.natCast_zero] at hto hto2
  have HG := Lib.hid hgr
  have HC := Lib.hid (And.intro hle hsz)
  clear hgr hcs hsz hle hge hz0 hz1 hz2 hi0
  go_enter Try.func51, Try.ntmps51
  go_wp2_with (at_builtin; refine Lib.wpList_append_run _ rfl _ _ _ _ rfl _ _ rfl rfl _ _ HG.out ?_)
  go_ret
  refine ⟨C, rfl, ⟨rfl, Or.inr ⟨w.heap.size, C, cs, rfl, Nat.le_refl _, box_new w.drew _, Nat.zero_le _, HC.out.1, by rw [HC.out.2]; omega, rfl⟩⟩, (below_drew (Below.refl _ _)).trans (below_new w.drew _)⟩
/-- The positions with one more behind them. -/
theorem concat_c {w : World} {B Pb : Nat} {xa : Option Addr} {xc : Nat} {l : List Int} {pos : Int} (hB : w.heap[B]? = some (.cells #[.slice xa l.length xc, .slice (some ⟨Pb, 0, none⟩) 1 1] 32 (0, 0))) (hP : w.cell? ⟨Pb, 0, none⟩ = some (.int .i64 pos)) (hl : Src (fun _ => True) w xa xc l.length (numsV l)) (hn : l.length ≤ 1000) :
    Calls Try.prog 41 #[.slice (some ⟨B, 0, none⟩) 2 2] w fun r w' => ∃ a' c', r = .returned (.slice a' (l.length + 1) c') ∧ Src (fun b => w.heap.size ≤ b) w' a' c' (l.length + 1) (numsV (l ++ [pos])) ∧ Below w.heap.size w w' := by
  have c0 : w.cell? ⟨B, 0, none⟩ = some (.slice xa l.length xc) := by rw [Lib.cell_of_heap hB]; rfl
  have c1 : w.cell? ⟨B, 1, none⟩ = some (.slice (some ⟨Pb, 0, none⟩) 1 1) := by rw [Lib.cell_of_heap hB]; rfl
  have QG := Lib.hid (grow_c (l.length + 1) (by omega) (by omega) w)
  have HB := Lib.hid hB
  have HP := Lib.hid hP
  have HS := Lib.hid hl
  obtain ⟨n, hN⟩ : ∃ n, n = l.length := ⟨_, rfl⟩
  have HN := Lib.hid hN
  rw [← hN] at hn c0 QG ⊢
  simp only [Int.natCast_add, Int.natCast_one] at QG
  have hw1 : IntKind.i64.wrap ((n : Int) + 1) = (n : Int) + 1 := by rw [IntKind.wrap_i64]; omega
  have hw0 : IntKind.i64.wrap (n : Int) = (n : Int) := by rw [IntKind.wrap_i64]; omega
  have n0 : ¬ (n : Int) < 0 := by omega
  have n1 : ¬ (n : Int) + 1 < 0 := by omega
  clear hB hP hl hN
  go_enter Try.func41, Try.ntmps41
  go_wp2_with fail
  go_loopw [3, 11] (fun v3 v11 wr => ((v3 = .int .i64 0 ∧ v11 = .int .i64 0) ∨ (v3 = .int .i64 (n : Int) ∧ v11 = .int .i64 1) ∨ (v3 = .int .i64 ((n : Int) + 1) ∧ v11 = .int .i64 2)) ∧ w = wr) (fun _ v11 _ => 2 - (intOf v11).toNat)
  case atStart => exact ⟨Or.inl ⟨rfl, rfl⟩, rfl⟩
  case round =>
    obtain ⟨⟨rfl, rfl⟩ | ⟨rfl, rfl⟩ | ⟨rfl, rfl⟩, rfl⟩ := hrel
    · go_wp2_with fail
      go_roundw
      case rel => exact ⟨Or.inr (Or.inl ⟨rfl, rfl⟩), trivial⟩
      case measure => decide
    · go_wp2_with fail
      go_roundw
      case rel => exact ⟨Or.inr (Or.inr ⟨rfl, rfl⟩), trivial⟩
      case measure => decide
    · go_wp2_with (go_at_call 51; refine QG.out.mono ?_; rintro r w1 ⟨C, rfl, hown, hb1⟩)
      have HO0 := Lib.hid hown
      have HB1 := Lib.hid hb1
      clear hown hb1
      go_loopw [6, 27] (fun v6 v27 wr => ∃ (k : Nat) (xs : List Int) (va : Option Addr) (vc : Nat), ((k = 0 ∧ xs = []) ∨ (k = 1 ∧ xs = l) ∨ (k = 2 ∧ xs = l ++ [pos])) ∧ v6 = .slice va xs.length vc ∧ v27 = .int .i64 (k : Int) ∧ Hid (wr.ownsRow w.heap.size 3 1 (.slice va xs.length vc) xs.length (numsV xs)) ∧ Hid (Below w.heap.size w wr)) (fun _ v27 _ => 2 - (intOf v27).toNat)
      case atStart => exact ⟨0, [], _, _, Or.inl ⟨rfl, rfl⟩, rfl, rfl, HO0, HB1⟩
      case round =>
        obtain ⟨k, xs, va, vc, ⟨rfl, rfl⟩ | ⟨rfl, hxs⟩ | ⟨rfl, hxs⟩, rfl, rfl, ho, hb⟩ := hrel
        · have d := (Kept.below (S := fun _ => False) hb.out).cell c0 (fun e => e)
          have hs := HS.out.on hb.out
          obtain ⟨i0, hi0, hz0, hz1, hz2⟩ := info_parts infoIntQ
          obtain ⟨v', w', hr, hown', hgr, hbl⟩ := run_append_any_own (P := Try.prog) wr w.heap.size 32 32 3 i0 _ 1 8 Try.underlying32 hi0 hz0 hz1 hz2 rfl (by decide) _ 0 _ ho.out xa n xc (numsV l) (by rw [numsV_length, HN.out, Nat.mul_one]) (fun h0 => by
            obtain ⟨b, off, e, _, hc⟩ := hs.2 (by have := HN.out; omega)
            exact ⟨⟨b, off, none⟩, e, fun j u hu => by rw [Lib.add_plain]; exact hc j u hu⟩) (numsV_one _) (by unfold maxLen; omega) (by omega) hb.out.size
          rw [show numsV [] ++ numsV l = numsV l from rfl, Nat.zero_add, HN.out] at hown'
          obtain ⟨va', vc', rfl, _⟩ := own_shape (own_base hown')
          have HO := Lib.hid hown'
          have HBB := Lib.hid (hb.out.trans ((Kept.grown (S := fun b => w.heap.size ≤ b) hgr (fun j hj => own_above ho.out hj)).toBelow hb.out.size (fun _ e => e)))
          have HR := Lib.hid hr
          clear hs
          simp only [List.length_nil] at HR
          rw [← HN.out] at HR
          clear hr hown' hgr hbl hz0 hz1 hz2 hi0
          go_wp2_with (at_builtin; refine Lib.wpList_append_run _ rfl _ _ _ _ rfl _ _ rfl rfl _ w' HR.out ?_)
          go_roundw
          case rel => exact ⟨1, l, va', vc', Or.inr (Or.inl ⟨rfl, rfl⟩), by rw [← HN.out], rfl, HO, HBB⟩
          case measure => decide
        · have hlx : xs.length = n := by rw [hxs, HN.out]
          rw [hlx] at ho ⊢
          have d := (Kept.below (S := fun _ => False) hb.out).cell c1 (fun e => e)
          obtain ⟨i0, hi0, hz0, hz1, hz2⟩ := info_parts infoIntQ
          obtain ⟨v', w', hr, hown', hgr, hbl⟩ := run_append_any_own (P := Try.prog) wr w.heap.size 32 32 3 i0 _ 1 8 Try.underlying32 hi0 hz0 hz1 hz2 rfl (by decide) _ n _ ho.out (some ⟨Pb, 0, none⟩) 1 1 (numsV [pos]) (by rw [numsV_length]; rfl) (fun _ => ⟨_, rfl, fun j u hu => by
            rw [Lib.add_plain, Nat.zero_add]
            match j, hu with
            | 0, hu => injection hu with hu; rw [← hu]; exact (Kept.below (S := fun _ => False) hb.out).cell HP.out (fun e => e)⟩) (numsV_one _) (by unfold maxLen; omega) (by omega) hb.out.size
          rw [show numsV xs ++ numsV [pos] = numsV (l ++ [pos]) by rw [hxs]; simp [numsV]] at hown'
          obtain ⟨va', vc', rfl, _⟩ := own_shape (own_base hown')
          have HO := Lib.hid hown'
          have HBB := Lib.hid (hb.out.trans ((Kept.grown (S := fun b => w.heap.size ≤ b) hgr (fun j hj => own_above ho.out hj)).toBelow hb.out.size (fun _ e => e)))
          have HR := Lib.hid hr
          rw [show n + 1 = (l ++ [pos]).length by rw [List.length_append, ← HN.out]; rfl] at HO
          clear hlx hxs
          clear hr hown' hgr hbl hz0 hz1 hz2 hi0
          go_wp2_with (at_builtin; refine Lib.wpList_append_run _ rfl _ _ _ _ rfl _ _ rfl rfl _ w' HR.out ?_)
          go_roundw
          case rel => exact ⟨2, l ++ [pos], va', vc', Or.inr (Or.inr ⟨rfl, rfl⟩), by rw [List.length_append, ← HN.out]; rfl, rfl, HO, HBB⟩
          case measure => decide
        · have hlx : xs.length = n + 1 := by rw [hxs, HN.out, List.length_append]; rfl
          rw [hlx] at ho ⊢
          rw [hxs] at ho
          go_wp2_with fail
          go_ret
          exact ⟨va, vc, rfl, Src.own ho.out (fun j hj => own_above ho.out hj), hb.out⟩
end Go.Proofs.Ytmgpfkckafdbmaa
