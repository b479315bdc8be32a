/-
  The reference's disk: a file replaced; appending to rows of files and of sectors.
-/
import Derived.Test.YthibikdnoogfoaaDGb
namespace Go.Proofs.Ythibikdnoogfoaa
open Go Go.RowKit Go.Maps Dk

theorem infoRFile : (Try.prog.info? 69).map (fun i => (i.zero, i.size, i.bytes)) = some (some (.agg #[.int .i64 0, .string ⟨#[]⟩, .string ⟨#[]⟩]), 3, 40) := by kernel_rfl
theorem infoRSec : (Try.prog.info? 81).map (fun i => (i.zero, i.size, i.bytes)) = some (some (.agg #[.int .i64 0, .int .i64 0]), 2, 16) := by kernel_rfl
theorem own_above {w : World} {base : Nat} {e : TypeId} {size : Nat} {v : Value} {n : Nat} {xs : List Value} (h : w.ownsRow base e size v n xs) {k : Nat} (hk : v.ownBlock = some k) : base ≤ k := by
  rcases h.2 with ⟨rfl, _⟩ | ⟨g, cap, cur, rfl, hg, _⟩
  · cases hk
  · injection hk with hk; subst hk; exact hg
theorem own_kept' {w w' : World} {S : Nat → Prop} {base : Nat} {e : TypeId} {size : Nat} {v : Value} {n : Nat} {xs : List Value} (h : w.ownsRow base e size v n xs) (hk : Kept S w w') (hn : ∀ k, v.ownBlock = some k → ¬ S k) : w'.ownsRow base e size v n xs := own_kept h hk hn
/-- One file appended to a row of files. -/
theorem app_file (w : World) (base : Nat) (v : Value) (fs : List RF) (x : RF) (h : w.ownsRow base 69 3 v fs.length (filesV fs)) (hl : fs.length ≤ 1000) (hb : base ≤ w.heap.size) :
    ∃ a c w', (Builtin.append_ #[58, 58] 58 #[v, .slice (some ⟨w.heap.size, 0, none⟩) 1 1]).run Try.prog (w.alloc (.cells #[.int .i64 x.num, .string ⟨x.now.toArray⟩, .string ⟨x.dur.toArray⟩] 69)) = .ok (.slice a (fs.length + 1) c) w' ∧
      w'.ownsRow base 69 3 (.slice a (fs.length + 1) c) (fs ++ [x]).length (filesV (fs ++ [x])) ∧ ((Value.slice a (fs.length + 1) c).ownBlock = v.ownBlock ∨ ∃ y, (Value.slice a (fs.length + 1) c).ownBlock = some y ∧ w.heap.size ≤ y) ∧ Kept (fun k => v.ownBlock = some k) w w' := by
  obtain ⟨i0, hi0, hz0, hz1, hz2⟩ := info_parts infoRFile
  obtain ⟨v5, w5, hr, hown5, hgr5, hbl5⟩ := run_append_any_own (P := Try.prog) (w.alloc (.cells #[.int .i64 x.num, .string ⟨x.now.toArray⟩, .string ⟨x.dur.toArray⟩] 69)) base 58 58 69 i0 _ 3 40 Try.underlying58 hi0 hz0 hz1 hz2 rfl (by decide) _ _ _ (h.alloc _)
    (some ⟨w.heap.size, 0, none⟩) 1 1 [.int .i64 x.num, .string ⟨x.now.toArray⟩, .string ⟨x.dur.toArray⟩] rfl (fun _ => ⟨_, rfl, fun j u hu => by
      rw [Lib.add_plain, Lib.cell_of_heap (heap_alloc_new w _)]
      match j, hu with
      | 0, hu => simpa using hu
      | 1, hu => simpa using hu
      | 2, hu => simpa using hu⟩) (by simp [Value.oneCell']) (by unfold maxLen; omega) (by omega) (by simp; omega)
  obtain ⟨a, c, rfl, _⟩ := own_shape (own_base hown5)
  refine ⟨a, c, w5, hr, ?_, ?_, (Kept.alloc _ w _).trans (Kept.grown hgr5 (fun k e => e)) (fun _ _ e => e)⟩
  · rw [filesV_app, List.length_append]; exact hown5
  · rcases hbl5 with e | e
    · exact Or.inl e
    · exact Or.inr ⟨_, e, by simp⟩
theorem app_sec (w : World) (base : Nat) (v : Value) (q : List (Nat × Nat)) (p : Nat × Nat) (h : w.ownsRow base 81 2 v q.length (secsV q)) (hl : q.length ≤ 10000000) (hb : base ≤ w.heap.size) :
    ∃ a c w', (Builtin.append_ #[59, 59] 59 #[v, .slice (some ⟨w.heap.size, 0, none⟩) 1 1]).run Try.prog (w.alloc (.cells #[.int .i64 (p.1 : Int), .int .i64 (p.2 : Int)] 81)) = .ok (.slice a (q.length + 1) c) w' ∧
      w'.ownsRow base 81 2 (.slice a (q.length + 1) c) (q ++ [p]).length (secsV (q ++ [p])) ∧ ((Value.slice a (q.length + 1) c).ownBlock = v.ownBlock ∨ ∃ y, (Value.slice a (q.length + 1) c).ownBlock = some y ∧ w.heap.size ≤ y) ∧ Kept (fun k => v.ownBlock = some k) w w' := by
  obtain ⟨i0, hi0, hz0, hz1, hz2⟩ := info_parts infoRSec
  obtain ⟨v5, w5, hr, hown5, hgr5, hbl5⟩ := run_append_any_own (P := Try.prog) (w.alloc (.cells #[.int .i64 (p.1 : Int), .int .i64 (p.2 : Int)] 81)) base 59 59 81 i0 _ 2 16 Try.underlying59 hi0 hz0 hz1 hz2 rfl (by decide) _ _ _ (h.alloc _)
    (some ⟨w.heap.size, 0, none⟩) 1 1 [.int .i64 (p.1 : Int), .int .i64 (p.2 : Int)] rfl (fun _ => ⟨_, rfl, fun j u hu => by
      rw [Lib.add_plain, Lib.cell_of_heap (heap_alloc_new w _)]
      match j, hu with
      | 0, hu => simpa using hu
      | 1, hu => simpa using hu⟩) (by simp [Value.oneCell']) (by unfold maxLen; omega) (by omega) (by simp; omega)
  obtain ⟨a, c, rfl, _⟩ := own_shape (own_base hown5)
  refine ⟨a, c, w5, hr, ?_, ?_, (Kept.alloc _ w _).trans (Kept.grown hgr5 (fun k e => e)) (fun _ _ e => e)⟩
  · rw [secsV_app, List.length_append]; exact hown5
  · rcases hbl5 with e | e
    · exact Or.inl e
    · exact Or.inr ⟨_, e, by simp⟩

set_option maxHeartbeats 2000000 in
set_option maxRecDepth 100000 in
theorem rset_c (r : Nat) (fv qv kv : Value) (X : R) (x : RF) (hl : X.fs.length ≤ 100) (w : World) (h : RAt w r fv qv kv X) :
    Calls Try.prog 66 #[.pointer (some ⟨r, 0, none⟩), rfV x] w fun e w' => e = .returned (.tuple #[]) ∧ ∃ fv', RAt w' r fv' qv kv { X with fs := setR X.fs x } ∧ (∀ k, fv'.ownBlock = some k → w.heap.size ≤ k) ∧ Kept (fun k => k = r) w w' := by
  obtain ⟨fa, fc, rfl, _⟩ := own_shape h.files
  obtain ⟨L, hL⟩ : ∃ L, L = X.fs.length := ⟨_, rfl⟩
  have hfl := h.files
  rw [← hL] at h hl hfl
  obtain ⟨W1, hW1⟩ : ∃ W1, W1 = w.alloc (.cells #[.int .i64 x.num, .string ⟨x.now.toArray⟩, .string ⟨x.dur.toArray⟩] 69) := ⟨_, rfl⟩
  have hb1 : Below w.heap.size w W1 := by rw [hW1]; exact (Below.refl _ _).alloc (Nat.le_refl _) _
  have hx1 : FBox W1 w.heap.size x := by rw [hW1]; exact FBox.new w x
  have hs1 : w.heap.size + 1 ≤ W1.heap.size := by rw [hW1]; simp
  have HL := Lib.hid hL
  have H := Lib.hid h
  have HB := Lib.hid hb1
  have HX := Lib.hid hx1
  have HS := Lib.hid hs1
  clear h hfl hb1 hx1 hs1 hL
  unfold rfV
  go_enter Try.func66, Try.ntmps66
  go_wp2_with fail
  rw [← hW1]
  clear hW1
  go_loopw [4, 5] (fun v4 v5 wr => ∃ k : Nat, k ≤ L ∧ v5 = .int .i64 (k : Int) ∧ Hid (wr.ownsRow (w.heap.size + 1) 69 3 v4 ((X.fs.take k).filter (fun y => y.num != x.num)).length (filesV ((X.fs.take k).filter (fun y => y.num != x.num)))) ∧ FBox wr w.heap.size x ∧ Below w.heap.size w wr) (fun _ v5 _ => L - (intOf v5).toNat)
  case atStart => exact ⟨0, Nat.zero_le _, rfl, Lib.hid (by simp only [List.take_zero, List.filter_nil]; exact World.ownsRow_nil _ _ _ _), HX.out, HB.out⟩
  case round =>
    obtain ⟨k, hk, rfl, HO, hx, hb⟩ := hrel
    have hR := H.out.on hb
    have c0 := hR.c0
    have b0 := hx.c0
    have HFX := Lib.hid hx
    have HBB := Lib.hid hb
    have HRR := Lib.hid hR
    by_cases hkl : k < L
    · have hkl' : (k : Int) < (L : Int) := by omega
      have hk0 : (0 : Int) ≤ (k : Int) := by omega
      obtain ⟨y, hy⟩ : ∃ y, X.fs[k]? = some y := ⟨X.fs[k]'(by have := HL.out; omega), List.getElem?_eq_getElem _⟩
      obtain ⟨g, rfl, _, d0, d1, d2⟩ := files_cells (by have := hR.files; exact this) hy
      have HY := Lib.hid hy
      clear hR hx hb hy
      by_cases hne : y.num = x.num
      · go_wp2_with fail
        go_quiet (fail)
        go_wp2_with fail
        go_roundw
        case rel =>
          refine ⟨k + 1, hkl, by go_num, Lib.hid ?_, HFX.out, below_drewN HBB.out _⟩
          have e : (X.fs.take (k + 1)).filter (fun y => y.num != x.num) = (X.fs.take k).filter (fun y => y.num != x.num) := by
            rw [List.take_add_one, HY.out, List.filter_append]
            simp [hne]
          rw [e]
          exact own_kept HO.out (Kept.below (S := fun _ => False) (below_drewN (Below.refl _ _) _)) (fun _ _ e => e)
        case measure => simp [intOf]; omega
      · go_wp2_with fail
        go_quiet (fail)
        generalize hwd : World.drewN _ _ = wy
        have hk1 : Kept (fun _ => False) wr wy := by rw [← hwd]; exact Kept.below (below_drewN (Below.refl _ _) _)
        have hs1 : w.heap.size + 1 ≤ wy.heap.size := by have := hk1.size; have := HFX.out.lt; omega
        obtain ⟨a', c', w5, hr, ho5, hb5, hk5⟩ := app_file wy (w.heap.size + 1) _ _ y (own_kept HO.out hk1 (fun _ _ e => e)) (by have := List.length_filter_le (fun y => y.num != x.num) (X.fs.take k); have := HL.out; simp at *; omega) hs1
        have e0 := hk1.cell c0 (fun e => e)
        have e1 := hk1.cell d0 (fun e => e)
        have e2 := hk1.cell d1 (fun e => e)
        have e3 := hk1.cell d2 (fun e => e)
        have hrel : ∃ k' : Nat, k' ≤ L ∧ Value.int .i64 ((k : Int) + 1) = .int .i64 (k' : Int) ∧ Hid (w5.ownsRow (w.heap.size + 1) 69 3 (.slice a' (((X.fs.take k).filter (fun y => y.num != x.num)).length + 1) c') ((X.fs.take k').filter (fun y => y.num != x.num)).length (filesV ((X.fs.take k').filter (fun y => y.num != x.num)))) ∧ FBox w5 w.heap.size x ∧ Below w.heap.size w w5 := by
          have e : (X.fs.take (k + 1)).filter (fun y => y.num != x.num) = (X.fs.take k).filter (fun y => y.num != x.num) ++ [y] := by
            rw [List.take_add_one, HY.out, List.filter_append]
            simp [hne]
          have hab : ∀ j, _ := fun j (e : _ = some j) => own_above HO.out e
          refine ⟨k + 1, hkl, by go_num, Lib.hid (by rw [e]; exact ho5), ?_, ?_⟩
          · exact (hk5.block _ (by omega) (fun e => by have := hab _ e; omega)).trans ((hk1.block _ HFX.out.lt (fun e => e)).trans HFX.out)
          · exact HBB.out.trans (((hk1.toBelow (B := w.heap.size) (by have := HFX.out.lt; omega) (fun _ e => e.elim))).trans (hk5.toBelow (by omega) (fun k e => by have := hab k e; omega)))
        have HR := Lib.hid hr
        have HREL := Lib.hid hrel
        clear hr ho5 hb5 hk5 hrel hk1 hs1 hwd c0 d0 d1 d2 b0
        go_wp2_with (at_builtin; refine Lib.wpList_append_run _ rfl _ _ _ _ rfl _ _ rfl rfl _ w5 HR.out ?_)
        go_roundw
        case rel => exact HREL.out
        case measure => simp [intOf]; omega
    · have hkl' : ¬ (k : Int) < (L : Int) := by omega
      have b1 := hx.c1
      have b2 := hx.c2
      have hfe : (X.fs.take k).filter (fun y => y.num != x.num) = X.fs.filter (fun y => y.num != x.num) := by rw [List.take_of_length_le (by have := HL.out; omega)]
      rw [hfe] at HO
      have hs1 : w.heap.size + 1 ≤ wr.heap.size := by have := HFX.out.lt; omega
      obtain ⟨a', c', w5, hr, ho5, hb5, hk5⟩ := app_file wr (w.heap.size + 1) _ _ x HO.out (by have := List.length_filter_le (fun y => y.num != x.num) X.fs; have := HL.out; omega) hs1
      have hab : ∀ j, _ := fun j (e : _ = some j) => own_above HO.out e
      have hrs : r < w.heap.size := H.out.lt (Or.inl rfl)
      have hR5 := hR.kept hk5 (fun k hin e => by
        have h1 := H.out.lt hin
        have h2 := hab k e
        omega)
      have e0 := hR5.c0
      have z0 := hR5.z 0
      have hb5' : ∀ j, (Value.slice a' ((X.fs.filter (fun y => y.num != x.num)).length + 1) c').ownBlock = some j → w.heap.size ≤ j := fun j e => by have := own_above ho5 e; omega
      have hk6 := Kept.set r 0 w5 (.slice a' ((X.fs.filter (fun y => y.num != x.num)).length + 1) c')
      have hfin : RAt (w5.setCell ⟨r, 0, none⟩ (.slice a' ((X.fs.filter (fun y => y.num != x.num)).length + 1) c')) r (.slice a' ((X.fs.filter (fun y => y.num != x.num)).length + 1) c') qv kv { X with fs := setR X.fs x } :=
        { cell := cells6_set hR5.cell 0 _ (by omega)
          files := own_base (own_kept ho5 hk6 (fun j e e' => by have := hb5' j e; omega))
          queue := own_kept hR5.queue hk6 (fun j e e' => hR5.nq (by rw [e, e']))
          keep := own_kept hR5.keep hk6 (fun j e e' => hR5.nk (by rw [e, e']))
          nf := fun e => by have := hb5' r e; omega
          nq := hR5.nq
          nk := hR5.nk
          fq := fun j e e' => by have h1 := hb5' j e; have h2 := H.out.lt (Or.inr (Or.inr (Or.inl e'))); omega
          fk := fun j e e' => by have h1 := hb5' j e; have h2 := H.out.lt (Or.inr (Or.inr (Or.inr e'))); omega
          qk := hR5.qk }
      have hkk : Kept (fun k => k = r) w (w5.setCell ⟨r, 0, none⟩ (.slice a' ((X.fs.filter (fun y => y.num != x.num)).length + 1) c')) := by
        refine ((Kept.below (S := fun k => k = r) hb).trans (hk5.mono (S' := fun k => w.heap.size < k) (fun k _ e => by have := hab k e; omega)) (fun k hk e => by omega)).trans hk6 (fun _ _ e => e)
      have HR := Lib.hid hr
      have HFIN := Lib.hid hfin
      have HKK := Lib.hid hkk
      have HBB5 := Lib.hid hb5'
      clear hr ho5 hb5 hk5 hk6 hb5' hfin hkk hR5 hR hx hb hfe hs1 HO hab
      go_wp2_with (at_builtin; refine Lib.wpList_append_run _ rfl _ _ _ _ rfl _ _ rfl rfl _ w5 HR.out ?_)
      go_end0
      exact ⟨rfl, _, HFIN.out, HBB5.out, HKK.out⟩
end Go.Proofs.Ythibikdnoogfoaa
