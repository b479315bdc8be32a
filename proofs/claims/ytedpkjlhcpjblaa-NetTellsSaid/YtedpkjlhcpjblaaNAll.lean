/-
  The methods of a network: Deliver, Split, Heal, Count, List, Copy, New.
-/
import Derived.Test.YtedpkjlhcpjblaaNOps
namespace Go.Proofs.Ytedpkjlhcpjblaa
set_option maxRecDepth 100000
open Go Go.RowKit Nt

/-! ### Deliver -/
theorem ret_pk2 {fn : Func} {p u : Tmp} (hr : fn.results = #[.cell p 33, .tmp u]) (tmps : Array Value) (w : World) (b : Nat) (x : Pk) (hp : tmps.getD p undef = .pointer (some ⟨b, 0, none⟩)) (h : PkBox w b x) :
    (results fn tmps).run Try.prog w = .ok (.tuple #[.agg #[.int .i64 x.a, .int .i64 x.b, .string ⟨x.s.toArray⟩], tmps.getD u undef]) w := by
  rw [results_cell_tmp hr, hp]
  simp only [asAddr, Sem.run_pure, Result.andThen_ok]
  rw [run_loadVar_row w b _ _ _ _ _ h Try.underlying33 rfl (by rw [sizePk3]; rfl)]
  rfl
/-- Blocks that were made on the way are turned at the end. -/
theorem Turned.far {w W1 w2 w3 : World} {b : Nat} {lv : Value} {n' : N} {S : Nat → Prop} (h : Turned W1 w2 b lv n') (hb : Below w.heap.size w W1) (hk : Kept S w2 w3) (hS : ∀ k, S k → w.heap.size ≤ k ∧ k < W1.heap.size) (hlt : b < w.heap.size) (hl : ∀ k, lv.ownBlock = some k → k < w.heap.size) : Turned w w3 b lv n' := by
  obtain ⟨lv', h1, h2, h3⟩ := h
  refine ⟨lv', h1.kept hk (fun e => by have := (hS _ e).1; omega) (fun k e e' => ?_), ?_, ?_⟩
  · rcases h2 with h2 | ⟨y, h2, hy⟩
    · have := hl k (by rw [← h2]; exact e)
      have := (hS _ e').1
      omega
    · rw [h2] at e; injection e with e; have := (hS _ e').2; omega
  · rcases h2 with h2 | ⟨y, h2, hy⟩
    · exact Or.inl h2
    · exact Or.inr ⟨y, h2, Nat.le_trans hb.size hy⟩
  · exact ((Kept.below hb).trans h3 (fun _ _ e => e)).trans hk (fun k hk' e => by have := (hS _ e).1; omega)
theorem Kept.set3 (b : Nat) (w : World) (x y z : Value) : Kept (fun k => k = b) w (((w.setCell ⟨b, 0, none⟩ x).setCell ⟨b, 1, none⟩ y).setCell ⟨b, 2, none⟩ z) :=
  ((Kept.set b 0 w x).trans (Kept.set b 1 _ y) (fun _ _ e => e)).trans (Kept.set b 2 _ z) (fun _ _ e => e)

set_option maxHeartbeats 1000000 in
theorem deliver_out {w : World} {b : Nat} {lv : Value} {n : N} (h : NetAt w b lv n) (i : Int) (hi : i < 0 ∨ (n.l.length : Int) ≤ i) : Calls Try.prog 21 #[.pointer (some ⟨b, 0, none⟩), .int .i64 i] w fun e w' => e = .returned (.tuple #[.agg #[.int .i64 0, .int .i64 0, .string ⟨#[]⟩], .int .i64 4]) ∧ Below w.heap.size w w' := by
  obtain ⟨W0, hW0⟩ : ∃ W0, W0 = w.alloc (.cells #[.int .i64 0, .int .i64 0, .string ⟨#[]⟩] 33) := ⟨_, rfl⟩
  have hb0 : Below w.heap.size w W0 := by rw [hW0]; exact (Below.refl _ _).alloc (Nat.le_refl _) _
  have hx0 : PkBox W0 w.heap.size zero := by rw [hW0]; exact PkBox.new w zero
  have h0 := h.on hb0
  have Q := Lib.hid (at_out h0 i hi)
  have D := Lib.hid (fun (W : World) (hW : NetAt W b lv n) => drop_out hW i hi)
  have H0 := Lib.hid h0
  have HB0 := Lib.hid hb0
  have HX0 := Lib.hid hx0
  clear h hi h0 hb0 hx0
  go_enter Try.func21, Try.ntmps21
  go_upto_region 1 with fail
  rw [← hW0]
  clear hW0
  go_wp2_with fail
  refine Q.out.mono ?_
  rintro e w1 ⟨rfl, hb⟩
  obtain ⟨W1, hW1⟩ : ∃ W1, W1 = w1.alloc (.cells #[.int .i64 0, .int .i64 0, .string ⟨#[]⟩] 33) := ⟨_, rfl⟩
  have hx1 : PkBox W1 w1.heap.size zero := by rw [hW1]; exact PkBox.new w1 zero
  have hbW : Below W0.heap.size W0 W1 := by rw [hW1]; exact hb.alloc hb.size _
  have H1 := Lib.hid (H0.out.on hbW)
  have HB := Lib.hid hbW
  have HX1 := Lib.hid hx1
  clear hb hx1 hbW
  go_upto_region 2 with fail
  rw [← hW1]
  clear hW1
  go_wp2_with fail
  refine (D.out _ H1.out).mono ?_
  rintro e w2 ⟨rfl, hb2⟩
  have hx2 := HX0.out.kept (Kept.below (S := fun _ => False) (HB.out.trans (hb2.mono HB.out.size))) (fun e => e)
  have hx3 := HX1.out.kept (Kept.below (S := fun _ => False) hb2) (fun e => e)
  have b0 := hx3.c0
  have b1 := hx3.c1
  have b2 := hx3.c2
  have d0 := hx2.c0
  have d1 := hx2.c1
  have d2 := hx2.c2
  have z0 := hx2.z 0
  have z1 := hx2.z 1
  have z2 := hx2.z 2
  have HX2 := Lib.hid hx2
  have HB2 := Lib.hid (HB0.out.trans ((HB.out.trans (hb2.mono HB.out.size)).mono HB0.out.size))
  clear hb2 hx2 hx3
  go_wp2_with fail
  (try simp only [Exit.inBlock, Exit.then])
  refine bodyPost_ret (ret_pk2 rfl _ _ w.heap.size zero rfl (HX2.out.set3 zero)) rfl ?_
  exact ⟨rfl, below_set3 HB2.out (Nat.le_refl _) _ _ _⟩
theorem cut_mem' {l : List Pk} {k : Nat} {p : Pk} (h : p ∈ cut l k) : p ∈ l := cut_mem h
theorem Ok.cut {n : N} (h : Ok n) {k : Nat} (hk : k < n.l.length) : Ok ⟨Nt.cut n.l k, n.m⟩ :=
  ⟨h.split, by show (Nt.cut n.l k).length ≤ 500; rw [cut_length (by omega) (by omega)]; have := h.len; omega, fun p hp => h.ends p (cut_mem hp)⟩
theorem Ok.snoc {n : N} (h : Ok n) {p : Pk} (hp : isEnd p.a = true ∧ isEnd p.b = true ∧ p.a ≠ p.b) (hl : n.l.length < 500) : Ok ⟨n.l ++ [p], n.m⟩ :=
  ⟨h.split, by show (n.l ++ [p]).length ≤ 500; simp; omega, fun q hq => by
    rcases List.mem_append.1 hq with hq | hq
    · exact h.ends q hq
    · rw [List.mem_singleton.1 hq]; exact hp⟩

set_option maxHeartbeats 1000000 in
theorem deliver_in {w : World} {b : Nat} {lv : Value} {n : N} (h : NetAt w b lv n) (hn : Ok n) (k : Nat) (p : Pk) (hp : n.l[k]? = some p) (r : Pk) (z : Int) (hrz : (if hear n.m p.a p.b then (p, 0) else (zero, 10)) = (r, z)) : Calls Try.prog 21 #[.pointer (some ⟨b, 0, none⟩), .int .i64 (k : Int)] w fun e w' =>
    e = .returned (.tuple #[.agg #[.int .i64 r.a, .int .i64 r.b, .string ⟨r.s.toArray⟩], .int .i64 z]) ∧ Turned w w' b lv ⟨cut n.l k, n.m⟩ := by
  obtain ⟨W0, hW0⟩ : ∃ W0, W0 = w.alloc (.cells #[.int .i64 0, .int .i64 0, .string ⟨#[]⟩] 33) := ⟨_, rfl⟩
  have hb0 : Below w.heap.size w W0 := by rw [hW0]; exact (Below.refl _ _).alloc (Nat.le_refl _) _
  have hx0 : PkBox W0 w.heap.size zero := by rw [hW0]; exact PkBox.new w zero
  have h0 := h.on hb0
  have hk := (List.getElem?_eq_some_iff.1 hp).1
  have hok := hn.cut hk
  obtain ⟨n', hn'⟩ : ∃ n' : N, n' = ⟨cut n.l k, n.m⟩ := ⟨_, rfl⟩
  have hnm : n'.m = n.m := by rw [hn']
  have D := Lib.hid (fun (W : World) (hW : NetAt W b lv n) => drop_in hW hn k p hp)
  rw [← hn'] at D hok ⊢
  rw [← hnm] at hrz
  have HZ := Lib.hid hrz
  have Q := Lib.hid (at_in h0 k p hp)
  have HO := Lib.hid hok
  have H0 := Lib.hid h0
  have HB0 := Lib.hid hb0
  have HX0 := Lib.hid hx0
  have HLT := Lib.hid h.lt
  have HLO := Lib.hid (show ∀ k, lv.ownBlock = some k → k < w.heap.size from fun k e => h.row.lt e)
  clear h hn hp h0 hb0 hx0 hk hok hn' hnm hrz
  go_enter Try.func21, Try.ntmps21
  go_upto_region 1 with fail
  rw [← hW0]
  clear hW0
  go_wp2_with fail
  refine Q.out.mono ?_
  rintro e w1 ⟨rfl, hb⟩
  obtain ⟨W1, hW1⟩ : ∃ W1, W1 = w1.alloc (.cells #[.int .i64 p.a, .int .i64 p.b, .string ⟨p.s.toArray⟩] 33) := ⟨_, rfl⟩
  have hx1 : PkBox W1 w1.heap.size p := by rw [hW1]; exact PkBox.new w1 p
  have hbW : Below W0.heap.size W0 W1 := by rw [hW1]; exact hb.alloc hb.size _
  have HL1 := Lib.hid (show W0.heap.size ≤ w1.heap.size from hb.size)
  have H1 := Lib.hid (H0.out.on hbW)
  have HB := Lib.hid hbW
  have HX1 := Lib.hid hx1
  clear hb hx1 hbW
  go_upto_region 2 with fail
  rw [← hW1]
  clear hW1
  go_wp2_with fail
  refine (D.out _ H1.out).mono ?_
  rintro e w2 ⟨rfl, ht2⟩
  obtain ⟨lv2, hN2, hl2, hK2⟩ := ht2
  have hlt := HLT.out
  have hx2 := (HX0.out.kept (Kept.below (S := fun _ => False) HB.out) (fun e => e)).kept hK2 (fun e => by
    rcases e with e | e
    · omega
    · have := HLO.out _ e; omega)
  have hx3 := HX1.out.kept hK2 (fun e => by
    have := HL1.out
    have := HB0.out.size
    rcases e with e | e
    · omega
    · have := HLO.out _ e; omega)
  have HT := Lib.hid (show Turned W1 w2 b lv n' from ⟨lv2, hN2, hl2, hK2⟩)
  have HR := Lib.hid (hear_c hN2 HO.out p.a p.b)
  have b0 := hx3.c0
  have b1 := hx3.c1
  have b2 := hx3.c2
  have d0 := hx2.c0
  have d1 := hx2.c1
  have d2 := hx2.c2
  have z0 := hx2.z 0
  have z1 := hx2.z 1
  have z2 := hx2.z 2
  have HX2 := Lib.hid hx2
  have HB1 := Lib.hid (HB0.out.trans (HB.out.mono HB0.out.size))
  have HLW := Lib.hid (show w.heap.size < W1.heap.size from Nat.lt_of_lt_of_le HX0.out.lt HB.out.size)
  have HFAR := Lib.hid (fun x y z => HT.out.far HB1.out (Kept.set3 w.heap.size w2 x y z) (fun k e => ⟨Nat.le_of_eq e.symm, by rw [e]; exact HLW.out⟩) HLT.out HLO.out)
  clear hN2 hl2 hK2 hx2 hx3 hlt
  cases hh : hear n'.m p.a p.b with
  | true =>
    have hrz := HZ.out
    rw [hh, if_pos rfl] at hrz
    obtain ⟨rfl, rfl⟩ := Prod.mk.inj hrz
    rw [hh] at HR
    clear hh hrz HZ
    go_wp2_with fail
    refine HR.out.mono ?_
    rintro e w3 ⟨rfl, hw⟩
    rw [hw]
    clear hw
    go_wp2_with fail
    (try simp only [Exit.inBlock, Exit.then])
    refine bodyPost_ret (ret_pk2 rfl _ _ w.heap.size p rfl (HX2.out.set3 p)) rfl ?_
    exact ⟨rfl, HFAR.out _ _ _⟩
  | false =>
    have hrz := HZ.out
    rw [hh, if_neg (by simp)] at hrz
    obtain ⟨rfl, rfl⟩ := Prod.mk.inj hrz
    rw [hh] at HR
    clear hh hrz HZ
    go_wp2_with fail
    refine HR.out.mono ?_
    rintro e w3 ⟨rfl, hw⟩
    rw [hw]
    clear hw
    go_wp2_with fail
    (try simp only [Exit.inBlock, Exit.then])
    refine bodyPost_ret (ret_pk2 rfl _ _ w.heap.size zero rfl (HX2.out.set3 zero)) rfl ?_
    exact ⟨rfl, HFAR.out _ _ _⟩

/-! ### Split, Heal, Count -/
theorem NetAt.resplit {w : World} {b : Nat} {lv : Value} {n : N} (h : NetAt w b lv n) (m : Int) : Turned w (w.setCell ⟨b, 1, none⟩ (.int .u16 m)) b lv ⟨n.l, m⟩ := by
  have hk := Kept.set b 1 w (.int .u16 m)
  exact ⟨lv, ⟨(cells2_set h.blk _).2, h.row.kept hk (fun k e e' => h.apart (by rw [e, e'])), h.apart⟩, Or.inl rfl, hk.mono (fun _ _ e => Or.inl e)⟩
theorem split_c {w : World} {b : Nat} {lv : Value} {n : N} (h : NetAt w b lv n) (mask : Int) : Calls Try.prog 22 #[.pointer (some ⟨b, 0, none⟩), .int .i64 mask] w fun e w' => e = .returned (.tuple #[]) ∧ Turned w w' b lv (split n mask) := by
  have c1 := h.c1
  have z1 := h.z 1
  have HE := Lib.hid (h.resplit (mask % 65536))
  clear h
  go_enter Try.func22, Try.ntmps22
  go_wp2_with fail
  (try rw [IntKind.wrap_u16])
  go_end0
  exact ⟨rfl, HE.out⟩
theorem heal_c {w : World} {b : Nat} {lv : Value} {n : N} (h : NetAt w b lv n) : Calls Try.prog 23 #[.pointer (some ⟨b, 0, none⟩)] w fun e w' => e = .returned (.tuple #[]) ∧ Turned w w' b lv (split n 0) := by
  have c1 := h.c1
  have z1 := h.z 1
  have HE := Lib.hid (h.resplit 0)
  clear h
  go_enter Try.func23, Try.ntmps23
  go_wp2_with fail
  go_end0
  exact ⟨rfl, HE.out⟩
theorem count_c {w : World} {b : Nat} {lv : Value} {n : N} (h : NetAt w b lv n) : Calls Try.prog 14 #[.pointer (some ⟨b, 0, none⟩)] w fun e w' => e = .returned (.int .i64 (n.l.length : Int)) ∧ w' = w := by
  have c0 := h.c0
  obtain ⟨a, c, rfl, _⟩ := h.row.shape
  clear h
  go_enter Try.func14, Try.ntmps14
  go_wp2_with fail
  go_ret
  exact ⟨rfl, rfl⟩

/-! ### List, Copy, New -/
theorem clone_c {w : World} {base : Nat} {v : Value} {l : List Pk} (h : PkRow w base v l) (hl : l.length ≤ 1000000) :
    Calls Try.prog 25 #[v] w fun e w' => ∃ v', e = .returned v' ∧ PkRow w' w.heap.size v' l ∧ Below w.heap.size w w' := by
  obtain ⟨i0, hi0, hz0, hz1, hz2⟩ := info_parts infoPk
  have q22 : ∀ (w : World) (a : Option Addr) (n c n' c' : Nat), (binOp .eql 27 (.slice a n c) (.slice none n' c')).run Try.prog w = .ok (.bool a.isNone) w := fun w a n c n' c' => Lib.run_eql_slice_nil w _ _ a n c n' c' Try.underlying27
  obtain ⟨a, c, rfl, hc, hcm, hno⟩ := h.shape
  cases a with
  | none =>
    obtain rfl : l = [] := List.eq_nil_of_length_eq_zero (hno rfl).1
    clear hno h hc
    go_enter Try.func25, Try.ntmps25
    go_wp2_with fail
    go_ret
    exact ⟨_, rfl, pkRow_nil _ _, Below.refl _ _⟩
  | some ad =>
    have hcells : ∀ j u, (pksV l)[j]? = some u → w.cell? (ad.add j) = some u := fun j u hu => own_cell_size (own_base h) rfl j u hu
    have hnew : ((w.alloc (.cells #[] 33)).ownsRow w.heap.size 33 3 (.slice (some ⟨w.heap.size, 0, none⟩) 0 0) 0 []) := World.ownsRow_made w #[] 0 (Nat.le_refl _) (Nat.zero_le _) rfl
    obtain ⟨v1, w1, hr, ho, hg, hb⟩ := run_append_any_own (P := Try.prog) (w.alloc (.cells #[] 33)) w.heap.size 27 27 33 i0 (.agg #[.int .i64 0, .int .i64 0, .string ⟨#[]⟩]) 3 32 Try.underlying27 hi0 hz0 hz1 hz2 rfl (by decide) _ _ _ hnew (some ad) l.length c (pksV l) (pksV_length l)
      (fun _ => ⟨ad, rfl, fun j u hu => Lib.cell?_alloc_some _ (hcells j u hu)⟩) (pksV_one l) (by unfold maxLen; omega) (by omega) (by simp)
    obtain ⟨a1, c1, rfl, _⟩ := own_shape (own_base ho)
    have HO := Lib.hid ho
    have HG := Lib.hid hg
    have HR := Lib.hid hr
    clear hcells hno ho hg hr hb hnew h hc
    go_enter Try.func25, Try.ntmps25
    go_wp2_with (at_builtin; refine Lib.wpList_append_run _ rfl _ _ _ _ rfl _ _ rfl rfl _ w1 HR.out ?_)
    go_ret
    refine ⟨_, rfl, by have := HO.out; rw [Nat.zero_add, List.nil_append] at this; exact this, ?_⟩
    exact ((Below.refl _ w).alloc (Nat.le_refl _) _).grown HG.out (by simp) (fun k hk => by simp [Value.ownBlock] at hk; omega)
theorem list_c {w : World} {b : Nat} {lv : Value} {n : N} (h : NetAt w b lv n) (hl : n.l.length ≤ 500) : Calls Try.prog 18 #[.pointer (some ⟨b, 0, none⟩)] w fun e w' => ∃ v', e = .returned v' ∧ PkRow w' w.heap.size v' n.l ∧ Below w.heap.size w w' := by
  have c0 := h.c0
  have Q := Lib.hid (clone_c h.row (by omega))
  obtain ⟨a, c, rfl, _⟩ := h.row.shape
  clear h
  go_enter Try.func18, Try.ntmps18
  go_wp2_with fail
  refine Q.out.mono ?_
  rintro e w' ⟨v', rfl, h1, h2⟩
  have H1 := Lib.hid h1
  have H2 := Lib.hid h2
  obtain ⟨a', c', rfl, _⟩ := h1.shape
  clear h1 h2
  go_wp2_with fail
  go_ret
  exact ⟨_, rfl, H1.out, H2.out⟩
theorem new_c (w : World) : Calls Try.prog 8 #[] w fun e w' => e = .returned (.pointer (some ⟨w.heap.size, 0, none⟩)) ∧ NetAt w' w.heap.size (.slice none 0 0) new ∧ Below w.heap.size w w' := by
  go_enter Try.func8, Try.ntmps8
  go_wp2_with fail
  go_ret
  exact ⟨rfl, ⟨heap_alloc_new w _, pkRow_nil _ _, fun e => by cases e⟩, (Below.refl _ _).alloc (Nat.le_refl _) _⟩
end Go.Proofs.Ytedpkjlhcpjblaa
