/-
  The reference's network: Double where there is room.
-/
import Derived.Test.YtedpkjlhcpjblaaNRefB
namespace Go.Proofs.Ytedpkjlhcpjblaa
set_option maxRecDepth 100000
open Go Go.RowKit Nt

/-- 'append(append([]T{}, l...), p)' where the empty slice lies in block e of the world V, p in block x of its own: what both appends leave. -/
theorem dbl_run {w V : World} {e x : Nat} {sv : Value} {l : List Pk} {p : Pk} (hb : Below w.heap.size w V) (hown0 : PkRow V w.heap.size (.slice (some ⟨e, 0, none⟩) 0 0) []) (hx : PkBox V x p) (hxe : x ≠ e) (hs : PkRow V 0 sv l) (hl : l.length ≤ 600) :
    ∃ a1 c1 W1 a2 c2 W2, (Builtin.append_ #[27, 27] 27 #[.slice (some ⟨e, 0, none⟩) 0 0, sv]).run Try.prog V = .ok (.slice a1 l.length c1) W1 ∧
      (Builtin.append_ #[27, 27] 27 #[.slice a1 l.length c1, .slice (some ⟨x, 0, none⟩) 1 1]).run Try.prog W1 = .ok (.slice a2 (l.length + 1) c2) W2 ∧ PkRow W2 w.heap.size (.slice a2 (l.length + 1) c2) (l ++ [p]) ∧ Below w.heap.size w W1 ∧ Below w.heap.size w W2 := by
  obtain ⟨a1, c1, W1, hr1, ho1, _, hk1⟩ := app_row V w.heap.size _ [] hown0 _ _ l hs (by simp only [List.length_nil]; omega) hb.size
  simp only [List.length_nil, Nat.zero_add, List.nil_append] at hr1 ho1
  have hb1 : Below w.heap.size w W1 := hb.trans (hk1.toBelow hb.size (fun j e => hown0.above e))
  have hx1 := hx.kept hk1 (fun e' => hxe (by simpa [Value.ownBlock] using e'.symm))
  obtain ⟨a2, c2, W2, hr2, ho2, hk2⟩ := app_src W1 w.heap.size _ l ho1 (some ⟨x, 0, none⟩) 1 [p] (fun _ => ⟨_, rfl, fun j u hu => by
    rw [Lib.add_plain, Lib.cell_of_heap hx1]
    match j, hu with
    | 0, hu => simpa [pksV, pkC] using hu
    | 1, hu => simpa [pksV, pkC] using hu
    | 2, hu => simpa [pksV, pkC] using hu⟩) (by simp; omega) hb1.size
  exact ⟨a1, c1, W1, a2, c2, W2, hr1, hr2, ho2, hb1, hb1.trans (hk2.toBelow hb1.size (fun j e => ho1.above e))⟩
set_option maxHeartbeats 4000000 in
theorem rdouble_in {w : World} {b : Nat} {lv : Value} {n : N} (h : RefAt w b lv n) (k : Nat) (p : Pk) (hp : n.l[k]? = some p) (h5 : n.l.length < 500) : Calls Try.prog 29 #[.pointer (some ⟨b, 0, none⟩), .int .i64 (k : Int)] w fun e w' => e = .returned (.int .i64 0) ∧ RTurned w w' b lv ⟨n.l ++ [p], n.m⟩ := by
  have hk := (List.getElem?_eq_some_iff.1 hp).1
  obtain ⟨a, c, rfl, _⟩ := h.row.shape
  have hl5 : n.l.length ≤ 600 := by omega
  have c0 := h.c0
  obtain ⟨g, rfl, _, e0, e1, e2⟩ := pks_cells h.row hp
  have hN : Below w.heap.size w (w.alloc (.cells #[] 33)) := (Below.refl _ _).alloc (Nat.le_refl _) _
  have hX : Below w.heap.size w (w.alloc (.cells #[.int .i64 p.a, .int .i64 p.b, .string ⟨p.s.toArray⟩] 33)) := (Below.refl _ _).alloc (Nat.le_refl _) _
  have hNX : Below w.heap.size w ((w.alloc (.cells #[] 33)).alloc (.cells #[.int .i64 p.a, .int .i64 p.b, .string ⟨p.s.toArray⟩] 33)) := hN.alloc (by simp) _
  have hXN : Below w.heap.size w ((w.alloc (.cells #[.int .i64 p.a, .int .i64 p.b, .string ⟨p.s.toArray⟩] 33)).alloc (.cells #[] 33)) := hX.alloc (by simp) _
  have uq : (w.alloc (.cells #[] 33)).cell? ⟨b, 0, none⟩ = some (.slice (some ⟨g, 0, none⟩) n.l.length c) := (Kept.below (S := fun _ => False) hN).cell c0 (fun e => e)
  have u0 : (w.alloc (.cells #[] 33)).cell? ⟨g, k * 3, none⟩ = some (.int .i64 p.a) := (Kept.below (S := fun _ => False) hN).cell e0 (fun e => e)
  have u1 : (w.alloc (.cells #[] 33)).cell? ⟨g, k * 3 + 1, none⟩ = some (.int .i64 p.b) := (Kept.below (S := fun _ => False) hN).cell e1 (fun e => e)
  have u2 : (w.alloc (.cells #[] 33)).cell? ⟨g, k * 3 + 2, none⟩ = some (.string ⟨p.s.toArray⟩) := (Kept.below (S := fun _ => False) hN).cell e2 (fun e => e)
  have vq : (w.alloc (.cells #[.int .i64 p.a, .int .i64 p.b, .string ⟨p.s.toArray⟩] 33)).cell? ⟨b, 0, none⟩ = some (.slice (some ⟨g, 0, none⟩) n.l.length c) := (Kept.below (S := fun _ => False) hX).cell c0 (fun e => e)
  have v0 : (w.alloc (.cells #[.int .i64 p.a, .int .i64 p.b, .string ⟨p.s.toArray⟩] 33)).cell? ⟨g, k * 3, none⟩ = some (.int .i64 p.a) := (Kept.below (S := fun _ => False) hX).cell e0 (fun e => e)
  have v1 : (w.alloc (.cells #[.int .i64 p.a, .int .i64 p.b, .string ⟨p.s.toArray⟩] 33)).cell? ⟨g, k * 3 + 1, none⟩ = some (.int .i64 p.b) := (Kept.below (S := fun _ => False) hX).cell e1 (fun e => e)
  have v2 : (w.alloc (.cells #[.int .i64 p.a, .int .i64 p.b, .string ⟨p.s.toArray⟩] 33)).cell? ⟨g, k * 3 + 2, none⟩ = some (.string ⟨p.s.toArray⟩) := (Kept.below (S := fun _ => False) hX).cell e2 (fun e => e)
  have yq : ((w.alloc (.cells #[] 33)).alloc (.cells #[.int .i64 p.a, .int .i64 p.b, .string ⟨p.s.toArray⟩] 33)).cell? ⟨b, 0, none⟩ = some (.slice (some ⟨g, 0, none⟩) n.l.length c) := (Kept.below (S := fun _ => False) hNX).cell c0 (fun e => e)
  have y0 : ((w.alloc (.cells #[] 33)).alloc (.cells #[.int .i64 p.a, .int .i64 p.b, .string ⟨p.s.toArray⟩] 33)).cell? ⟨g, k * 3, none⟩ = some (.int .i64 p.a) := (Kept.below (S := fun _ => False) hNX).cell e0 (fun e => e)
  have y1 : ((w.alloc (.cells #[] 33)).alloc (.cells #[.int .i64 p.a, .int .i64 p.b, .string ⟨p.s.toArray⟩] 33)).cell? ⟨g, k * 3 + 1, none⟩ = some (.int .i64 p.b) := (Kept.below (S := fun _ => False) hNX).cell e1 (fun e => e)
  have y2 : ((w.alloc (.cells #[] 33)).alloc (.cells #[.int .i64 p.a, .int .i64 p.b, .string ⟨p.s.toArray⟩] 33)).cell? ⟨g, k * 3 + 2, none⟩ = some (.string ⟨p.s.toArray⟩) := (Kept.below (S := fun _ => False) hNX).cell e2 (fun e => e)
  have zq : ((w.alloc (.cells #[.int .i64 p.a, .int .i64 p.b, .string ⟨p.s.toArray⟩] 33)).alloc (.cells #[] 33)).cell? ⟨b, 0, none⟩ = some (.slice (some ⟨g, 0, none⟩) n.l.length c) := (Kept.below (S := fun _ => False) hXN).cell c0 (fun e => e)
  have z0 : ((w.alloc (.cells #[.int .i64 p.a, .int .i64 p.b, .string ⟨p.s.toArray⟩] 33)).alloc (.cells #[] 33)).cell? ⟨g, k * 3, none⟩ = some (.int .i64 p.a) := (Kept.below (S := fun _ => False) hXN).cell e0 (fun e => e)
  have z1 : ((w.alloc (.cells #[.int .i64 p.a, .int .i64 p.b, .string ⟨p.s.toArray⟩] 33)).alloc (.cells #[] 33)).cell? ⟨g, k * 3 + 1, none⟩ = some (.int .i64 p.b) := (Kept.below (S := fun _ => False) hXN).cell e1 (fun e => e)
  have z2 : ((w.alloc (.cells #[.int .i64 p.a, .int .i64 p.b, .string ⟨p.s.toArray⟩] 33)).alloc (.cells #[] 33)).cell? ⟨g, k * 3 + 2, none⟩ = some (.string ⟨p.s.toArray⟩) := (Kept.below (S := fun _ => False) hXN).cell e2 (fun e => e)
  have hba : Below w.heap.size w (w.alloc (.cells #[] 33)).drew := hN.drew
  have hown0 : PkRow (w.alloc (.cells #[] 33)).drew w.heap.size (.slice (some ⟨w.heap.size, 0, none⟩) 0 0) [] := PkRow.on (w := w.alloc (.cells #[] 33)) (World.ownsRow_made w #[] 0 (Nat.le_refl _) (Nat.zero_le _) rfl) ⟨rfl, rfl, rfl, Nat.le_refl _, fun _ _ => rfl⟩
  obtain ⟨a1, c1, W1, hr1, ho1, _, hk1⟩ := app_row _ w.heap.size _ [] hown0 _ _ n.l (h.row.on hba) (by simp only [List.length_nil]; omega) hba.size
  simp only [List.length_nil, Nat.zero_add, List.nil_append] at hr1 ho1
  have hbb : Below w.heap.size w W1 := hba.trans (hk1.toBelow hba.size (fun j e => hown0.above e))
  obtain ⟨a2, c2, W2, hr2, ho2, _, hk2⟩ := app_pk W1 w.heap.size _ n.l p ho1 (by omega) hbb.size
  have hbd : Below w.heap.size w W2 := hbb.trans (hk2.toBelow hbb.size (fun j e => ho1.above e))
  have hend := h.put (Kept.below hbd) (ho2.low (Nat.zero_le _)) (fun y e => Or.inr (ho2.above e))
  obtain ⟨a3, c3, W3, a4, c4, W4, hr3, hr4, ho4, hb3, hb4⟩ := dbl_run (w := w) (V := ((w.alloc (.cells #[] 33)).alloc (.cells #[.int .i64 p.a, .int .i64 p.b, .string ⟨p.s.toArray⟩] 33)).drew) (e := w.heap.size) (x := w.heap.size + 1) (sv := .slice (some ⟨g, 0, none⟩) n.l.length c) (l := n.l) (p := p) hNX.drew
    (PkRow.on (w := w.alloc (.cells #[] 33)) (World.ownsRow_made w #[] 0 (Nat.le_refl _) (Nat.zero_le _) rfl) (((Below.refl _ _).alloc (Nat.le_refl _) _).drew))
    (by have := PkBox.new (w.alloc (.cells #[] 33)) p; rw [show (w.alloc (.cells #[] 33)).heap.size = w.heap.size + 1 by simp] at this; exact this) (by omega) ((h.row.on hNX.drew).low (Nat.zero_le _)) hl5
  have hend4 := h.put (Kept.below hb4) (ho4.low (Nat.zero_le _)) (fun y e => Or.inr (ho4.above e))
  obtain ⟨a5, c5, W5, a6, c6, W6, hr5, hr6, ho6, hb5, hb6⟩ := dbl_run (w := w) (V := ((w.alloc (.cells #[.int .i64 p.a, .int .i64 p.b, .string ⟨p.s.toArray⟩] 33)).alloc (.cells #[] 33)).drew) (e := w.heap.size + 1) (x := w.heap.size) (sv := .slice (some ⟨g, 0, none⟩) n.l.length c) (l := n.l) (p := p) hXN.drew
    (by
      have := World.ownsRow_made (e := 33) (size := 3) (base := w.heap.size) (w.alloc (.cells #[.int .i64 p.a, .int .i64 p.b, .string ⟨p.s.toArray⟩] 33)) #[] 0 (by simp) (Nat.zero_le _) rfl
      rw [show (w.alloc (.cells #[.int .i64 p.a, .int .i64 p.b, .string ⟨p.s.toArray⟩] 33)).heap.size = w.heap.size + 1 by simp] at this
      exact this)
    ((PkBox.new w p).kept (Kept.below (S := fun _ => False) (((Below.refl _ _).alloc (Nat.le_refl _) _).drew)) (fun e => e)) (by omega) ((h.row.on hXN.drew).low (Nat.zero_le _)) hl5
  have hend6 := h.put (Kept.below hb6) (ho6.low (Nat.zero_le _)) (fun y e => Or.inr (ho6.above e))
  have fq : W1.cell? ⟨b, 0, none⟩ = some (.slice (some ⟨g, 0, none⟩) n.l.length c) := (Kept.below (S := fun _ => False) hbb).cell c0 (fun e => e)
  have f0 : W1.cell? ⟨g, k * 3, none⟩ = some (.int .i64 p.a) := (Kept.below (S := fun _ => False) hbb).cell e0 (fun e => e)
  have f1 : W1.cell? ⟨g, k * 3 + 1, none⟩ = some (.int .i64 p.b) := (Kept.below (S := fun _ => False) hbb).cell e1 (fun e => e)
  have f2 : W1.cell? ⟨g, k * 3 + 2, none⟩ = some (.string ⟨p.s.toArray⟩) := (Kept.below (S := fun _ => False) hbb).cell e2 (fun e => e)
  have iq : W3.cell? ⟨b, 0, none⟩ = some (.slice (some ⟨g, 0, none⟩) n.l.length c) := (Kept.below (S := fun _ => False) hb3).cell c0 (fun e => e)
  have i0 : W3.cell? ⟨g, k * 3, none⟩ = some (.int .i64 p.a) := (Kept.below (S := fun _ => False) hb3).cell e0 (fun e => e)
  have i1 : W3.cell? ⟨g, k * 3 + 1, none⟩ = some (.int .i64 p.b) := (Kept.below (S := fun _ => False) hb3).cell e1 (fun e => e)
  have i2 : W3.cell? ⟨g, k * 3 + 2, none⟩ = some (.string ⟨p.s.toArray⟩) := (Kept.below (S := fun _ => False) hb3).cell e2 (fun e => e)
  have jq : W5.cell? ⟨b, 0, none⟩ = some (.slice (some ⟨g, 0, none⟩) n.l.length c) := (Kept.below (S := fun _ => False) hb5).cell c0 (fun e => e)
  have j0 : W5.cell? ⟨g, k * 3, none⟩ = some (.int .i64 p.a) := (Kept.below (S := fun _ => False) hb5).cell e0 (fun e => e)
  have j1 : W5.cell? ⟨g, k * 3 + 1, none⟩ = some (.int .i64 p.b) := (Kept.below (S := fun _ => False) hb5).cell e1 (fun e => e)
  have j2 : W5.cell? ⟨g, k * 3 + 2, none⟩ = some (.string ⟨p.s.toArray⟩) := (Kept.below (S := fun _ => False) hb5).cell e2 (fun e => e)
  have rq : W2.cell? ⟨b, 0, none⟩ = some (.slice (some ⟨g, 0, none⟩) n.l.length c) := (Kept.below (S := fun _ => False) hbd).cell c0 (fun e => e)
  have rz : W2.frozen? ⟨b, 0, none⟩ = false := Lib.frozen_of_heap ((Kept.below (S := fun _ => False) hbd).heap h.blk (fun e => e)) 0
  have sq : W4.cell? ⟨b, 0, none⟩ = some (.slice (some ⟨g, 0, none⟩) n.l.length c) := (Kept.below (S := fun _ => False) hb4).cell c0 (fun e => e)
  have sz : W4.frozen? ⟨b, 0, none⟩ = false := Lib.frozen_of_heap ((Kept.below (S := fun _ => False) hb4).heap h.blk (fun e => e)) 0
  have tq : W6.cell? ⟨b, 0, none⟩ = some (.slice (some ⟨g, 0, none⟩) n.l.length c) := (Kept.below (S := fun _ => False) hb6).cell c0 (fun e => e)
  have tz : W6.frozen? ⟨b, 0, none⟩ = false := Lib.frozen_of_heap ((Kept.below (S := fun _ => False) hb6).heap h.blk (fun e => e)) 0
  have HR1 := Lib.hid hr1
  have HR2 := Lib.hid hr2
  have HR3 := Lib.hid hr3
  have HR4 := Lib.hid hr4
  have HR5 := Lib.hid hr5
  have HR6 := Lib.hid hr6
  have HE := Lib.hid hend
  have HE4 := Lib.hid hend4
  have HE6 := Lib.hid hend6
  obtain ⟨L, hL⟩ : ∃ L, L = n.l.length := ⟨_, rfl⟩
  rw [← hL] at c0 uq vq yq zq fq iq jq rq sq tq HE HE4 HE6 hk h5 HR1 HR2 HR3 HR4 HR5 HR6 ⊢
  have k0 : ¬ (k : Int) < 0 := by omega
  have k1 : ¬ (L : Int) ≤ (k : Int) := by omega
  have k2 : ¬ (500 : Int) ≤ (L : Int) := by omega
  have k3 : (k : Int) < (L : Int) := by omega
  clear h hp hba hown0 hr1 ho1 hk1 hbb hr2 ho2 hk2 hbd hend hL hr3 hr4 ho4 hb3 hb4 hend4 hr5 hr6 ho6 hb5 hb6 hend6 hN hX hNX hXN hl5
  go_enter Try.func29, Try.ntmps29
  go_wp2_with fail
  go_region_law (first
    | ((with_reducible show (if _ = true then Oper.wp _ _ _ ((w.alloc (.cells #[] 33)).drew) _ _ else _)); refine step_append_run rfl (.tmp 23) (.tmp 27) _ _ rfl _ _ rfl rfl _ _ HR1.out ?_)
    | ((with_reducible show (if _ = true then Oper.wp _ _ _ (W1.alloc (.cells #[.int .i64 p.a, .int .i64 p.b, .string ⟨p.s.toArray⟩] 33)) _ _ else _)); refine step_append_run rfl (.tmp 28) (.tmp 36) _ _ rfl _ _ rfl rfl _ _ HR2.out ?_)
    | ((with_reducible show (if _ = true then Oper.wp _ _ _ (((w.alloc (.cells #[] 33)).alloc (.cells #[.int .i64 p.a, .int .i64 p.b, .string ⟨p.s.toArray⟩] 33)).drew) _ _ else _)); refine step_append_run rfl (.tmp 23) (.tmp 27) _ _ rfl _ _ rfl rfl _ _ HR3.out ?_)
    | ((with_reducible show (if _ = true then Oper.wp _ _ _ W3 _ _ else _)); refine step_append_run rfl (.tmp 28) (.tmp 36) _ _ rfl _ _ rfl rfl _ _ HR4.out ?_)
    | ((with_reducible show (if _ = true then Oper.wp _ _ _ (((w.alloc (.cells #[.int .i64 p.a, .int .i64 p.b, .string ⟨p.s.toArray⟩] 33)).alloc (.cells #[] 33)).drew) _ _ else _)); refine step_append_run rfl (.tmp 23) (.tmp 27) _ _ rfl _ _ rfl rfl _ _ HR5.out ?_)
    | ((with_reducible show (if _ = true then Oper.wp _ _ _ W5 _ _ else _)); refine step_append_run rfl (.tmp 28) (.tmp 36) _ _ rfl _ _ rfl rfl _ _ HR6.out ?_))
  all_goals
    go_wp2_with fail
    go_ret
    first
      | exact ⟨rfl, HE.out⟩
      | exact ⟨rfl, HE4.out⟩
      | exact ⟨rfl, HE6.out⟩
end Go.Proofs.Ytedpkjlhcpjblaa
