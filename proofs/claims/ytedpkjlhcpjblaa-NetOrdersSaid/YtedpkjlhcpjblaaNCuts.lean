/-
  append(append([]T{}, l[:k]...), l[k+1:]...) of packets; two rows of packets compared.
-/
import Derived.Test.YtedpkjlhcpjblaaNRows
namespace Go.Proofs.Ytedpkjlhcpjblaa
set_option maxRecDepth 100000
open Go Go.RowKit Nt

/-- What can be read appended to a row of packets. -/
theorem app_src (w : World) (base : Nat) (v : Value) (l : List Pk) (h : PkRow w base v l) (sa : Option Addr) (sc : Nat) (m : List Pk) (hs : 0 < m.length → ∃ ad, sa = some ad ∧ ∀ j u, (pksV m)[j]? = some u → w.cell? (ad.add j) = some u) (hl : l.length + m.length ≤ 100000) (hb : base ≤ w.heap.size) :
    ∃ a c w', (Builtin.append_ #[27, 27] 27 #[v, .slice sa m.length sc]).run Try.prog w = .ok (.slice a (l.length + m.length) c) w' ∧
      PkRow w' base (.slice a (l.length + m.length) c) (l ++ m) ∧ Kept (fun k => v.ownBlock = some k) w w' := by
  obtain ⟨i0, hi0, hz0, hz1, hz2⟩ := info_parts infoPk
  obtain ⟨v5, w5, hr, hown5, hgr5, hbl5⟩ := run_append_any_own (P := Try.prog) w base 27 27 33 i0 _ 3 32 Try.underlying27 hi0 hz0 hz1 hz2 rfl (by decide) v l.length (pksV l) h
    sa m.length sc (pksV m) (pksV_length m) hs (pksV_one m) (by unfold maxLen; omega) (by omega) hb
  obtain ⟨a, c, rfl, _⟩ := own_shape (own_base hown5)
  refine ⟨a, c, w5, hr, ?_, Kept.grown hgr5 (fun k e => e)⟩
  unfold PkRow; rw [pksV_app, List.length_append]; exact hown5

/-- The two appends that take the packet with the index k out, into memory of their own. -/
structure CutRun (w : World) (a : Option Addr) (c : Nat) (l : List Pk) (L k J : Nat) (A : Option Addr) (D E : Nat) (a1 : Option Addr) (c1 : Nat) (W1 : World) (a2 : Option Addr) (K c2 : Nat) (W2 : World) : Prop where
  sto : ∀ wx : World, (Instr.slice 27 (.slice a L c) none (some (.int .i64 (k : Int))) none).run Try.prog wx = .ok (.slice a k c) wx
  sfrom : ∀ wx : World, (Instr.slice 27 (.slice a L c) (some (.int .i64 (J : Int))) none none).run Try.prog wx = .ok (.slice A D E) wx
  run1 : (Builtin.append_ #[27, 27] 27 #[.slice (some ⟨w.heap.size, 0, none⟩) 0 0, .slice a k c]).run Try.prog (w.alloc (.cells #[] 33)).drew = .ok (.slice a1 k c1) W1
  run2 : (Builtin.append_ #[27, 27] 27 #[.slice a1 k c1, .slice A D E]).run Try.prog W1 = .ok (.slice a2 K c2) W2
  row : PkRow W2 w.heap.size (.slice a2 K c2) (cut l k)
  len : K = (cut l k).length
  mid : Below w.heap.size w W1
  below : Below w.heap.size w W2
  wrap : IntKind.i64.wrap ((k : Int) + 1) = (J : Int)
theorem cut_run {w : World} {B : Nat} {a : Option Addr} {c : Nat} {l : List Pk} {k : Nat} (h : PkRow w B (.slice a l.length c) l) (hk : k < l.length) (hl : l.length ≤ 10000) : ∃ J A D E a1 c1 W1 a2 K c2 W2, CutRun w a c l l.length k J A D E a1 c1 W1 a2 K c2 W2 := by
  obtain ⟨J, hJ⟩ : ∃ J, J = k + 1 := ⟨_, rfl⟩
  obtain ⟨a', c', e', hc1, hc2, hno⟩ := h.shape
  injection e' with e1 _ e3
  subst e1 e3
  obtain ⟨g, rfl, _⟩ := own_at2 (own_base h) rfl (by omega)
  obtain ⟨A, s2, hA⟩ := pk_from (some ⟨g, 0, none⟩) l.length c J (by omega)
  have s1 := pk_to (some ⟨g, 0, none⟩) l.length c k (by omega)
  have hba : Below w.heap.size w (w.alloc (.cells #[] 33)).drew := ((Below.refl _ _).alloc (Nat.le_refl _) _).drew
  have hown0 : PkRow (w.alloc (.cells #[] 33)).drew w.heap.size (.slice (some ⟨w.heap.size, 0, none⟩) 0 0) [] := PkRow.on (w := w.alloc (.cells #[] 33)) (World.ownsRow_made w #[] 0 (Nat.le_refl _) (Nat.zero_le _) rfl) ⟨rfl, rfl, rfl, Nat.le_refl _, fun _ _ => rfl⟩
  have hsz : w.heap.size ≤ (w.alloc (.cells #[] 33)).drew.heap.size := hba.size
  have hlk : (l.take k).length = k := by rw [List.length_take]; omega
  have hR0 := h.on hba
  obtain ⟨a1, c1, W1, hr1, ho1, hk1⟩ := app_src _ w.heap.size _ [] hown0 (some ⟨g, 0, none⟩) c (l.take k) (fun h0 => ⟨⟨g, 0, none⟩, rfl, fun j u hu => own_cell_size (own_base hR0) rfl j u (by
        rw [← pksV_take] at hu
        have hj := (List.getElem?_eq_some_iff.1 hu).1
        rw [List.getElem?_take_of_lt (by rw [List.length_take] at hj; omega)] at hu
        exact hu)⟩) (by rw [hlk]; simp; omega) hsz
  rw [hlk, List.length_nil, Nat.zero_add] at hr1
  simp only [List.length_nil, Nat.zero_add, List.nil_append] at ho1
  rw [hlk] at ho1
  have hb1 : Below w.heap.size w W1 := hba.trans (hk1.toBelow hsz (fun j e => hown0.above e))
  have hR1 := h.on hb1
  have hld : (l.drop J).length = l.length - J := by rw [List.length_drop]
  obtain ⟨a2, c2, W2, hr2, ho2, hk2⟩ := app_src W1 w.heap.size _ (l.take k) ho1 A (c - J) (l.drop J) (fun h0 => by
      refine ⟨⟨g, J * 3, none⟩, by rw [hA (by rw [hld] at h0; omega), Option.map_some, Lib.add_plain, Nat.zero_add], fun j u hu => ?_⟩
      rw [← pksV_drop, List.getElem?_drop] at hu
      have := own_cell_size (own_base hR1) rfl _ u hu
      rw [Lib.add_plain, Nat.zero_add] at this
      rw [Lib.add_plain]
      exact this) (by rw [hlk, hld]; omega) hb1.size
  rw [hlk, hld] at hr2 ho2
  have hcut : cut l k = l.take k ++ l.drop J := by unfold cut; rw [hJ, Int.toNat_natCast]
  refine ⟨J, A, l.length - J, c - J, a1, c1, W1, a2, k + (l.length - J), c2, W2, s1, s2, hr1, hr2, by rw [hcut]; exact ho2, by rw [hcut, List.length_append, hlk, hld], hb1, hb1.trans (hk2.toBelow hb1.size (fun j e => ho1.above e)), by rw [IntKind.wrap_i64]; omega⟩

set_option maxHeartbeats 1000000 in
theorem same_c {w : World} {B C : Nat} {v u : Value} {l : List Pk} (h : PkRow w B v l) (h' : PkRow w C u l) : Calls Try.prog 17 #[v, u] w fun e w' => e = .returned (.bool true) ∧ Below w.heap.size w w' := by
  obtain ⟨a, c, rfl, _, hcm, _⟩ := h.shape
  obtain ⟨a', c', rfl, _⟩ := h'.shape
  obtain ⟨L, hL⟩ : ∃ L, L = l.length := ⟨_, rfl⟩
  have HL := Lib.hid hL
  have H := Lib.hid h
  have H' := Lib.hid h'
  have hls : L ≤ 9223372036854775807 := by
    obtain ⟨_, _, e, h1, h2, _⟩ := h.shape
    injection e with _ _ e
    subst e
    unfold maxLen at h2
    omega
  rw [← hL] at H H' ⊢
  clear h h' hL hcm
  go_enter Try.func17, Try.ntmps17
  go_wp2_with fail
  go_loopw [5] (fun v5 wr => ∃ k : Nat, k ≤ L ∧ v5 = .int .i64 (k : Int) ∧ Below w.heap.size w wr) (fun v5 _ => L - (intOf v5).toNat)
  case atStart => exact ⟨0, Nat.zero_le _, rfl, Below.refl _ _⟩
  case round =>
    obtain ⟨k, hk, rfl, hbw⟩ := hrel
    have HW := Lib.hid hbw
    by_cases hkl : k < L
    · have hkl' : (k : Int) < (L : Int) := by omega
      have hk0 : (0 : Int) ≤ (k : Int) := by omega
      obtain ⟨x, hx⟩ : ∃ x, l[k]? = some x := ⟨l[k]'(by have := HL.out; omega), List.getElem?_eq_getElem _⟩
      obtain ⟨g, rfl, _, d0, d1, d2⟩ := pks_cells (H.out.on hbw) hx
      obtain ⟨g', rfl, _, e0, e1, e2⟩ := pks_cells (H'.out.on hbw) hx
      have E : ∀ W : World, (binOp .neq 33 (.agg #[.int .i64 x.a, .int .i64 x.b, .string ⟨x.s.toArray⟩]) (.agg #[.int .i64 x.a, .int .i64 x.b, .string ⟨x.s.toArray⟩])).run Try.prog W = .ok (.bool false) W := fun W => by
        rw [neq_pk x x W]; simp
      clear hx hbw
      go_wp2_with fail
      go_quiet (fail)
      go_wp2_with fail
      go_roundw
      case rel => exact ⟨k + 1, hkl, by go_num, below_drewN HW.out _⟩
      case measure => simp [intOf]; omega
    · have hkl' : ¬ (k : Int) < (L : Int) := by omega
      clear hbw
      go_wp2_with fail
      go_ret
      exact ⟨rfl, HW.out⟩

/-- Another list is kept, in memory of its own. -/
theorem HM.cutTo {w W W2 : World} {b : Nat} {n : N} {G : Nat → Prop} {want got : List Pk} {wv wv' : Value} {want' : List Pk} (h : HM w W b n G want got wv (.slice none 0 0)) (hb : Below W.heap.size W W2) (hr : PkRow W2 W.heap.size wv' want') : HM w W2 b n (FH wv' (.slice none 0 0)) want' got wv' (.slice none 0 0) :=
  ⟨h.nf.below hb (fun k e => by
      rcases e with e | e
      · exact ⟨Or.inr (hr.above e), hr.lt e⟩
      · cases e), hr.low h.nf.base.size, h.gr.on hb, (fun j _ e => by cases e), fun _ e => Or.inl e, fun _ e => Or.inr e⟩
end Go.Proofs.Ytedpkjlhcpjblaa
