/-
  The reference's disk: a crash.
-/
import Derived.Test.YtninopllfbiccaaDoorDGg
import Derived.Laws.BitsLemmas
import Derived.Deep.RegionHeld3
import Derived.IntWalk
namespace Go.Proofs.YtninopllfbiccaaDoor
set_option maxRecDepth 100000
open Go Go.RowKit Go.Maps Dk

theorem i64_and1 (n : Int) : bits .and .i64 n 1 = n % 2 := by
  have h1 : (BitVec.ofInt 64 1).toNat = 2 ^ 1 - 1 := by decide
  have key : (BitVec.ofInt 64 n &&& BitVec.ofInt 64 1).toNat = (n % ((2 ^ 64 : Nat) : Int)).toNat % 2 ^ 1 := by
    rw [BitVec.toNat_and, BitVec.toNat_ofInt, h1, Nat.and_two_pow_sub_one_eq_mod]
  show IntKind.i64.wrap ((BitVec.ofInt 64 n &&& BitVec.ofInt 64 1).toNat : Nat) = n % 2
  rw [key, IntKind.wrap_i64]
  omega
theorem odd_tm (x : Int) : x % 2 = 1 ↔ x.tmod 2 ≠ 0 := by
  rcases Int.le_total 0 x with h | h
  · rw [Int.tmod_eq_emod_of_nonneg h]; omega
  · obtain ⟨y, hy⟩ : ∃ y, y = -x := ⟨_, rfl⟩
    have e : x = -y := by omega
    rw [e, Int.neg_tmod, Int.tmod_eq_emod_of_nonneg (by omega)]
    omega
def saveR (keep : List Int) : List (Nat × Nat) → Nat → R → R
  | [], _, X => X
  | p :: q, i, X => saveR keep q (i + 1) (if surv keep i then surviveR X p else X)
theorem saveR_snoc (keep : List Int) : ∀ (q : List (Nat × Nat)) (p : Nat × Nat) (i : Nat) (X : R), saveR keep (q ++ [p]) i X = if surv keep (i + q.length) then surviveR (saveR keep q i X) p else saveR keep q i X
  | [], p, i, X => by
    show saveR keep [] (i + 1) (if surv keep i then surviveR X p else X) = _
    simp only [List.length_nil, Nat.add_zero]
    rfl
  | a :: q, p, i, X => by
    show saveR keep (q ++ [p]) (i + 1) (if surv keep i then surviveR X a else X) = _
    rw [saveR_snoc keep q p (i + 1) _]
    rw [show i + 1 + q.length = i + (a :: q).length by simp; omega]
    rfl
theorem saveR_rest (keep : List Int) : ∀ (q : List (Nat × Nat)) (i : Nat) (X : R), (saveR keep q i X).q = X.q ∧ (saveR keep q i X).lost = X.lost ∧ (saveR keep q i X).down = X.down ∧ (saveR keep q i X).left = X.left ∧ (saveR keep q i X).keep = X.keep
  | [], _, _ => ⟨rfl, rfl, rfl, rfl, rfl⟩
  | p :: q, i, X => by
    have h := saveR_rest keep q (i + 1) (if surv keep i then surviveR X p else X)
    have e : ∀ Y : R, Y = (if surv keep i then surviveR X p else X) → Y.q = X.q ∧ Y.lost = X.lost ∧ Y.down = X.down ∧ Y.left = X.left ∧ Y.keep = X.keep := fun Y hY => by
      subst hY
      split <;> exact ⟨rfl, rfl, rfl, rfl, rfl⟩
    have e' := e _ rfl
    exact ⟨h.1.trans e'.1, h.2.1.trans e'.2.1, h.2.2.1.trans e'.2.2.1, h.2.2.2.1.trans e'.2.2.2.1, h.2.2.2.2.trans e'.2.2.2.2⟩
theorem surviveR_ok {X : R} (h : X.Ok) {p : Nat × Nat} (hp : p.1 < 16) : (surviveR X p).Ok := by
  have hs := getR_small h (p.1 : Int)
  have hn := getR_num X.fs (p.1 : Int)
  unfold surviveR
  refine h.set _ ?_ ?_ ?_
  · split
    · show 0 ≤ (getR X.fs (p.1 : Int)).num ∧ (getR X.fs (p.1 : Int)).num < 16
      rw [hn]; omega
    · rw [hn]; omega
  · split
    · exact hs.1
    · exact hs.1
  · split
    · next hc =>
      show (put _ _ _).length ≤ _
      rw [put_length, sec_length]
      omega
    · exact hs.2
theorem saveR_ok (keep : List Int) : ∀ (q : List (Nat × Nat)) (i : Nat) (X : R), X.Ok → (∀ p ∈ q, p.1 < 16) → (saveR keep q i X).Ok
  | [], _, _, h, _ => h
  | p :: q, i, X, h, hq => by
    refine saveR_ok keep q (i + 1) _ ?_ (fun x hx => hq x (List.mem_cons_of_mem _ hx))
    split
    · exact surviveR_ok h (hq p (List.mem_cons_self ..))
    · exact h
def backR (fs : List RF) : List RF := fs.map fun x => ⟨x.num, x.dur, x.dur⟩
def doneR (Y : R) : R := { Y with fs := backR Y.fs, q := [] }
def crashR (X : R) (keep : List Int) : R := if X.down then X else doneR (saveR keep X.q 0 { X with down := true, left := 0 })
theorem saveR_nil (l : List Int) (h : l.length = 0) : ∀ (q : List (Nat × Nat)) (i : Nat) (X : R), saveR l q i X = X
  | [], _, _ => rfl
  | p :: q, i, X => by
    have e : surv l i = false := by
      have : l = [] := List.eq_nil_of_length_eq_zero h
      subst this
      rfl
    show saveR l q (i + 1) (if surv l i then surviveR X p else X) = X
    rw [e]
    exact saveR_nil l h q (i + 1) X

set_option maxHeartbeats 4000000 in
set_option maxRecDepth 100000 in
theorem rcrash_c (r : Nat) (fv qv kv : Value) (X : R) (hX : X.Ok) (v : Value) (l : List Int) (w : World) (h : RAt w r fv qv kv X) (hs : KeepAt w v l (fun k => k = r ∨ fv.ownBlock = some k ∨ qv.ownBlock = some k)) (hl : l.length ≤ 9223372036854775807) :
    Calls Tryd.prog 21 #[.pointer (some ⟨r, 0, none⟩), v] w fun e w' => e = .returned (.tuple #[]) ∧ RStep w w' r fv qv kv (crashR X l) := by
  obtain ⟨va, vc, rfl, hsrc⟩ := hs
  unfold crashR
  have c3 := h.c3
  cases hd : X.down with
  | true =>
    rw [hd] at c3
    have H := Lib.hid h
    clear h hsrc
    go_enter Tryd.func21, Tryd.ntmps21
    go_wp2_with fail
    refine bodyPost_ret (results_none rfl _ _ _) rfl ?_
    exact ⟨rfl, RStep.below H.out (Below.refl _ _)⟩
  | false =>
    rw [hd] at c3
    have c4 := h.c4
    have z3 := h.z 3
    have z4 := h.z 4
    rw [if_neg (by simp)]
    obtain ⟨X1, hX1⟩ : ∃ X1 : R, X1 = { X with down := true, left := 0 } := ⟨_, rfl⟩
    obtain ⟨W1, hW1⟩ : ∃ W1, W1 = (w.setCell ⟨r, 3, none⟩ (.bool true)).setCell ⟨r, 4, none⟩ (.int .i64 0) := ⟨_, rfl⟩
    have hk1 : Kept (fun k => k = r) w W1 := by rw [hW1]; exact (Kept.set r 3 w _).trans (Kept.set r 4 _ _) (fun _ _ e => e)
    have hR1 : RAt W1 r fv qv kv X1 := by
      rw [hX1]
      refine h.recell hk1 X.lost 0 true ?_
      rw [hW1]
      exact cells6_set (cells6_set h.cell 3 (.bool true) (by omega)) 4 (.int .i64 0) (by omega)
    have hX1o : X1.Ok := by
      rw [hX1]
      exact ⟨hX.range, hX.nodup, hX.small, hX.len, hX.sec, hX.lost, by show ((0 : Nat) : Int) ≤ _; omega, hX.keepIn, hX.keepLen⟩
    have hst1 : RStep w W1 r fv qv kv X1 := RStep.mk hR1 (fun k e => Or.inl e) (fun k e => Or.inl e) (hk1.mono (fun k _ e => Or.inl e))
    obtain ⟨q, hq⟩ : ∃ q, q = X.q := ⟨_, rfl⟩
    have hq1 : X1.q = q := by rw [hX1, hq]
    rw [← hX1, ← hq]
    obtain ⟨L, hL⟩ : ∃ L, L = q.length := ⟨_, rfl⟩
    have hLs : L ≤ 4456449 := by rw [hL, hq]; exact hX.len
    have hsec : ∀ p ∈ q, p.1 < 16 ∧ p.2 ≤ 262144 := by rw [hq]; exact hX.sec
    have HS := Lib.hid hsrc
    have H1 := Lib.hid hst1
    have HX1 := Lib.hid hX1o
    have HQ1 := Lib.hid hq1
    have HL := Lib.hid hL
    have HSEC := Lib.hid hsec
    clear h hsrc hst1 hX1 hX1o hq1 hq hL hsec hR1 hk1
    go_enter Tryd.func21, Tryd.ntmps21
    go_wp2_with fail
    rw [← hW1]
    clear hW1 c3 c4 z3 z4
    go_loopw [4] (fun v4 wr => ∃ k : Nat, k ≤ L ∧ v4 = .int .i64 (k : Int) ∧ Hid (RStep w wr r fv qv kv (saveR l (q.take k) 0 X1))) (fun v4 _ => L - (intOf v4).toNat)
    case atStart => exact ⟨0, Nat.zero_le _, rfl, Lib.hid (by rw [List.take_zero]; exact H1.out)⟩
    case round =>
      obtain ⟨k, hk, rfl, HR⟩ := hrel
      obtain ⟨fv1, qv1, hR, hf1, hq1, hk1⟩ := HR.out
      have hrest := saveR_rest l (q.take k) 0 X1
      obtain ⟨qa, qc, rfl, _⟩ := own_shape hR.queue
      have hqe : (saveR l (q.take k) 0 X1).q = q := hrest.1.trans HQ1.out
      have hqo := hR.queue
      rw [hqe, ← HL.out] at hqo
      have c1 := hR.c1
      rw [hqe, ← HL.out] at c1
      by_cases hstop : k < L ∧ 0 < l.length
      · obtain ⟨hkl, hll⟩ := hstop
        have hkl' : (k : Int) < (L : Int) := by omega
        have hll' : (0 : Int) < (l.length : Int) := by omega
        obtain ⟨p, hp⟩ : ∃ p, q[k]? = some p := ⟨q[k]'(by have := HL.out; omega), List.getElem?_eq_getElem _⟩
        obtain ⟨g, hqa, _, d0, d1⟩ := secs_cells (by rw [HL.out] at hqo; exact hqo) hp
        subst hqa
        obtain ⟨b, off, rfl, hTb, hcell⟩ := HS.out (fun e => by rw [e] at hll; simp at hll)
        obtain ⟨j, hj⟩ : ∃ j, j = k % l.length := ⟨_, rfl⟩
        have hjl : j < l.length := by rw [hj]; exact Nat.mod_lt _ (by omega)
        obtain ⟨x, hx⟩ : ∃ x, l[j]? = some x := ⟨l[j], List.getElem?_eq_getElem hjl⟩
        have cj : wr.cell? ⟨b, off + j, none⟩ = some (.int .i64 x) := hk1.cell (hcell j x hx) hTb
        have hsv : surv l k = (x.tmod 2 != 0) := by unfold surv; rw [← hj, hx]
        have hrem : (k : Int).tmod (l.length : Int) = (j : Int) := by rw [Int.tmod_eq_emod_of_nonneg (by omega), hj]; rfl
        have hrem2 : (k : Int) % (l.length : Int) = (j : Int) := by rw [hj]; rfl
        have hodd := i64_and1 x
        have hot := odd_tm x
        have htk : q.take (k + 1) = q.take k ++ [p] := by rw [List.take_add_one, hp]; rfl
        have hlen : (q.take k).length = k := by have := HL.out; rw [List.length_take]; omega
        have hps := HSEC.out p (List.mem_of_getElem? hp)
        have hsn := saveR_snoc l (q.take k) p 0 X1
        rw [← htk, hlen, Nat.zero_add, hsv] at hsn
        by_cases hx1 : bits .and .i64 x 1 = 1
        · rw [if_pos (by rw [hodd] at hx1; simpa using hot.1 hx1)] at hsn
          have hok := saveR_ok l (q.take k) 0 X1 HX1.out (fun y hy => (HSEC.out y (List.mem_of_mem_take hy)).1)
          have qs := rsurvive_c r fv1 _ kv _ hok p.1 p.2 hps.2 wr hR
          rw [← hsn] at qs
          have QS := Lib.hid qs
          have HT := Lib.hid (show ∀ w2, RStep wr w2 r fv1 _ kv (saveR l (q.take (k + 1)) 0 X1) → RStep w w2 r fv qv kv (saveR l (q.take (k + 1)) 0 X1) from fun w2 h2 => RStep.trans hR hf1 hq1 hk1 h2)
          clear hR hf1 hq1 hk1 hrest hqe hqo hp hcell hTb hj hx hsv hodd hot htk hlen hps hsn hok qs HR
          go_wp2_with (go_at_call 44; refine QS.out.mono ?_; rintro e w2 ⟨rfl, HW2⟩)
          go_roundw
          case rel => exact ⟨k + 1, hkl, by go_num, Lib.hid (HT.out _ HW2)⟩
          case measure => simp [intOf]; omega
        · rw [if_neg (by rw [hodd] at hx1; intro e; exact hx1 (hot.2 (by simpa using e)))] at hsn
          have HN := Lib.hid hsn
          clear hR hf1 hq1 hk1 hrest hqe hqo hp hcell hTb hj hx hsv hodd hot htk hlen hps hsn
          go_wp2_with fail
          go_roundw
          case rel => exact ⟨k + 1, hkl, by go_num, by rw [HN.out]; exact HR⟩
          case measure => simp [intOf]; omega
      · have hY : saveR l (q.take k) 0 X1 = saveR l q 0 X1 := by
          by_cases hkl : k < L
          · rw [saveR_nil l (by omega), saveR_nil l (by omega)]
          · rw [List.take_of_length_le (by have := HL.out; omega)]
        rw [hY] at HR hR hq1
        obtain ⟨Y, hYe⟩ : ∃ Y, Y = saveR l q 0 X1 := ⟨_, rfl⟩
        have hYok : Y.Ok := by rw [hYe]; exact saveR_ok l q 0 X1 HX1.out (fun y hy => (HSEC.out y hy).1)
        rw [← hYe] at HR hR hq1
        have HYE := Lib.hid hYe
        have hfew := hYok.few
        obtain ⟨FL, hFL⟩ : ∃ FL, FL = Y.fs.length := ⟨_, rfl⟩
        rw [← hFL] at hfew
        have HFL := Lib.hid hFL
        have HRY := Lib.hid hR
        have hrw : r < wr.heap.size := hR.lt (Or.inl rfl)
        have c0 := hR.c0
        obtain ⟨w0, hw0⟩ : ∃ w0, w0 = wr := ⟨_, rfl⟩
        rw [← hw0] at c1 c0 HR HRY hrw ⊢
        have tail : ∀ (u : Value → Prop), True := fun _ => trivial
        rw [← hw0] at hk1
        have HF1 := Lib.hid hf1
        have HQ9 := Lib.hid (show ∀ k, (Value.slice qa Y.q.length qc).ownBlock = some k → qv.ownBlock = some k ∨ w.heap.size ≤ k from hq1)
        have HK9 := Lib.hid hk1
        clear tail hY hqe hqo hR hYe hYok hrest hf1 hq1 hk1 hFL hw0
        obtain ⟨fa, fc, rfl, _⟩ := own_shape HRY.out.files
        rw [← HFL.out] at c0
        by_cases hkl : k < L
        · have hkl' : (k : Int) < (L : Int) := by omega
          have hll' : ¬ (0 : Int) < (l.length : Int) := by omega
          go_wp2_with fail
          go_loopw [5, 6] (fun v5 v6 wr => ∃ k : Nat, k ≤ FL ∧ v6 = .int .i64 (k : Int) ∧ Hid (wr.ownsRow w0.heap.size 82 3 v5 (backR (Y.fs.take k)).length (filesV (backR (Y.fs.take k)))) ∧ Below w0.heap.size w0 wr) (fun _ v6 _ => FL - (intOf v6).toNat)
          case atStart => exact ⟨0, Nat.zero_le _, rfl, Lib.hid (World.ownsRow_nil _ _ _ _), Below.refl _ _⟩
          case round =>
            obtain ⟨k, hk, rfl, HO, hb⟩ := hrel
            have hRw := HRY.out.on hb
            have c0 := hRw.c0
            rw [← HFL.out] at c0
            have HBB := Lib.hid hb
            by_cases hkl : k < FL
            · have hkl' : (k : Int) < (FL : Int) := by omega
              have hk0 : (0 : Int) ≤ (k : Int) := by omega
              obtain ⟨y, hy⟩ : ∃ y, Y.fs[k]? = some y := ⟨Y.fs[k]'(by have := HFL.out; omega), List.getElem?_eq_getElem _⟩
              obtain ⟨g, hga, hgo, d0, d1, d2⟩ := files_cells (by have := hRw.files; exact this) hy
              have hglt : g < w0.heap.size := own_lt HRY.out.files hgo
              subst hga
              have hwn : IntKind.i64.wrap ((k : Int)) = (k : Int) := IntWalk.i64_in _ (by omega)
              have hback : backR (Y.fs.take (k + 1)) = backR (Y.fs.take k) ++ [⟨y.num, y.dur, y.dur⟩] := by
                unfold backR
                rw [List.take_add_one, hy, List.map_append]
                rfl
              have hkd : Kept (fun _ => False) wr wr.drew := Kept.drew _ _
              have hbl : (backR (Y.fs.take k)).length ≤ 1000 := by unfold backR; rw [List.length_map, List.length_take]; omega
              have hws : w0.heap.size ≤ wr.drew.heap.size := Nat.le_trans hb.size hkd.size
              obtain ⟨a', c', w5, hr, ho5, hb5, hk5⟩ := app_file wr.drew w0.heap.size _ _ ⟨y.num, y.dur, y.dur⟩ (own_kept HO.out hkd (fun _ _ e => e)) hbl hws
              rw [← hback] at ho5
              have hab : ∀ j, _ := fun j (e : _ = some j) => own_above HO.out e
              have hrel : ∃ k' : Nat, k' ≤ FL ∧ Value.int .i64 ((k : Int) + 1) = .int .i64 (k' : Int) ∧ Hid (w5.ownsRow w0.heap.size 82 3 (.slice a' ((backR (Y.fs.take k)).length + 1) c') (backR (Y.fs.take k')).length (filesV (backR (Y.fs.take k')))) ∧ Below w0.heap.size w0 w5 :=
                ⟨k + 1, hkl, by go_num, Lib.hid ho5, (hb.trans (hkd.toBelow hb.size (fun _ e => e.elim))).trans (hk5.toBelow hws (fun j e => hab j e))⟩
              have hgl : g < w0.heap.size := hglt
              have f0 : w5.cell? ⟨r, 0, none⟩ = some (.slice (some ⟨g, 0, none⟩) FL fc) := hk5.cell (hkd.cell c0 (fun e => e)) (fun e => by have := hab r e; omega)
              have f1 : w5.cell? ⟨g, k * 3, none⟩ = some (.int .i64 y.num) := hk5.cell (hkd.cell d0 (fun e => e)) (fun e => by have := hab g e; omega)
              have f2 : w5.cell? ⟨g, k * 3 + 2, none⟩ = some (.string ⟨y.dur.toArray⟩) := hk5.cell (hkd.cell d2 (fun e => e)) (fun e => by have := hab g e; omega)
              have hr : (Builtin.append_ #[63, 63] 63 #[u5, .slice (some ⟨wr.heap.size, 0, none⟩) 1 1]).run Tryd.prog (wr.drew.alloc (.cells #[.int .i64 y.num, .string ⟨y.dur.toArray⟩, .string ⟨y.dur.toArray⟩] 82)) = .ok (.slice a' ((backR (Y.fs.take k)).length + 1) c') w5 := hr
              obtain ⟨BL, hBL⟩ : ∃ BL, BL = (backR (Y.fs.take k)).length := ⟨_, rfl⟩
              rw [← hBL] at hr hrel
              have HR' := Lib.hid hr
              have HREL := Lib.hid hrel
              clear hRw hb hy hback hkd hbl hws hr ho5 hb5 hk5 hab hrel hBL
              go_upto_region 12 with fail
              go_region_held3 (fun w' => w'.cell? ⟨r, 0, none⟩ = some (.slice (some ⟨g, 0, none⟩) FL fc) ∧ w'.cell? ⟨g, k * 3, none⟩ = some (.int .i64 y.num) ∧ w'.cell? ⟨g, k * 3 + 2, none⟩ = some (.string ⟨y.dur.toArray⟩))
                (first | exact ⟨f0, f1, f2⟩ | go_keep)
                ((refine step_append_run rfl _ _ _ _ rfl _ _ rfl rfl (.slice a' (BL + 1) c') w5 HR'.out ?_))
              go_wp2_with fail
              go_roundw
              case rel => exact HREL.out
              case measure => simp [intOf]; omega
            · have hkl' : ¬ (k : Int) < (FL : Int) := by omega
              rw [List.take_of_length_le (show Y.fs.length ≤ k by have := HFL.out; omega)] at HO
              have z0 := hRw.z 0
              have z1 := hRw.z 1
              have k1 := hRw.c1
              have hs1 := rstep_f HRY.out (fs' := backR Y.fs) (own_base HO.out) hb (fun j e => own_above HO.out e)
              have hs2 := RStep.then hs1 (w2 := (wr.setCell ⟨r, 0, none⟩ u5).setCell ⟨r, 1, none⟩ (.slice none 0 0)) (X2 := doneR Y) (fun fv3 qv3 h3 => rstep_q h3 (q' := []) (World.ownsRow_nil _ _ _ _) (Below.refl _ _) (fun j e => by cases e))
              have hfin : RStep w ((wr.setCell ⟨r, 0, none⟩ u5).setCell ⟨r, 1, none⟩ (.slice none 0 0)) r fv qv kv (doneR (saveR l q 0 X1)) := by
                rw [← HYE.out]
                exact RStep.trans HRY.out HF1.out HQ9.out HK9.out hs2
              have HFIN := Lib.hid hfin
              obtain ⟨va5, vc5, hve, _⟩ := own_shape (own_base HO.out)
              clear hRw hb hs1 hs2 hfin HO
              rw [hve] at HFIN ⊢
              clear hve
              go_wp2_with fail
              go_end0
              exact ⟨rfl, HFIN.out⟩
        · have hkl' : ¬ (k : Int) < (L : Int) := by omega
          go_wp2_with fail
          go_loopw [5, 6] (fun v5 v6 wr => ∃ k : Nat, k ≤ FL ∧ v6 = .int .i64 (k : Int) ∧ Hid (wr.ownsRow w0.heap.size 82 3 v5 (backR (Y.fs.take k)).length (filesV (backR (Y.fs.take k)))) ∧ Below w0.heap.size w0 wr) (fun _ v6 _ => FL - (intOf v6).toNat)
          case atStart => exact ⟨0, Nat.zero_le _, rfl, Lib.hid (World.ownsRow_nil _ _ _ _), Below.refl _ _⟩
          case round =>
            obtain ⟨k, hk, rfl, HO, hb⟩ := hrel
            have hRw := HRY.out.on hb
            have c0 := hRw.c0
            rw [← HFL.out] at c0
            have HBB := Lib.hid hb
            by_cases hkl : k < FL
            · have hkl' : (k : Int) < (FL : Int) := by omega
              have hk0 : (0 : Int) ≤ (k : Int) := by omega
              obtain ⟨y, hy⟩ : ∃ y, Y.fs[k]? = some y := ⟨Y.fs[k]'(by have := HFL.out; omega), List.getElem?_eq_getElem _⟩
              obtain ⟨g, hga, hgo, d0, d1, d2⟩ := files_cells (by have := hRw.files; exact this) hy
              have hglt : g < w0.heap.size := own_lt HRY.out.files hgo
              subst hga
              have hwn : IntKind.i64.wrap ((k : Int)) = (k : Int) := IntWalk.i64_in _ (by omega)
              have hback : backR (Y.fs.take (k + 1)) = backR (Y.fs.take k) ++ [⟨y.num, y.dur, y.dur⟩] := by
                unfold backR
                rw [List.take_add_one, hy, List.map_append]
                rfl
              have hkd : Kept (fun _ => False) wr wr.drew := Kept.drew _ _
              have hbl : (backR (Y.fs.take k)).length ≤ 1000 := by unfold backR; rw [List.length_map, List.length_take]; omega
              have hws : w0.heap.size ≤ wr.drew.heap.size := Nat.le_trans hb.size hkd.size
              obtain ⟨a', c', w5, hr, ho5, hb5, hk5⟩ := app_file wr.drew w0.heap.size _ _ ⟨y.num, y.dur, y.dur⟩ (own_kept HO.out hkd (fun _ _ e => e)) hbl hws
              rw [← hback] at ho5
              have hab : ∀ j, _ := fun j (e : _ = some j) => own_above HO.out e
              have hrel : ∃ k' : Nat, k' ≤ FL ∧ Value.int .i64 ((k : Int) + 1) = .int .i64 (k' : Int) ∧ Hid (w5.ownsRow w0.heap.size 82 3 (.slice a' ((backR (Y.fs.take k)).length + 1) c') (backR (Y.fs.take k')).length (filesV (backR (Y.fs.take k')))) ∧ Below w0.heap.size w0 w5 :=
                ⟨k + 1, hkl, by go_num, Lib.hid ho5, (hb.trans (hkd.toBelow hb.size (fun _ e => e.elim))).trans (hk5.toBelow hws (fun j e => hab j e))⟩
              have hgl : g < w0.heap.size := hglt
              have f0 : w5.cell? ⟨r, 0, none⟩ = some (.slice (some ⟨g, 0, none⟩) FL fc) := hk5.cell (hkd.cell c0 (fun e => e)) (fun e => by have := hab r e; omega)
              have f1 : w5.cell? ⟨g, k * 3, none⟩ = some (.int .i64 y.num) := hk5.cell (hkd.cell d0 (fun e => e)) (fun e => by have := hab g e; omega)
              have f2 : w5.cell? ⟨g, k * 3 + 2, none⟩ = some (.string ⟨y.dur.toArray⟩) := hk5.cell (hkd.cell d2 (fun e => e)) (fun e => by have := hab g e; omega)
              have hr : (Builtin.append_ #[63, 63] 63 #[u5, .slice (some ⟨wr.heap.size, 0, none⟩) 1 1]).run Tryd.prog (wr.drew.alloc (.cells #[.int .i64 y.num, .string ⟨y.dur.toArray⟩, .string ⟨y.dur.toArray⟩] 82)) = .ok (.slice a' ((backR (Y.fs.take k)).length + 1) c') w5 := hr
              obtain ⟨BL, hBL⟩ : ∃ BL, BL = (backR (Y.fs.take k)).length := ⟨_, rfl⟩
              rw [← hBL] at hr hrel
              have HR' := Lib.hid hr
              have HREL := Lib.hid hrel
              clear hRw hb hy hback hkd hbl hws hr ho5 hb5 hk5 hab hrel hBL
              go_upto_region 12 with fail
              go_region_held3 (fun w' => w'.cell? ⟨r, 0, none⟩ = some (.slice (some ⟨g, 0, none⟩) FL fc) ∧ w'.cell? ⟨g, k * 3, none⟩ = some (.int .i64 y.num) ∧ w'.cell? ⟨g, k * 3 + 2, none⟩ = some (.string ⟨y.dur.toArray⟩))
                (first | exact ⟨f0, f1, f2⟩ | go_keep)
                ((refine step_append_run rfl _ _ _ _ rfl _ _ rfl rfl (.slice a' (BL + 1) c') w5 HR'.out ?_))
              go_wp2_with fail
              go_roundw
              case rel => exact HREL.out
              case measure => simp [intOf]; omega
            · have hkl' : ¬ (k : Int) < (FL : Int) := by omega
              rw [List.take_of_length_le (show Y.fs.length ≤ k by have := HFL.out; omega)] at HO
              have z0 := hRw.z 0
              have z1 := hRw.z 1
              have k1 := hRw.c1
              have hs1 := rstep_f HRY.out (fs' := backR Y.fs) (own_base HO.out) hb (fun j e => own_above HO.out e)
              have hs2 := RStep.then hs1 (w2 := (wr.setCell ⟨r, 0, none⟩ u5).setCell ⟨r, 1, none⟩ (.slice none 0 0)) (X2 := doneR Y) (fun fv3 qv3 h3 => rstep_q h3 (q' := []) (World.ownsRow_nil _ _ _ _) (Below.refl _ _) (fun j e => by cases e))
              have hfin : RStep w ((wr.setCell ⟨r, 0, none⟩ u5).setCell ⟨r, 1, none⟩ (.slice none 0 0)) r fv qv kv (doneR (saveR l q 0 X1)) := by
                rw [← HYE.out]
                exact RStep.trans HRY.out HF1.out HQ9.out HK9.out hs2
              have HFIN := Lib.hid hfin
              obtain ⟨va5, vc5, hve, _⟩ := own_shape (own_base HO.out)
              clear hRw hb hs1 hs2 hfin HO
              rw [hve] at HFIN ⊢
              clear hve
              go_wp2_with fail
              go_end0
              exact ⟨rfl, HFIN.out⟩
end Go.Proofs.YtninopllfbiccaaDoor
