/-
  The reference's disk: a write that is possible.
-/
import Derived.Test.YthibikdnoogfoaaDGd
namespace Go.Proofs.Ythibikdnoogfoaa
open Go Go.RowKit Go.Maps Dk

/-- The reference's disk behind a step: its rows lie where they lay, or are new. -/
def RStep (w w' : World) (r : Nat) (fv qv kv : Value) (X : R) : Prop :=
  ∃ fv' qv', RAt w' r fv' qv' kv X ∧ (∀ k, fv'.ownBlock = some k → fv.ownBlock = some k ∨ w.heap.size ≤ k) ∧ (∀ k, qv'.ownBlock = some k → qv.ownBlock = some k ∨ w.heap.size ≤ k) ∧ Kept (fun k => k = r ∨ fv.ownBlock = some k ∨ qv.ownBlock = some k) w w'
theorem RStep.mk {w w' : World} {r : Nat} {fv qv kv fv' qv' : Value} {X : R} (h : RAt w' r fv' qv' kv X) (h1 : ∀ k, fv'.ownBlock = some k → fv.ownBlock = some k ∨ w.heap.size ≤ k) (h2 : ∀ k, qv'.ownBlock = some k → qv.ownBlock = some k ∨ w.heap.size ≤ k)
    (hk : Kept (fun k => k = r ∨ fv.ownBlock = some k ∨ qv.ownBlock = some k) w w') : RStep w w' r fv qv kv X := ⟨fv', qv', h, h1, h2, hk⟩
theorem RStep.trans {w w1 w2 : World} {r : Nat} {fv qv kv fv1 qv1 : Value} {X1 X2 : R} (h0 : RAt w1 r fv1 qv1 kv X1) (h1 : ∀ k, fv1.ownBlock = some k → fv.ownBlock = some k ∨ w.heap.size ≤ k) (h2 : ∀ k, qv1.ownBlock = some k → qv.ownBlock = some k ∨ w.heap.size ≤ k)
    (hk : Kept (fun k => k = r ∨ fv.ownBlock = some k ∨ qv.ownBlock = some k) w w1) (hs : RStep w1 w2 r fv1 qv1 kv X2) : RStep w w2 r fv qv kv X2 := by
  obtain ⟨fv2, qv2, a0, a1, a2, ak⟩ := hs
  have hsz := hk.size
  refine ⟨fv2, qv2, a0, fun k e => ?_, fun k e => ?_, hk.trans ak (fun k hkl e => ?_)⟩
  · rcases a1 k e with e | e
    · exact h1 k e
    · exact Or.inr (by omega)
  · rcases a2 k e with e | e
    · exact h2 k e
    · exact Or.inr (by omega)
  · rcases e with e | e | e
    · exact Or.inl e
    · rcases h1 k e with e | e
      · exact Or.inr (Or.inl e)
      · omega
    · rcases h2 k e with e | e
      · exact Or.inr (Or.inr e)
      · omega
theorem RStep.below {w w' : World} {r : Nat} {fv qv kv : Value} {X : R} (h : RAt w r fv qv kv X) (hb : Below w.heap.size w w') : RStep w w' r fv qv kv X := ⟨fv, qv, h.on hb, fun _ e => Or.inl e, fun _ e => Or.inl e, Kept.below hb⟩
theorem RStep.then {w w1 w2 : World} {r : Nat} {fv qv kv : Value} {X1 X2 : R} (h : RStep w w1 r fv qv kv X1) (h2 : ∀ fv1 qv1, RAt w1 r fv1 qv1 kv X1 → RStep w1 w2 r fv1 qv1 kv X2) : RStep w w2 r fv qv kv X2 := by
  obtain ⟨fv1, qv1, a0, a1, a2, ak⟩ := h
  exact RStep.trans a0 a1 a2 ak (h2 fv1 qv1 a0)

/-! ### The model -/
def newR (q : List (Nat × Nat)) (f : Nat) (l : List Nat) : List (Nat × Nat) := (l.filter fun n : Nat => !pendR q (f : Int) (n : Int)).map fun n => (f, n)
def addR (X : R) (f a : Nat) (s : List UInt8) : R :=
  if s = [] then X else { X with fs := setR X.fs ⟨(f : Int), put (getR X.fs (f : Int)).now a s, (getR X.fs (f : Int)).dur⟩, q := X.q ++ newR X.q f (secs a s.length) }
theorem pendR_app (q q' : List (Nat × Nat)) (f n : Int) : pendR (q ++ q') f n = (pendR q f n || pendR q' f n) := by unfold pendR; rw [List.any_append]
theorem pendR_new (q : List (Nat × Nat)) (f n : Nat) (l : List Nat) (hn : n ∉ l) : pendR (newR q f l) (f : Int) (n : Int) = false := by
  unfold pendR newR
  rw [List.any_eq_false]
  rintro ⟨a, b⟩ hp
  obtain ⟨m, hm, e⟩ := List.mem_map.1 hp
  injection e with e1 e2
  subst e1 e2
  have hml := (List.mem_filter.1 hm).1
  have : m ≠ n := fun e => hn (e ▸ hml)
  simp
  omega
theorem newR_snoc (q : List (Nat × Nat)) (f n : Nat) (l : List Nat) : newR q f (l ++ [n]) = newR q f l ++ (if pendR q (f : Int) (n : Int) then [] else [(f, n)]) := by
  unfold newR
  rw [List.filter_append, List.map_append]
  congr 1
  cases h : pendR q (f : Int) (n : Int) <;> simp [h]

/-- A sector appended and stored. -/
theorem rstep_sec {w w6 : World} {r : Nat} {fv qv kv : Value} {X : R} (h : RAt w r fv qv kv X) (p : Nat × Nat) {a' : Option Addr} {n' c' : Nat} (ho : w6.ownsRow 0 81 2 (.slice a' n' c') (X.q ++ [p]).length (secsV (X.q ++ [p])))
    (hb : (Value.slice a' n' c').ownBlock = qv.ownBlock ∨ ∃ y, (Value.slice a' n' c').ownBlock = some y ∧ w.heap.size ≤ y) (hk : Kept (fun k => qv.ownBlock = some k) w w6) : RStep w (w6.setCell ⟨r, 1, none⟩ (.slice a' n' c')) r fv qv kv { X with q := X.q ++ [p] } := by
  have hrw : r < w.heap.size := h.lt (Or.inl rfl)
  have hcell := hk.heap h.cell h.nq
  have hk2 := Kept.set r 1 w6 (.slice a' n' c')
  have hown : ∀ k, (Value.slice a' n' c').ownBlock = some k → qv.ownBlock = some k ∨ w.heap.size ≤ k := fun k e => by
    rcases hb with e' | ⟨y, e', hy⟩
    · rw [e'] at e; exact Or.inl e
    · rw [e'] at e; injection e with e; exact Or.inr (by omega)
  have hnq : (Value.slice a' n' c').ownBlock ≠ some r := fun e => by
    rcases hown r e with e | e
    · exact h.nq e
    · omega
  refine RStep.mk (fv' := fv) (qv' := .slice a' n' c') { cell := cells6_set hcell 1 _ (by omega), files := ?_, queue := ?_, keep := ?_, nf := h.nf, nq := hnq, nk := h.nk, fq := fun k e e' => ?_, fk := h.fk, qk := fun k e e' => ?_ } (fun k e => Or.inl e) hown ((hk.mono (fun k _ e => Or.inr (Or.inr e))).trans hk2 (fun k _ e => Or.inl e))
  · exact own_kept (own_kept h.files hk (fun k e e' => h.fq k e e')) hk2 (fun k e e' => h.nf (by rw [e, e']))
  · exact own_kept ho hk2 (fun k e e' => hnq (by rw [e, e']))
  · exact own_kept (own_kept h.keep hk (fun k e e' => h.qk k e' e)) hk2 (fun k e e' => h.nk (by rw [e, e']))
  · rcases hown k e' with e' | e'
    · exact h.fq k e e'
    · have := h.lt (Or.inr (Or.inl e)); omega
  · rcases hown k e with e | e
    · exact h.qk k e e'
    · have := h.lt (Or.inr (Or.inr (Or.inr e'))); omega

set_option maxHeartbeats 4000000 in
set_option maxRecDepth 100000 in
theorem radd_c (r : Nat) (fv qv kv : Value) (X : R) (hX : X.Ok) (f a : Nat) (hf : f < 16) (s : List UInt8) (ha : a + s.length ≤ 16777216) (w : World) (h : RAt w r fv qv kv X) :
    Calls Try.prog 57 #[.pointer (some ⟨r, 0, none⟩), .int .i64 (f : Int), .int .i64 (a : Int), .string ⟨s.toArray⟩] w fun e w' => e = .returned (.tuple #[]) ∧ RStep w w' r fv qv kv (addR X f a s) := by
  unfold addR
  by_cases hs : s = []
  · rw [if_pos hs]
    subst hs
    have H := Lib.hid h
    clear h
    go_enter Try.func57, Try.ntmps57
    go_wp2_with fail
    refine bodyPost_ret (results_none rfl _ _ _) rfl ?_
    exact ⟨rfl, RStep.below H.out (Below.refl _ _)⟩
  · rw [if_neg hs]
    have hse : (s == []) = false := by simpa using hs
    have hfew := hX.few
    have q1 := rget_c r fv qv kv X (f : Int) w h (by omega)
    have hsm := getR_small hX (f : Int)
    obtain ⟨x, hx⟩ : ∃ x, x = getR X.fs (f : Int) := ⟨_, rfl⟩
    have hxn : x.num = (f : Int) := by rw [hx]; exact getR_num _ _
    rw [← hx] at q1 hsm ⊢
    unfold rfV at q1
    have Q1 := Lib.hid q1
    have H := Lib.hid h
    have hpos : 0 < s.length := List.length_pos_iff.2 hs
    obtain ⟨n0, hn0⟩ : ∃ n0, n0 = a / 64 := ⟨_, rfl⟩
    obtain ⟨n1, hn1⟩ : ∃ n1, n1 = (a + s.length - 1) / 64 := ⟨_, rfl⟩
    obtain ⟨M, hM⟩ : ∃ M, M = n1 + 1 - n0 := ⟨_, rfl⟩
    have hn01 : n0 ≤ n1 := by rw [hn0, hn1]; exact Nat.div_le_div_right (by omega)
    have hn1s : n1 ≤ 262144 := by omega
    have hq1 : (a : Int).tdiv 64 = (n0 : Int) := by rw [Int.tdiv_eq_ediv_of_nonneg (by omega)]; omega
    have hq2 : (a : Int) / 64 = (n0 : Int) := by omega
    have hq3 : ((a : Int) + (s.length : Int) - 1).tdiv 64 = (n1 : Int) := by rw [Int.tdiv_eq_ediv_of_nonneg (by omega)]; omega
    have hq4 : ((a : Int) + (s.length : Int) - 1) / 64 = (n1 : Int) := by omega
    have HSE := Lib.hid (show secs a s.length = List.range' n0 M by unfold secs; rw [← hn0, ← hn1, ← hM])
    have HML := Lib.hid hM
    have HXN := Lib.hid hxn
    obtain ⟨y, hy⟩ : ∃ y : RF, y = ⟨(f : Int), put x.now a s, x.dur⟩ := ⟨_, rfl⟩
    rw [← hy]
    have HY := Lib.hid hy
    have hsl : s.length ≤ 16777216 := by omega
    obtain ⟨hsm1, hsm2⟩ := hsm
    clear h q1 hx hn0 hn1 hM hy
    go_enter Try.func57, Try.ntmps57
    go_wp2_with (go_at_call 40; refine Q1.out.mono ?_; rintro e w2 ⟨rfl, hb2⟩)
    obtain ⟨W2, hW2⟩ : ∃ W2, W2 = w2.alloc (.cells #[.int .i64 (f : Int), .string ⟨x.now.toArray⟩, .string ⟨x.dur.toArray⟩] 69) := ⟨_, rfl⟩
    rw [← hW2]
    have hbx : FBox W2 w2.heap.size ⟨(f : Int), x.now, x.dur⟩ := by rw [hW2]; exact FBox.new w2 ⟨(f : Int), x.now, x.dur⟩
    have hB2 : Below w.heap.size w W2 := by rw [hW2]; exact hb2.alloc hb2.size _
    obtain ⟨b, hbe⟩ : ∃ b, b = w2.heap.size := ⟨_, rfl⟩
    have hbw : w.heap.size ≤ b := by have := hb2.size; omega
    rw [← hbe] at hbx ⊢
    clear hW2 hb2 hbe
    have q2 := rput_c x.now a s hsm1 (by omega) W2
    unfold putR at q2
    rw [if_neg hs] at q2
    refine q2.mono ?_
    rintro e w3 ⟨rfl, hb3⟩
    have hbx3 := hbx.on hb3
    have hB3 := hB2.trans (hb3.mono hB2.size)
    have d0 := hbx3.c0
    have d1 := hbx3.c1
    have d2 := hbx3.c2
    have z1 := hbx3.z 1
    obtain ⟨W4, hW4⟩ : ∃ W4, W4 = w3.setCell ⟨b, 1, none⟩ (.string ⟨(put x.now a s).toArray⟩) := ⟨_, rfl⟩
    have hB4 : Below w.heap.size w W4 := by rw [hW4]; exact hB3.setCell hbw _
    have q3 := rset_c r fv qv kv X y (by omega) W4 (H.out.on hB4)
    rw [show rfV y = .agg #[.int .i64 (f : Int), .string ⟨(put x.now a s).toArray⟩, .string ⟨x.dur.toArray⟩] by rw [HY.out]; rfl] at q3
    have Q3 := Lib.hid q3
    have HB4 := Lib.hid hB4
    clear q2 hbx hb3 hbx3 hB2 hB3 hB4 q3
    go_wp2_with fail
    rw [← hW4]
    clear hW4 d0 d1 d2 z1
    refine Q3.out.mono ?_
    rintro e w5 ⟨rfl, fv5, hR5, hf5, hk5⟩
    have hst : RStep w w5 r fv qv kv { X with fs := setR X.fs y } := RStep.mk hR5 (fun k e => Or.inr (by have := hf5 k e; have := HB4.out.size; omega)) (fun k e => Or.inl e) (((Kept.below (S := fun k => k = r ∨ fv.ownBlock = some k ∨ qv.ownBlock = some k) HB4.out)).trans hk5 (fun k _ e => Or.inl e))
    have HST := Lib.hid hst
    clear hR5 hf5 hk5 hst Q3
    go_wp2_with fail
    go_loopw [9] (fun v9 wr => ∃ k : Nat, k ≤ M ∧ v9 = .int .i64 ((n0 + k : Nat) : Int) ∧ Hid (RStep w wr r fv qv kv { X with fs := setR X.fs y, q := X.q ++ newR X.q f (List.range' n0 k) })) (fun v9 _ => n0 + M - (intOf v9).toNat)
    case atStart => exact ⟨0, Nat.zero_le _, rfl, Lib.hid (by show RStep w w5 r fv qv kv { X with fs := setR X.fs y, q := X.q ++ [] }; rw [List.append_nil]; exact HST.out)⟩
    case round =>
      obtain ⟨k, hk, rfl, HR⟩ := hrel
      obtain ⟨nn, hnn⟩ : ∃ nn, nn = n0 + k := ⟨_, rfl⟩
      rw [← hnn]
      by_cases hkl : k < M
      · have hle : (nn : Int) ≤ (n1 : Int) := by have := HML.out; omega
        have hnn0 : nn ≤ 262144 := by have := HML.out; omega
        have hsnoc : List.range' n0 (k + 1) = List.range' n0 k ++ [nn] := by rw [List.range'_concat, hnn]; simp
        have hpe : pendR (X.q ++ newR X.q f (List.range' n0 k)) (f : Int) (nn : Int) = pendR X.q (f : Int) (nn : Int) := by
          rw [pendR_app, pendR_new _ _ _ _ (by rw [List.mem_range'_1]; omega), Bool.or_false]
        have hql : (X.q ++ newR X.q f (List.range' n0 k)).length ≤ 5000000 := by
          have h1 := hX.len
          have h2 : (newR X.q f (List.range' n0 k)).length ≤ k := by
            unfold newR
            rw [List.length_map]
            exact Nat.le_trans (List.length_filter_le _ _) (by simp)
          have := HML.out
          rw [List.length_append]
          omega
        obtain ⟨fv1, qv1, hR, hf1, hq1', hk1⟩ := HR.out
        have hpc := rpending_c r fv1 qv1 kv _ (f : Int) (nn : Int) wr hR (by show (X.q ++ newR X.q f (List.range' n0 k)).length ≤ _; omega)
        have hpc' : Calls Try.prog 68 #[.pointer (some ⟨r, 0, none⟩), .int .i64 (f : Int), .int .i64 (nn : Int)] wr fun e w' => e = .returned (.bool (pendR X.q (f : Int) (nn : Int))) ∧ w' = wr := by rw [← hpe]; exact hpc
        have PC := Lib.hid hpc'
        have hnew : newR X.q f (List.range' n0 (k + 1)) = newR X.q f (List.range' n0 k) ++ (if pendR X.q (f : Int) (nn : Int) then [] else [(f, nn)]) := by rw [hsnoc, newR_snoc]
        have hnk : n0 + (k + 1) = nn + 1 := by omega
        have HNN := Lib.hid hnn
        cases hpd : pendR X.q (f : Int) (nn : Int) with
        | true =>
          rw [hpd, if_pos rfl, List.append_nil] at hnew
          rw [hpd] at PC
          have HN := Lib.hid hnew
          have HNK := Lib.hid hnk
          clear hpc hpc' hpe hR hf1 hq1' hk1 hnew hsnoc hnk hnn hpd
          go_wp2_with (go_at_call 68; refine PC.out.mono ?_; rintro e w6 ⟨rfl, h6⟩; rw [h6]; clear h6)
          go_roundw
          case rel => exact ⟨k + 1, hkl, by rw [HNK.out]; go_num, by rw [HN.out]; exact HR⟩
          case measure => have := HML.out; have := HNN.out; simp [intOf]; omega
        | false =>
          rw [hpd, if_neg (by simp)] at hnew
          rw [hpd] at PC
          obtain ⟨qa, qc, rfl, _⟩ := own_shape hR.queue
          obtain ⟨QL, hQL⟩ : ∃ QL, QL = (X.q ++ newR X.q f (List.range' n0 k)).length := ⟨_, rfl⟩
          have hqq : X.q ++ newR X.q f (List.range' n0 (k + 1)) = X.q ++ newR X.q f (List.range' n0 k) ++ [(f, nn)] := by rw [hnew, List.append_assoc]
          obtain ⟨a', c', w6, hr, ho6, hb6, hk6⟩ := app_sec wr 0 _ _ (f, nn) hR.queue (by show (X.q ++ newR X.q f (List.range' n0 k)).length ≤ _; omega) (Nat.zero_le _)
          have hst2 := rstep_sec hR (f, nn) ho6 hb6 hk6
          have hstep : RStep w (w6.setCell ⟨r, 1, none⟩ (.slice a' ((X.q ++ newR X.q f (List.range' n0 k)).length + 1) c')) r fv qv kv { X with fs := setR X.fs y, q := X.q ++ newR X.q f (List.range' n0 (k + 1)) } := by
            rw [hqq]
            exact RStep.trans hR hf1 hq1' hk1 hst2
          have j1 : w6.cell? ⟨r, 1, none⟩ = some (.slice qa (X.q ++ newR X.q f (List.range' n0 k)).length qc) := by
            rw [Lib.cell_of_heap (hk6.heap hR.cell hR.nq)]; rfl
          have z1 : w6.frozen? ⟨r, 1, none⟩ = false := Lib.frozen_of_heap (hk6.heap hR.cell hR.nq) 1
          have hr : (Builtin.append_ #[59, 59] 59 #[.slice qa (X.q ++ newR X.q f (List.range' n0 k)).length qc, .slice (some ⟨wr.heap.size, 0, none⟩) 1 1]).run Try.prog (wr.alloc (.cells #[.int .i64 (f : Int), .int .i64 (nn : Int)] 81)) = .ok (.slice a' ((X.q ++ newR X.q f (List.range' n0 k)).length + 1) c') w6 := hr
          have c1 : wr.cell? ⟨r, 1, none⟩ = some (.slice qa (X.q ++ newR X.q f (List.range' n0 k)).length qc)   := hR.c1
          rw [← hQL] at hr c1 j1 hstep
          have HRR := Lib.hid hr
          have HSTEP := Lib.hid hstep
          have HNK := Lib.hid hnk
          clear hpc hpc' hpe hR hf1 hq1' hk1 hnew hsnoc hnk hnn hpd hqq hr ho6 hb6 hk6 hst2 hstep hQL hql
          go_wp2_with (first | (go_at_call 68; refine PC.out.mono ?_; rintro e w7 ⟨rfl, h6⟩; rw [h6]; clear h6) | (at_builtin; refine Lib.wpList_append_run _ rfl _ _ _ _ rfl _ _ rfl rfl _ w6 HRR.out ?_))
          go_roundw
          case rel => exact ⟨k + 1, hkl, by rw [HNK.out]; go_num, HSTEP⟩
          case measure => have := HML.out; have := HNN.out; simp [intOf]; omega
      · have hle : ¬ (nn : Int) ≤ (n1 : Int) := by have := HML.out; omega
        have hke : k = M := by omega
        rw [hke, ← HSE.out] at HR
        clear hke
        go_wp2_with fail
        go_end0
        exact ⟨rfl, HR.out⟩
end Go.Proofs.Ythibikdnoogfoaa
