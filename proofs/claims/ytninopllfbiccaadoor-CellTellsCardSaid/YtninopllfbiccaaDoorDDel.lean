/-
  The pending sectors of one file deleted from the list of all: slices.IndexFunc, slices.DeleteFunc with the predicate of disk.settle.
-/
import Derived.Test.YtninopllfbiccaaDoorDStrike
namespace Go.Proofs.YtninopllfbiccaaDoor
set_option maxRecDepth 100000
open Go Go.RowKit Go.Maps Dk

theorem pred_c (f a n : Int) (bf : Nat) (w : World) (hb : w.cell? ⟨bf, 0, none⟩ = some (.int .i64 f)) :
    Calls Tryd.prog 64 #[.agg #[.int .i64 a, .int .i64 n], .pointer (some ⟨bf, 0, none⟩)] w fun e w' => e = .returned (.bool (a == f)) ∧ Below w.heap.size w w' := by
  have hl : bf < w.heap.size := by have := World.block_lt_of_cell? _ _ hb; simpa using this
  have hl1 : ¬ bf = w.heap.size := by omega
  have hl2 : ¬ w.heap.size = bf := by omega
  go_enter Tryd.func64, Tryd.ntmps64
  go_wp2_with fail
  go_ret
  exact ⟨rfl, (Below.refl _ w).alloc (Nat.le_refl _) _⟩

def NoneOf (q : List (Nat × Nat)) (f : Nat) : Prop := ∀ p ∈ q, p.1 ≠ f
def NoneTo (q : List (Nat × Nat)) (f i : Nat) : Prop := ∀ j : Nat, j < i → ∀ p, q[j]? = some p → p.1 ≠ f
def FirstAt (q : List (Nat × Nat)) (f i : Nat) : Prop := ∃ n, q[i]? = some (f, n) ∧ NoneTo q f i

set_option maxRecDepth 100000 in
theorem idx_c (f : Nat) (bf : Nat) (v : Value) (q : List (Nat × Nat)) (w : World) (h : w.ownsRow 0 84 2 v q.length (secsV q)) (hb : w.cell? ⟨bf, 0, none⟩ = some (.int .i64 (f : Int))) :
    Calls Tryd.prog 65 #[v, .func (.func 64) #[] #[.pointer (some ⟨bf, 0, none⟩)]] w fun e w' => Below w.heap.size w w' ∧
      ((∃ i : Nat, FirstAt q f i ∧ e = .returned (.int .i64 (i : Int))) ∨ (NoneOf q f ∧ e = .returned (.int .i64 (-1)))) := by
  obtain ⟨a, c, rfl, hc, hcm, hno⟩ := own_shape h
  obtain ⟨L, hL⟩ : ∃ L, L = q.length := ⟨_, rfl⟩
  rw [← hL] at h hc ⊢
  have hLm : L ≤ 9223372036854775807 := by unfold maxLen at hcm; omega
  have H := Lib.hid h
  have HL := Lib.hid hL
  have HB := Lib.hid hb
  have HN := Lib.hid hno
  clear h hL hb hcm hno
  go_enter Tryd.func65, Tryd.ntmps65
  go_wp2_with fail
  go_loopw [8] (fun v8 wr => ∃ k : Nat, k ≤ L ∧ v8 = .int .i64 (k : Int) ∧ NoneTo q f k ∧ Below w.heap.size w wr) (fun v8 _ => L - (intOf v8).toNat)
  case atStart => exact ⟨0, Nat.zero_le _, rfl, fun j hj => absurd hj (Nat.not_lt_zero _), Below.refl _ _⟩
  case round =>
    obtain ⟨k, hk, rfl, hno, hbk⟩ := hrel
    have HNO := Lib.hid hno
    have HBK := Lib.hid hbk
    by_cases hkL : k < L
    · have hkL2 : (k : Int) < (L : Int) := by omega
      obtain ⟨p, hp⟩ : ∃ p, q[k]? = some p := ⟨q[k]'(by have := HL.out; omega), List.getElem?_eq_getElem _⟩
      obtain ⟨x, n⟩ := p
      have hq := own_kept H.out (Kept.below (S := fun _ => False) hbk) (fun _ _ e => e)
      obtain ⟨g, hga, hgq⟩ : ∃ g, a = some ⟨g, 0, none⟩ ∧ ∀ j u, (secsV q)[j]? = some u → wr.cell? ⟨g, j, none⟩ = some u := by
        cases a with
        | none => have := (HN.out rfl).1; have := HL.out; omega
        | some ad =>
          rcases hq.2 with ⟨e, _⟩ | ⟨g, cap, cur, e, _⟩
          · cases e
          · injection e with e
            injection e with e
            subst e
            refine ⟨g, rfl, fun j u hu => ?_⟩
            have := own_cell hq (by rw [HL.out]) j u hu
            rw [Lib.add_plain, Nat.zero_add] at this
            exact this
      subst hga
      have c1 := hgq _ _ (secsV_get _ k _ hp).1
      have c2 := hgq _ _ (secsV_get _ k _ hp).2
      have q0 := pred_c f x n bf wr ((Kept.below (S := fun _ => False) hbk).cell HB.out (fun e => e))
      have HP := Lib.hid hp
      clear hno hbk hq hgq hp
      by_cases hxf : x = f
      · subst hxf
        have e : ((x : Int) == (x : Int)) = true := by simp
        rw [e] at q0
        have Q := Lib.hid q0
        clear q0 e
        go_wp2_with (go_at_call 64; refine Q.out.mono ?_; rintro e w2 ⟨rfl, hb2⟩)
        go_ret
        exact ⟨HBK.out.trans (hb2.mono HBK.out.size), Or.inl ⟨k, ⟨n, HP.out, HNO.out⟩, rfl⟩⟩
      · have e : ((x : Int) == (f : Int)) = false := by simp; omega
        rw [e] at q0
        have Q := Lib.hid q0
        clear q0 e
        go_wp2_with (go_at_call 64; refine Q.out.mono ?_; rintro e w2 ⟨rfl, hb2⟩)
        go_roundw
        case rel =>
          refine ⟨k + 1, hkL, by go_num, fun j hj p hp => ?_, HBK.out.trans (hb2.mono HBK.out.size)⟩
          by_cases e : j = k
          · subst e
            rw [HP.out] at hp
            injection hp with hp
            rw [← hp]
            exact hxf
          · exact HNO.out j (by omega) p hp
        case measure => simp [intOf]; omega
    · have hkL2 : ¬ (k : Int) < (L : Int) := by omega
      clear hno hbk
      go_wp2_with fail
      go_ret
      refine ⟨HBK.out, Or.inr ⟨fun p hp => ?_, by rfl⟩⟩
      obtain ⟨j, hj, e⟩ := List.mem_iff_getElem.1 hp
      exact HNO.out j (by have := HL.out; omega) p (by rw [← e]; exact List.getElem?_eq_getElem hj)

theorem secsV_set (M : List (Nat × Nat)) : ∀ (i : Nat) (p : Nat × Nat), i < M.length → ((secsV M).set (i * 2) (.int .i64 (p.1 : Int))).set (i * 2 + 1) (.int .i64 (p.2 : Int)) = secsV (M.set i p) := by
  induction M with
  | nil => intro i p h; simp at h
  | cons a M ih =>
    intro i p h
    have e : ∀ (a : Nat × Nat) (M : List (Nat × Nat)), secsV (a :: M) = [Value.int .i64 (a.1 : Int), .int .i64 (a.2 : Int)] ++ secsV M := fun a M => by simp [secsV]
    cases i with
    | zero => rw [e, List.set_cons_zero, e]; rfl
    | succ i =>
      rw [e, List.set_cons_succ, e, ← ih i p (by simpa using h)]
      have e1 : (i + 1) * 2 = i * 2 + 2 := by omega
      rw [e1]
      rfl
theorem secsV_take (M : List (Nat × Nat)) : ∀ (i : Nat), (secsV M).take (i * 2) = secsV (M.take i) := by
  induction M with
  | nil => intro i; simp [secsV]
  | cons a M ih =>
    intro i
    have e : ∀ (a : Nat × Nat) (M : List (Nat × Nat)), secsV (a :: M) = [Value.int .i64 (a.1 : Int), .int .i64 (a.2 : Int)] ++ secsV M := fun a M => by simp [secsV]
    cases i with
    | zero => simp [secsV]
    | succ i =>
      rw [List.take_succ_cons, e, e, ← ih i]
      have e1 : (i + 1) * 2 = i * 2 + 2 := by omega
      rw [e1]
      simp
theorem sizeSec (wx : World) : ((sizeOf (Tryd.prog.elem 58)).run Tryd.prog wx) = .ok 2 wx := by
  obtain ⟨i0, hi, hz0, hz1, hz2⟩ := info_parts infoSec
  have e : Tryd.prog.elem 58 = 84 := by kernel_rfl
  rw [e]; simp [sizeOf, typeInfo, hi, hz1]
theorem sec_from (a : Option Addr) (n c k : Nat) (h : k ≤ n) : ∃ A, (∀ wx : World, (Instr.slice 58 (.slice a n c) (some (.int .i64 (k : Int))) none none).run Tryd.prog wx = .ok (.slice A (n - k) (c - k)) wx) ∧ (k < c → A = a.map (·.add (k * 2))) := by
  refine ⟨if c = k then a else a.map (·.add (k * 2)), fun wx => ?_, fun h => by simp [show c ≠ k by omega]⟩
  have hs := run_slice_l (P := Tryd.prog) wx 58 a n c Tryd.underlying58 .i64 k (by omega) (by omega)
  rw [hs, sizeSec wx]
  simp [Result.andThen, sliced]
theorem sec_to (a : Option Addr) (n c h : Nat) (h2 : h ≤ c) (wx : World) : (Instr.slice 58 (.slice a n c) none (some (.int .i64 (h : Int))) none).run Tryd.prog wx = .ok (.slice a h c) wx := by
  have hs := run_slice_h (P := Tryd.prog) wx 58 a n c Tryd.underlying58 .i64 h (by omega) (by omega)
  rw [hs, sizeSec wx]
  cases a <;> simp [Result.andThen, sliced, Addr.add]
section
variable {P : Program}
/-- 'clear(s[i:])' at the end of a slice that is owned: the first i elements stay. -/
theorem run_clear_tail (w : World) (t ty e : TypeId) (z : Value) (size : Nat) (ht : P.underlying t = some (.slice e)) (hv : ∀ w, (zeroValue e).run P w = .ok z w) (hzs : z.cells.size = size) (h1 : ∀ u ∈ z.cells.toList, u.oneCell' = true)
    (g n c : Nat) (xs : List Value) (hown : w.ownsRow 0 e size (.slice (some ⟨g, 0, none⟩) n c) n xs) (i : Nat) (hi : i ≤ n) (A : Option Addr) (c' : Nat) (hA : 0 < n - i → A = some ⟨g, i * size, none⟩) :
    ∃ w', (Builtin.clear_ #[t] ty #[.slice A (n - i) c']).run P w = .ok (.tuple #[]) w' ∧ w'.ownsRow 0 e size (.slice (some ⟨g, 0, none⟩) i c) i (xs.take (i * size)) ∧ w.grownBy w' (some g) := by
  by_cases h0 : n - i = 0
  · refine ⟨w, ?_, own_take hown hi, ⟨rfl, rfl, rfl, Nat.le_refl _, fun _ _ _ => rfl⟩⟩
    rw [h0]
    cases A <;> simp [Builtin.clear_, run_underlying ht]
  · obtain rfl := hA (by omega)
    obtain ⟨m, hm⟩ : ∃ m, n - i = m + 1 := ⟨n - i - 1, by omega⟩
    rcases hown.2 with ⟨e1, _⟩ | ⟨g', cap, cur, e1, hbg, hg, hnc, hcm, hcs, htake⟩
    · cases e1
    · injection e1 with e1 _ e3
      injection e1 with e1
      injection e1 with e1
      subst e1 e3
      have hle : (i + (m + 1)) * size ≤ c * size := Nat.mul_le_mul_right _ (by omega)
      rw [Nat.add_mul] at hle
      have hlen : ((Builtin.zeroCells z.cells (m + 1)).toList).length = (m + 1) * size := by rw [Array.length_toList, size_zeroCells, hzs]
      have hz1 : ∀ u ∈ (Builtin.zeroCells z.cells (m + 1)).toList, u.oneCell' = true := by
        intro u hu
        simp only [Builtin.zeroCells, Array.toList_map, List.mem_map] at hu
        obtain ⟨j, hj, rfl⟩ := hu
        have hj' : j < (m + 1) * z.cells.size := by simpa using hj
        have hpos : 0 < z.cells.size := by
          rcases Nat.eq_zero_or_pos z.cells.size with h | h
          · rw [h] at hj'; omega
          · exact h
        have hlt := Nat.mod_lt j hpos
        refine h1 _ ?_
        rw [getElem!_pos z.cells _ hlt]
        exact Array.getElem_mem_toList hlt
      have hst := run_storeCells_at P g (i * size) e (Builtin.zeroCells z.cells (m + 1)).toList 0 cur w hg (by rw [hlen, hcs]; omega) hz1
      simp only [Nat.add_zero] at hst
      refine ⟨w.setRow g (cur.toList.take (i * size) ++ (Builtin.zeroCells z.cells (m + 1)).toList ++ cur.toList.drop (i * size + (Builtin.zeroCells z.cells (m + 1)).toList.length)).toArray, ?_, ⟨?_, Or.inr ⟨g, c, _, rfl, Nat.zero_le _, setRow_heap w g cur _ e _ hg, by omega, hcm, ?_, ?_⟩⟩, ⟨rfl, rfl, rfl, by simp, fun k _ hk => setRow_other w g k _ (fun e => hk (by rw [e]))⟩⟩
      · rw [hm]
        simp [Builtin.clear_, run_underlying ht, hv, hst]
      · have := hown.1
        have h3 : i * size ≤ n * size := Nat.mul_le_mul_right _ hi
        rw [List.length_take]; omega
      · simp only [List.size_toArray, List.length_append, List.length_take, List.length_drop, Array.length_toList, hlen, hcs]
        simp only [Array.length_toList] at hlen
        omega
      · have h3 : i * size ≤ n * size := Nat.mul_le_mul_right _ hi
        rw [← htake, List.take_take, Nat.min_eq_left h3]
        simp only [List.append_assoc]
        rw [List.take_append_of_le_length (by simp; omega), List.take_take]
        congr 1
        omega
theorem wpList_clear_run {w : World} {ops : Array Oper} {rest : List Oper} {o : Oper} {a : Act} {Q : Exit → Act → World → Prop} (hgd : o.guard = none) (s : Operand) (t : TypeId)
    (ho : o.op = .call { callee := .builtin .clear, args := #[s], argTypes := #[t] }) (vs : Value) (hs : a.eval s = vs) (w' : World) (hr : (Builtin.clear_ #[t] o.type #[vs]).run P w = .ok (.tuple #[]) w')
    (h : wpList P ops Q rest (a.put o.dst (.tuple #[])) w') : wpList P ops Q (o :: rest) a w := by
  refine wpList_plain hgd fun K hK => ?_
  unfold Oper.wp execOp
  simp only [ho, resolve, invoke, builtin, Sem.run_bind, Sem.run_pure, Result.andThen_ok, List.map_toArray, List.map_cons, List.map_nil, hs, hr]
  exact hK _ _ h
end
end Go.Proofs.YtninopllfbiccaaDoor
