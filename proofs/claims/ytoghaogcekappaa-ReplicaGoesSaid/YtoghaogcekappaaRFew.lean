/-
  A list of operations that came in: the law's test of it; how the form's reading of an argument is such a list.
-/
import Derived.Test.YtoghaogcekappaaRSmall
import Derived.Test.YtoghaogcekappaaRows
import Derived.OpenShut
import Derived.SliceStrings
import Derived.Deep.Slices
import Derived.LaidMore
import Derived.Lay
import Derived.Deep.DeepHandedRow
import Derived.Deep.DeepWitnessRowRef
namespace Go.Proofs.Ytoghaogcekappaa
set_option maxRecDepth 100000
open Go Go.RowKit Rp Go.Sort Go.ChangeShapes Go.ChangeAt

structure Op8 where
  k : Int
  n : Int
  q : Int
  s : List UInt8
def In64 (n : Int) : Prop := -9223372036854775808 ≤ n ∧ n ≤ 9223372036854775807
def intsV (l : List Int) : List Value := l.map fun n => .int .i64 n
structure Fit8 (x : Op8) : Prop where
  k : In64 x.k
  n : In64 x.n
  t : In64 x.q
  s : x.s.length ≤ 9223372036854775807
structure OpRow8 (w : World) (b off : Nat) (x : Op8) : Prop where
  c0 : w.cell? ⟨b, off, none⟩ = some (.int .i64 x.k)
  c1 : w.cell? ⟨b, off + 1, none⟩ = some (.int .i64 x.n)
  c2 : w.cell? ⟨b, off + 2, none⟩ = some (.int .i64 x.q)
  c3 : w.cell? ⟨b, off + 3, none⟩ = some (.string ⟨x.s.toArray⟩)
  fit : Fit8 x
/-- A list of operations that came in. -/
def OpsIn8 (w : World) (v : Value) (l : List Op8) : Prop :=
  l.length ≤ 9223372036854775807 ∧ ∃ a c, v = .slice a l.length c ∧ ∀ i x, l[i]? = some x → ∃ b off, a = some ⟨b, off, none⟩ ∧ OpRow8 w b (off + i * 4) x
theorem OpRow8.on {w w' : World} {b off : Nat} {x : Op8} (h : OpRow8 w b off x) (hb : Below w.heap.size w w') : OpRow8 w' b off x := by
  have hk : ∀ {p : Addr} {v : Value}, w.cell? p = some v → w'.cell? p = some v := fun hp => (Kept.below (S := fun _ => False) hb).cell hp (fun e => e)
  exact ⟨hk h.c0, hk h.c1, hk h.c2, hk h.c3, h.fit⟩
theorem OpsIn8.on {w w' : World} {v : Value} {l : List Op8} (h : OpsIn8 w v l) (hb : Below w.heap.size w w') : OpsIn8 w' v l := by
  obtain ⟨h0, a, c, h1, h2⟩ := h
  refine ⟨h0, a, c, h1, fun i x hx => ?_⟩
  obtain ⟨b, off, h3, h4⟩ := h2 i x hx
  exact ⟨b, off, h3, h4.on hb⟩

def few8 (l : List Op8) (m : Nat) : Bool := l.all (fun x => decide (x.s.length ≤ 40)) && decide (l.length ≤ m)
theorem few8_len {l : List Op8} {m : Nat} (h : few8 l m = true) : l.length ≤ m ∧ ∀ x ∈ l, x.s.length ≤ 40 := by
  unfold few8 at h
  rw [Bool.and_eq_true, List.all_eq_true] at h
  exact ⟨by simpa using h.2, fun x hx => by simpa using h.1 x hx⟩
set_option maxHeartbeats 1000000 in
theorem few_c (v : Value) (l : List Op8) (m : Nat) (w : World) (h : OpsIn8 w v l) : Calls Try.prog 9 #[v, .int .i64 (m : Int)] w fun e w' => e = .returned (.bool (few8 l m)) ∧ w' = w := by
  obtain ⟨hlen, a, c, rfl, hcell⟩ := h
  obtain ⟨L, hL⟩ : ∃ L, L = l.length := ⟨_, rfl⟩
  rw [← hL] at hlen ⊢
  have HL := Lib.hid hL
  have HC := Lib.hid hcell
  clear hcell hL
  go_enter Try.func9, Try.ntmps9
  go_wp2_with fail
  go_loopw [5] (fun v5 wr => ∃ k : Nat, k ≤ L ∧ v5 = .int .i64 (k : Int) ∧ (∀ x ∈ l.take k, x.s.length ≤ 40) ∧ wr = w) (fun v5 _ => L - (intOf v5).toNat)
  case atStart => exact ⟨0, Nat.zero_le _, rfl, by simp, rfl⟩
  case round =>
    obtain ⟨k, hk, rfl, hf, hw⟩ := hrel
    rw [hw]
    clear hw
    have HF := Lib.hid hf
    clear hf
    by_cases hkl : k < L
    · have hkl' : (k : Int) < (L : Int) := by omega
      obtain ⟨x, hx⟩ : ∃ x, l[k]? = some x := ⟨l[k]'(by have := HL.out; omega), List.getElem?_eq_getElem _⟩
      obtain ⟨b, off, rfl, c0, c1, c2, c3, hok⟩ := HC.out k x hx
      have hsl : x.s.length ≤ 9223372036854775807 := hok.s
      have HX := Lib.hid hx
      clear hx hok
      by_cases h1 : 40 < x.s.length
      · have hfm : few8 l m = false := by
          unfold few8
          rw [Bool.and_eq_false_iff, List.all_eq_false]
          exact Or.inl ⟨x, List.mem_of_getElem? HX.out, by simp; omega⟩
        have h1' : (40 : Int) < (x.s.length : Int) := by omega
        have HFM := Lib.hid hfm
        clear hfm
        go_wp2_with fail
        go_ret
        exact ⟨by rw [HFM.out]; rfl, rfl⟩
      · have h1' : ¬ (40 : Int) < (x.s.length : Int) := by omega
        go_wp2_with fail
        go_roundw
        case rel =>
          refine ⟨k + 1, hkl, by go_num, fun y hy => ?_, (by first | rfl | trivial)⟩
          rw [List.take_add_one, HX.out] at hy
          rcases List.mem_append.1 hy with hy | hy
          · exact HF.out y hy
          · simp at hy; rw [hy]; omega
        case measure => simp [intOf]; omega
    · have hkl' : ¬ (k : Int) < (L : Int) := by omega
      have hfm : few8 l m = decide (L ≤ m) := by
        have hall : l.all (fun x => decide (x.s.length ≤ 40)) = true := List.all_eq_true.2 (fun x hx => by
          have := HF.out x (by rw [List.take_of_length_le (by have := HL.out; omega)]; exact hx)
          simpa using this)
        unfold few8
        rw [hall, Bool.true_and, ← HL.out]
      have HFM := Lib.hid hfm
      clear hfm
      go_wp2_with fail
      go_ret
      exact ⟨by rw [HFM.out]; rfl, rfl⟩
/-- The least residue that is not negative; 0 for an empty range. -/
def pickI (n m : Int) : Int := if m < 1 then 0 else n % m
theorem pick_arith (n m : Int) (hm : 1 ≤ m) : (n.tmod m < 0 → n % m = n.tmod m + m ∧ -m < n.tmod m) ∧ (¬ n.tmod m < 0 → n % m = n.tmod m) := by
  have h1 := Int.emod_nonneg n (show m ≠ 0 by omega)
  have h2 := Int.emod_lt_of_pos n (show 0 < m by omega)
  rw [Int.tmod_eq_emod]
  by_cases c : 0 ≤ n ∨ m ∣ n
  · rw [if_pos c]
    exact ⟨fun h => by omega, fun h => by omega⟩
  · rw [if_neg c]
    have h3 : n % m ≠ 0 := fun e => c (Or.inr (Int.dvd_of_emod_eq_zero e))
    exact ⟨fun h => ⟨by omega, by omega⟩, fun h => by omega⟩
theorem pick_c (n m : Int) (hn : In64 n) (hm : m ≤ 1000000) (w : World) : Calls Try.prog 48 #[.int .i64 n, .int .i64 m] w fun e w' => e = .returned (.int .i64 (pickI n m)) ∧ w' = w := by
  obtain ⟨hn1, hn2⟩ := hn
  by_cases h1 : m < 1
  · have e : pickI n m = 0 := by unfold pickI; rw [if_pos h1]
    rw [e]
    clear e
    go_enter Try.func48, Try.ntmps48
    go_wp2_with fail
    go_ret
    exact ⟨rfl, rfl⟩
  · have e : pickI n m = n % m := by unfold pickI; rw [if_neg h1]
    obtain ⟨q, hq⟩ : ∃ q : Int, n.tmod m = q := ⟨_, rfl⟩
    have h1d : decide (m < 1) = false := by simp; omega
    have hm0 : ¬ m = 0 := by omega
    by_cases h2 : q < 0
    · have e2 : pickI n m = q + m := by rw [e, ← hq]; exact ((pick_arith n m (by omega)).1 (by rw [hq]; exact h2)).1
      have hqb : -m < q := by rw [← hq]; exact ((pick_arith n m (by omega)).1 (by rw [hq]; exact h2)).2
      have HE := Lib.hid e2
      clear e e2
      go_enter Try.func48, Try.ntmps48
      go_wp2_with fail
      go_ret
      exact ⟨by rw [HE.out]; rfl, rfl⟩
    · have e2 : pickI n m = q := by rw [e, ← hq]; exact (pick_arith n m (by omega)).2 (by rw [hq]; exact h2)
      have h2d : decide (q < 0) = false := by simp; omega
      have HE := Lib.hid e2
      clear e e2
      go_enter Try.func48, Try.ntmps48
      go_wp2_with fail
      go_ret
      exact ⟨by rw [HE.out]; rfl, rfl⟩

/-! ### The form's reading -/
theorem own : ownKnob Try.prog.godebug = none := by kernel_rfl
theorem laid_met (os : Os) (args : Array Value) : laidMetH Try.prog [] ((World.laidAll Try.prog os []).forCall (fun _ _ => 0) ⟨#[], args, []⟩).memory := by
  rw [MakeChecks.laidMetH_plain _ _ _ (by kernel_rfl)]
  exact laidMet_laidAll args (by kernel_rfl) (by kernel_rfl)
section
variable {H : Type} {enc : TypeId × Value → H} {W : World} {base : Nat} {sp : Nat → Bool} {held : Bool}
theorem cellsInt : Try.prog.cellsOf 3 = 1 := by kernel_rfl
theorem cellsStrg : Try.prog.cellsOf 9 = 1 := by kernel_rfl
theorem cellsOp8 : Try.prog.cellsOf 37 = 4 := by kernel_rfl
theorem open_intsV {fuel : Nat} {v : Value} {x : DataW H × List MemPlace} (h : DataW.trod enc Try.prog W base sp held fuel 48 [v] = some x) :
    ∃ l a c, v = .slice a l.length c ∧ SrcV W 1 v l.length (intsV l) ∧ l.length ≤ 9223372036854775807 ∧ ∀ k ∈ l, In64 k := by
  rcases open_ints Try.underlying48 Try.underlying3 cellsInt h with ⟨hv, _⟩ | ⟨a, len, cap, zs, hv, _, hl, hm, hz, _, hc, hw⟩
  · obtain rfl : v = .slice none 0 0 := by simpa using hv
    exact ⟨[], none, 0, rfl, ⟨none, 0, rfl, rfl, fun _ => rfl, fun ad e => by cases e⟩, by decide, fun k hk => by cases hk⟩
  · obtain rfl : v = .slice (some a) len cap := by simpa using hv
    have hzl : len ≤ zs.length := by rw [hz]; split <;> omega
    have hlen : (zs.take len).length = len := by simp; omega
    refine ⟨zs.take len, some a, cap, by rw [hlen], ⟨some a, cap, by rw [hlen], by simp [intsV], (fun e => by cases e), fun ad e j u hu => ?_⟩, by rw [hlen]; unfold maxLen at hm; omega, fun k hk => bounds_i64 (hw k (List.mem_of_mem_take hk))⟩
    obtain rfl : ad = a := (Option.some.inj e).symm
    have hj : j < len := by
      have := (List.getElem?_eq_some_iff.1 hu).1
      simp [intsV] at this
      omega
    rw [hc j (by omega)]
    simp only [intsV, List.getElem?_map, List.getElem?_take_of_lt hj] at hu
    rw [List.getElem?_eq_getElem (by omega)] at hu
    rw [← hu]
    simp [List.getD, List.getElem?_eq_getElem (show j < zs.length by omega)]
theorem four_cells : ∀ (cs : List Value), cs.length = 4 → ∃ c0 c1 c2 c3, cs = [c0, c1, c2, c3]
  | [c0, c1, c2, c3], _ => ⟨c0, c1, c2, c3, rfl⟩
def OpCells8 (x : Op8) (cs : List Value) : Prop := cs = [.int .i64 x.k, .int .i64 x.n, .int .i64 x.q, .string ⟨x.s.toArray⟩] ∧ Fit8 x
theorem open_op8 {fuel : Nat} {cs : List Value} {x : DataW H × List MemPlace} (h : DataW.trod enc Try.prog W base sp held fuel 37 cs = some x) : ∃ y : Op8, OpCells8 y cs := by
  obtain ⟨xs, n, rfl, _, hl, hx, hf⟩ := DataW.trod_struct Try.underlying37 h
  rw [cellsOp8] at hl
  obtain ⟨c0, c1, c2, c3, rfl⟩ := four_cells cs hl
  have hx5 : xs.length = 4 := hx
  have f0 : DataW.trod enc Try.prog W base sp held n 3 (([c0, c1, c2, c3].drop 0).take (Try.prog.cellsOf 3)) = xs[0]? := hf 0 _ rfl
  have f1 : DataW.trod enc Try.prog W base sp held n 3 (([c0, c1, c2, c3].drop 1).take (Try.prog.cellsOf 3)) = xs[1]? := hf 1 _ rfl
  have f2 : DataW.trod enc Try.prog W base sp held n 3 (([c0, c1, c2, c3].drop 2).take (Try.prog.cellsOf 3)) = xs[2]? := hf 2 _ rfl
  have f3 : DataW.trod enc Try.prog W base sp held n 9 (([c0, c1, c2, c3].drop 3).take (Try.prog.cellsOf 9)) = xs[3]? := hf 3 _ rfl
  rw [cellsInt, List.getElem?_eq_getElem (by omega)] at f0 f1 f2
  rw [cellsStrg, List.getElem?_eq_getElem (by omega)] at f3
  obtain ⟨o, e0, _, w0⟩ := DataW.trod_int Try.underlying3 f0
  obtain ⟨f, e1, _, w1⟩ := DataW.trod_int Try.underlying3 f1
  obtain ⟨m, e2, _, w2⟩ := DataW.trod_int Try.underlying3 f2
  obtain ⟨s, e3, _, w3⟩ := DataW.trod_string Try.underlying9 f3
  obtain rfl : c0 = .int .i64 o := by simpa using e0
  obtain rfl : c1 = .int .i64 f := by simpa using e1
  obtain rfl : c2 = .int .i64 m := by simpa using e2
  obtain rfl : c3 = .string s := by simpa using e3
  refine ⟨⟨o, f, m, s.data.toList⟩, by simp, bounds_i64 w0, bounds_i64 w1, bounds_i64 w2, ?_⟩
  have : s.data.toList.length = s.size := Array.length_toList
  unfold maxLen at w3
  show s.data.toList.length ≤ 9223372036854775807
  omega
theorem choose_op8 {n : Nat} {p : Nat → Op8 → Prop} (h : ∀ i, i < n → ∃ x, p i x) : ∃ f : Nat → Op8, ∀ i, i < n → p i (f i) := by
  have : ∀ i, ∃ x, i < n → p i x := fun i => by
    by_cases hi : i < n
    · obtain ⟨x, hx⟩ := h i hi
      exact ⟨x, fun _ => hx⟩
    · exact ⟨⟨0, 0, 0, []⟩, fun h => absurd h hi⟩
  exact ⟨fun i => Classical.choose (this i), fun i => Classical.choose_spec (this i)⟩
theorem open_ops8 {fuel : Nat} {v : Value} {x : DataW H × List MemPlace} (h : DataW.trod enc Try.prog W base sp held fuel 25 [v] = some x) : ∃ l, OpsIn8 W v l := by
  rcases Go.Deep.open_slice Try.underlying25 h with ⟨hv, _⟩ | ⟨a, len, cap, m, n, D, Pl, hv, _, hl, hm, hmm, _, hx⟩
  · obtain rfl : v = .slice none 0 0 := by simpa using hv
    exact ⟨[], by decide, none, 0, rfl, fun i x hx => by simp at hx⟩
  · obtain rfl : v = .slice (some a) len cap := by simpa using hv
    have hlm : len ≤ m := by rw [hmm]; split <;> omega
    rw [cellsOp8] at hx
    obtain ⟨f, hf⟩ := choose_op8 (n := len) (p := fun i y => ∃ cs, OpCells8 y cs ∧ W.cells? base (a.add (i * 4)) 4 = some cs) (fun i hi => by
      obtain ⟨cs', h1, h2⟩ := hx i (by omega)
      obtain ⟨y, hy⟩ := open_op8 h2
      exact ⟨y, cs', hy, h1⟩)
    have hlen : ((List.range len).map f).length = len := by simp
    refine ⟨(List.range len).map f, by rw [hlen]; unfold maxLen at hm; omega, some a, cap, by rw [hlen], fun i x hx => ?_⟩
    have hi : i < len := by have := (List.getElem?_eq_some_iff.1 hx).1; omega
    rw [List.getElem?_map, List.getElem?_range hi] at hx
    obtain rfl : f i = x := by simpa using hx
    obtain ⟨cs, ⟨rfl, hfit⟩, hcs⟩ := hf i hi
    have key := (World.cells?_some hcs).2.2
    obtain ⟨cs0, ⟨rfl, _⟩, hcs0⟩ := hf 0 (by omega)
    have k0 := (World.cells?_some hcs0).2.2 0 (by decide)
    rw [Nat.zero_mul, show (a.add 0).add 0 = a by simp [Addr.add]] at k0
    obtain ⟨b, off, rfl⟩ := cell_plainD k0
    simp only [Lib.add_plain] at key
    exact ⟨b, off, rfl, key 0 (by decide), key 1 (by decide), key 2 (by decide), key 3 (by decide), hfit⟩
end
end Go.Proofs.Ytoghaogcekappaa
