/-
  From the form's reading of an argument to a row of values.
-/
import Derived.Test.YthibikdnoogfoaaGreatDoorVArg
import Derived.Test.YthibikdnoogfoaaGreatDoorOpenS
import Derived.ProofKit
import Derived.OpenShut
import Derived.SliceStrings
import Derived.Deep.Slices
import Derived.Carry
namespace Go.Proofs.YthibikdnoogfoaaGreatDoor
open Go Go.RowKit Go.Sort Wire Txt Vl Go.ChangeShapes Go.ChangeAt

section
variable {H : Type} {enc : TypeId × Value → H} {W : World} {base : Nat} {sp : Nat → Bool} {held : Bool}

theorem cellsInt : Tryz.prog.cellsOf 3 = 1 := by kernel_rfl
theorem cellsStrg : Tryz.prog.cellsOf 9 = 1 := by kernel_rfl
theorem cellsVal : Tryz.prog.cellsOf 31 = 3 := by kernel_rfl
theorem three : ∀ (cs : List Value), cs.length = 3 → ∃ c0 c1 c2, cs = [c0, c1, c2]
  | [c0, c1, c2], _ => ⟨c0, c1, c2, rfl⟩
theorem open_v {fuel : Nat} {cs : List Value} {x : DataW H × List MemPlace} (h : DataW.trod enc Tryz.prog W base sp held fuel 31 cs = some x) :
    ∃ y : V, cs = [.int .i64 y.k, .int .i64 y.n, .string ⟨y.s.toArray⟩] ∧ Fits y := by
  obtain ⟨xs, n, rfl, _, hl, hx, hf⟩ := DataW.trod_struct Tryz.underlying31 h
  rw [cellsVal] at hl
  obtain ⟨c0, c1, c2, rfl⟩ := three cs hl
  have hx5 : xs.length = 3 := hx
  have f0 : DataW.trod enc Tryz.prog W base sp held n 3 (([c0, c1, c2].drop 0).take (Tryz.prog.cellsOf 3)) = xs[0]? := hf 0 _ rfl
  have f1 : DataW.trod enc Tryz.prog W base sp held n 3 (([c0, c1, c2].drop 1).take (Tryz.prog.cellsOf 3)) = xs[1]? := hf 1 _ rfl
  have f2 : DataW.trod enc Tryz.prog W base sp held n 9 (([c0, c1, c2].drop 2).take (Tryz.prog.cellsOf 9)) = xs[2]? := hf 2 _ rfl
  rw [cellsInt, List.getElem?_eq_getElem (by omega)] at f0 f1
  rw [cellsStrg, List.getElem?_eq_getElem (by omega)] at f2
  obtain ⟨k, e0, _, w0⟩ := DataW.trod_int Tryz.underlying3 f0
  obtain ⟨m, e1, _, w1⟩ := DataW.trod_int Tryz.underlying3 f1
  obtain ⟨s, e2, _, w2⟩ := DataW.trod_string Tryz.underlying9 f2
  obtain rfl : c0 = .int .i64 k := by simpa using e0
  obtain rfl : c1 = .int .i64 m := by simpa using e1
  obtain rfl : c2 = .string s := by simpa using e2
  refine ⟨⟨k, m, s.data.toList⟩, by simp, bounds_i64 w0, bounds_i64 w1, ?_⟩
  have : s.data.toList.length = s.size := Array.length_toList
  unfold maxLen at w2
  show InR (s.data.toList.length : Int)
  unfold InR
  omega
theorem choose_v {n : Nat} {p : Nat → V → Prop} (h : ∀ i, i < n → ∃ x, p i x) : ∃ f : Nat → V, ∀ i, i < n → p i (f i) := by
  have : ∀ i, ∃ x, i < n → p i x := fun i => by
    by_cases hi : i < n
    · obtain ⟨x, hx⟩ := h i hi
      exact ⟨x, fun _ => hx⟩
    · exact ⟨⟨0, 0, []⟩, fun h => absurd h hi⟩
  exact ⟨fun i => Classical.choose (this i), fun i => Classical.choose_spec (this i)⟩
theorem cellsV_inv : ∀ (l : List V) (j : Nat) (u : Value), (cellsV l)[j]? = some u → ∃ i v q, j = i * 3 + q ∧ l[i]? = some v ∧ ([Value.int .i64 v.k, .int .i64 v.n, .string ⟨v.s.toArray⟩] : List Value)[q]? = some u := by
  intro l
  induction l with
  | nil => intro j u h; simp [cellsV] at h
  | cons a l ih =>
    intro j u h
    have e : cellsV (a :: l) = [Value.int .i64 a.k, .int .i64 a.n, .string ⟨a.s.toArray⟩] ++ cellsV l := by simp [cellsV]
    rw [e] at h
    by_cases hj : j < 3
    · rw [List.getElem?_append_left (by simpa using hj)] at h
      exact ⟨0, a, j, by omega, rfl, h⟩
    · rw [List.getElem?_append_right (by simp; omega)] at h
      obtain ⟨i, v, q, h1, h2, h3⟩ := ih _ u h
      simp at h1
      exact ⟨i + 1, v, q, by omega, by simpa using h2, h3⟩
theorem open_row {fuel : Nat} {v : Value} {x : DataW H × List MemPlace} (h : DataW.trod enc Tryz.prog W base sp held fuel 22 [v] = some x) : ∃ l, ArgV W v l ∧ ∀ y ∈ l, Fits y := by
  rcases Go.Deep.open_slice Tryz.underlying22 h with ⟨hv, _⟩ | ⟨a, len, cap, m, n, D, Pl, hv, _, hl, hm, hmm, _, hx⟩
  · obtain rfl : v = .slice none 0 0 := by simpa using hv
    exact ⟨[], ⟨by simp, Or.inl ⟨rfl, rfl⟩⟩, by simp⟩
  · obtain rfl : v = .slice (some a) len cap := by simpa using hv
    have hlm : len ≤ m := by rw [hmm]; split <;> omega
    rw [cellsVal] at hx
    obtain ⟨f, hf⟩ := choose_v (n := len) (p := fun i y => Fits y ∧ W.cells? base (a.add (i * 3)) 3 = some [.int .i64 y.k, .int .i64 y.n, .string ⟨y.s.toArray⟩]) (fun i hi => by
      obtain ⟨cs', h1, h2⟩ := hx i (by omega)
      obtain ⟨y, rfl, hy⟩ := open_v h2
      exact ⟨y, hy, h1⟩)
    have hlen : ((List.range len).map f).length = len := by simp
    have hget : ∀ i v, ((List.range len).map f)[i]? = some v → i < len ∧ v = f i := fun i v hv => by
      have hi : i < len := by have := (List.getElem?_eq_some_iff.1 hv).1; omega
      rw [List.getElem?_map, List.getElem?_range hi] at hv
      exact ⟨hi, by simpa using hv.symm⟩
    refine ⟨(List.range len).map f, ⟨by rw [hlen]; unfold maxLen at hm; omega, Or.inr ⟨a, cap, by rw [hlen], by rw [hlen]; omega, fun j u hu => ?_⟩⟩, fun y hy => ?_⟩
    · obtain ⟨i, v, q, rfl, h2, h3⟩ := cellsV_inv _ j u hu
      obtain ⟨hi, rfl⟩ := hget i v h2
      have hq : q < 3 := (List.getElem?_eq_some_iff.1 h3).1
      have key := (World.cells?_some (hf i hi).2).2.2 q hq
      rw [h3] at key
      have hadd : (a.add (i * 3)).add q = a.add (i * 3 + q) := by
        unfold Addr.add
        by_cases g1 : i * 3 = 0
        · by_cases g2 : q = 0
          · simp [g1, g2]
          · simp [g1, g2]
        · have g3 : i * 3 + q ≠ 0 := by omega
          by_cases g2 : q = 0
          · simp [g1, g2]
          · simp [g1, g2, g3, Nat.add_assoc]
      rw [hadd] at key
      exact key
    · obtain ⟨i, hi, rfl⟩ := List.mem_map.1 hy
      exact (hf i (by simpa using hi)).1
theorem trodAll_five {P : Program} {w : World} {t0 t1 t2 t3 t4 : TypeId} {args : Array Value} {ds : List (DataW H)} {ps : List MemPlace} (h : DataW.TrodAll enc P w base sp held [t0, t1, t2, t3, t4] args.toList ds ps) :
    ∃ v0 v1 v2 v3 v4 d0 d1 d2 d3 d4 p0 p1 p2 p3 p4, args = #[v0, v1, v2, v3, v4] ∧ ds = [d0, d1, d2, d3, d4] ∧ ps = p0 ++ p1 ++ p2 ++ p3 ++ p4 ∧ DataW.Trod enc P w base sp held t0 v0 d0 p0 ∧ DataW.Trod enc P w base sp held t1 v1 d1 p1 ∧ DataW.Trod enc P w base sp held t2 v2 d2 p2 ∧ DataW.Trod enc P w base sp held t3 v3 d3 p3 ∧ DataW.Trod enc P w base sp held t4 v4 d4 p4 := by
  obtain ⟨v0, r0, d0, e0, p0, q0, hargs, rfl, rfl, h0, s0⟩ := trodAll_cons h
  obtain ⟨v1, r1, d1, e1, p1, q1, rfl, rfl, rfl, h1, s1⟩ := trodAll_cons s0
  obtain ⟨v2, r2, d2, e2, p2, q2, rfl, rfl, rfl, h2, s2⟩ := trodAll_cons s1
  obtain ⟨v3, r3, d3, e3, p3, q3, rfl, rfl, rfl, h3, s3⟩ := trodAll_cons s2
  obtain ⟨v4, r4, d4, e4, p4, q4, rfl, rfl, rfl, h4, s4⟩ := trodAll_cons s3
  obtain ⟨rfl, rfl, rfl⟩ := trodAll_nil s4
  exact ⟨v0, v1, v2, v3, v4, d0, d1, d2, d3, d4, p0, p1, p2, p3, p4, by cases args; simp_all, rfl, by simp, h0, h1, h2, h3, h4⟩
theorem trodAll_mk5 {P : Program} {w : World} {t0 t1 t2 t3 t4 : TypeId} {v0 v1 v2 v3 v4 : Value} {d0 d1 d2 d3 d4 : DataW H} {p0 p1 p2 p3 p4 : List MemPlace} (h0 : DataW.Trod enc P w base sp held t0 v0 d0 p0) (h1 : DataW.Trod enc P w base sp held t1 v1 d1 p1)
    (h2 : DataW.Trod enc P w base sp held t2 v2 d2 p2) (h3 : DataW.Trod enc P w base sp held t3 v3 d3 p3) (h4 : DataW.Trod enc P w base sp held t4 v4 d4 p4) : DataW.TrodAll enc P w base sp held [t0, t1, t2, t3, t4] [v0, v1, v2, v3, v4] [d0, d1, d2, d3, d4] (p0 ++ (p1 ++ (p2 ++ (p3 ++ p4)))) := ⟨p0, p1 ++ (p2 ++ (p3 ++ p4)), h0, trodAll_mk4 h1 h2 h3 h4, rfl⟩
end
end Go.Proofs.YthibikdnoogfoaaGreatDoor
