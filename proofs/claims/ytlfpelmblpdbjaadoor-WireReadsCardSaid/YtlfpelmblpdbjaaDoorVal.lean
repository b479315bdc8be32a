/-
  The statements' values: what a value and a list of values are in memory, and few: where it returns true, there are at most 20 values with at most 400 bytes and elements.
-/
import Derived.Test.YtlfpelmblpdbjaaDoorHelp
import Derived.Deep.QuietTactic
import Derived.BigQuiet
namespace Go.Proofs.YtlfpelmblpdbjaaDoor
open Go Go.RowKit Go.Sort Wire

structure Val where
  k : Int
  n : Int
  s : List UInt8
  l : List Int
  t : List (List UInt8)

def texts (t : List (List UInt8)) : Nat := (t.map List.length).foldl (· + ·) 0
def Val.size (x : Val) : Nat := x.s.length + x.l.length + x.t.length + texts x.t
def total (vs : List Val) : Nat := (vs.map Val.size).foldl (· + ·) 0
theorem foldl_add (l : List Nat) (a : Nat) : l.foldl (· + ·) a = a + l.foldl (· + ·) 0 := by
  induction l generalizing a with
  | nil => simp
  | cons x l ih => simp only [List.foldl_cons]; rw [ih, ih (0 + x)]; omega
theorem texts_take (t : List (List UInt8)) (k : Nat) (x : List UInt8) (h : t[k]? = some x) : texts (t.take (k + 1)) = texts (t.take k) + x.length := by
  unfold texts
  rw [List.take_add_one, h]
  simp
theorem total_take (vs : List Val) (k : Nat) (x : Val) (h : vs[k]? = some x) : total (vs.take (k + 1)) = total (vs.take k) + x.size := by
  unfold total
  rw [List.take_add_one, h]
  simp

/-- A value in its five cells: right ints, strings and slices that read so. -/
structure ValAt (w : World) (x : Val) (v3 v4 : Value) : Prop where
  k : InR x.k
  n : InR x.n
  s : x.s.length ≤ 9223372036854775807
  hl : ∀ y ∈ x.l, InR y
  l : RowAt w v3 (ints x.l)
  t : RowAt w v4 (strs x.t)
def Val.agg (x : Val) (v3 v4 : Value) : Value := .agg #[.int .i64 x.k, .int .i64 x.n, .string ⟨x.s.toArray⟩, v3, v4]
/-- A slice of values. -/
def ValsAt (w : World) (v : Value) (vs : List Val) : Prop :=
  vs.length ≤ 9223372036854775807 ∧ ∃ a cap, v = .slice a vs.length cap ∧ (vs ≠ [] → ∃ b off, a = some ⟨b, off, none⟩ ∧ ∀ i x, vs[i]? = some x → ∃ v3 v4, ValAt w x v3 v4 ∧
    w.cell? ⟨b, off + i * 5, none⟩ = some (.int .i64 x.k) ∧ w.cell? ⟨b, off + i * 5 + 1, none⟩ = some (.int .i64 x.n) ∧ w.cell? ⟨b, off + i * 5 + 2, none⟩ = some (.string ⟨x.s.toArray⟩) ∧
    w.cell? ⟨b, off + i * 5 + 3, none⟩ = some v3 ∧ w.cell? ⟨b, off + i * 5 + 4, none⟩ = some v4)

theorem int_eq {a b : Int} (h : a = b) : Value.int .i64 a = Value.int .i64 b := by rw [h]
theorem Below.drewN' (B : Nat) (w : World) (k : Nat) : Below B w (w.drewN k) := ⟨rfl, rfl, rfl, Nat.le_refl _, fun _ _ => rfl⟩
def FewPost (vs : List Val) (w : World) (e : Ending) (w' : World) : Prop := ∃ b : Bool, e = .returned (.bool b) ∧ (b = true → vs.length ≤ 20 ∧ total vs ≤ 400) ∧ Below w.heap.size w w'

set_option maxHeartbeats 1000000 in
set_option maxRecDepth 100000 in
theorem few_c (vs : List Val) (v : Value) (w : World) (hv : ValsAt w v vs) : Calls Tryd.prog 10 #[v] w (FewPost vs w) := by
  obtain ⟨h0, a, cap, rfl, hcells⟩ := hv
  have HC := Lib.hid hcells
  clear hcells
  by_cases h20 : 20 < vs.length
  · go_enter Tryd.func10, Tryd.ntmps10
    go_wp2_with fail
    go_ret
    exact ⟨false, rfl, (fun h => by cases h), Below.refl _ _⟩
  · go_enter Tryd.func10, Tryd.ntmps10
    go_wp2_with fail
    go_loopw [3, 4] (fun s i wr => ∃ k : Nat, k ≤ vs.length ∧ i = .int .i64 k ∧ s = .int .i64 (total (vs.take k)) ∧ total (vs.take k) ≤ 161200 * k ∧ Below w.heap.size w wr) (fun _ i _ => vs.length - (intOf i).toNat)
    case atStart => exact ⟨0, Nat.zero_le _, rfl, rfl, by simp [total], Below.refl _ _⟩
    case round =>
      obtain ⟨k, hk, rfl, rfl, htk, hbk⟩ := hrel
      by_cases hlt : k < vs.length
      · obtain ⟨x, hx⟩ : ∃ x, vs[k]? = some x := ⟨vs[k], List.getElem?_eq_getElem hlt⟩
        obtain ⟨b, off, rfl, hc⟩ := HC.out (by intro h; subst h; simp at hlt)
        obtain ⟨v3, v4, hat, c0, c1, c2, c3, c4⟩ := hc k x hx
        have d2 : wr.cell? ⟨b, off + k * 5 + 2, none⟩ = some (.string ⟨x.s.toArray⟩) := by rw [hbk.cell (lt_of_cell c2)]; exact c2
        have d3 : wr.cell? ⟨b, off + k * 5 + 3, none⟩ = some v3 := by rw [hbk.cell (lt_of_cell c3)]; exact c3
        have d4 : wr.cell? ⟨b, off + k * 5 + 4, none⟩ = some v4 := by rw [hbk.cell (lt_of_cell c4)]; exact c4
        have hl := hat.l.on hbk (Nat.le_refl _)
        have ht := hat.t.on hbk (Nat.le_refl _)
        obtain ⟨l0, al, cl, rfl, hlc⟩ := hl
        obtain ⟨t0, atx, ct, rfl, htc⟩ := ht
        have e1 : (ints x.l).length = x.l.length := by simp [ints]
        have e2 : (strs x.t).length = x.t.length := by simp [strs]
        rw [e1] at d3 l0
        rw [e2] at d4 t0
        have HL := Lib.hid hlc
        have HT := Lib.hid htc
        have HX := Lib.hid hx
        clear hlc htc hx hc c0 c1 c2 c3 c4 e1 e2 HC hat
        by_cases g1 : x.l.length ≤ 400
        · by_cases g2 : x.t.length ≤ 400
          · by_cases g3 : x.s.length ≤ 400
            · go_wp2_with fail
              go_quiet (fail)
              go_wp2_with fail
              have hxb : total (vs.take k) + x.s.length + x.l.length + x.t.length ≤ 161200 * k + 1200 := by omega
              go_loop [3, 5] (fun s j => ∃ m : Nat, m ≤ x.t.length ∧ j = .int .i64 m ∧ s = .int .i64 (total (vs.take k) + x.s.length + x.l.length + x.t.length + texts (x.t.take m)) ∧ texts (x.t.take m) ≤ 400 * m) (fun _ j => x.t.length - (intOf j).toNat)
              case atStart => exact ⟨0, Nat.zero_le _, rfl, by simp [texts], by simp [texts]⟩
              case round =>
                obtain ⟨m, hm, rfl, rfl, hmb⟩ := hrel
                by_cases hmt : m < x.t.length
                · obtain ⟨y, hy⟩ : ∃ y, x.t[m]? = some y := ⟨x.t[m], List.getElem?_eq_getElem hmt⟩
                  obtain ⟨bt, offt, rfl, hct⟩ := HT.out (by intro h; have := congrArg List.length h; simp [strs] at this; rw [this] at hmt; simp at hmt)
                  have ey := hct m _ (strs_get hy)
                  have HY := Lib.hid (texts_take x.t m y hy)
                  clear hct hy HT
                  by_cases hy4 : y.length ≤ 400
                  · go_wp2_with fail
                    go_round
                    case rel => exact ⟨m + 1, by omega, by go_num, by rw [HY.out]; go_num, by rw [HY.out]; omega⟩
                    case measure => simp [intOf]; omega
                  · go_wp2_with fail
                    go_ret
                    exact ⟨false, rfl, (fun h => by cases h), hbk.trans (Below.drewN' _ _ _)⟩
                · obtain rfl : m = x.t.length := by omega
                  have HZ := Lib.hid (total_take vs k x HX.out)
                  have HW : Hid (texts (x.t.take x.t.length) = texts x.t) := Lib.hid (by rw [List.take_length])
                  go_wp2_with fail
                  go_roundw
                  case rel => exact ⟨k + 1, by omega, by go_num, int_eq (by have h1 := HZ.out; have h2 := HW.out; unfold Val.size at h1; omega), by have h1 := HZ.out; have h2 := HW.out; unfold Val.size at h1; omega, hbk.trans (Below.drewN' _ _ _)⟩
                  case measure => simp [intOf]; omega
            · go_wp2_with fail
              go_ret
              exact ⟨false, rfl, (fun h => by cases h), hbk⟩
          · go_wp2_with fail
            all_goals go_ret
            all_goals exact ⟨false, rfl, (fun h => by cases h), hbk⟩
        · go_wp2_with fail
          all_goals go_ret
          all_goals exact ⟨false, rfl, (fun h => by cases h), hbk⟩
      · obtain rfl : k = vs.length := by omega
        go_wp2_with fail
        go_ret
        refine ⟨_, rfl, (fun h => ?_), hbk⟩
        have h4 : (total vs : Int) ≤ 400 := by simpa using h
        exact ⟨by omega, by omega⟩
end Go.Proofs.YtlfpelmblpdbjaaDoor
