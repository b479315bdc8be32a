/-
  RightRow, Bytes, RowBytes of package value, the library's generic functions that they call, and the statements' Short: each returns what chapter 3 says; of what was there nothing has turned.
-/
import Derived.Test.YtmgpfkckafdbmaaVCmp
import Derived.Test.YtmgpfkckafdbmaaEnc
namespace Go.Proofs.Ytmgpfkckafdbmaa
open Go Go.RowKit Go.Sort Wire Txt Vl

theorem wrong_c (v : V) (w : World) : Calls Try.prog 52 #[.agg #[.int .i64 v.k, .int .i64 v.n, .string ⟨v.s.toArray⟩]] w fun e w' => e = .returned (.bool (!rightV v)) ∧ Below w.heap.size w w' := by
  obtain ⟨w1, e1, p0, p1, p2, hb⟩ := box_out w v
  go_enter Try.func52, Try.ntmps52
  go_wp2_with fail
  refine (right_c _ _ _ _).mono ?_
  rintro e w2 ⟨rfl, hb2⟩
  go_wp2_with fail
  go_ret
  exact ⟨rfl, chain hb hb2⟩

/-- Where the first value that is not right stands. -/
def FirstPost (l : List V) (w : World) (e : Ending) (w' : World) : Prop := ∃ j : Int, e = .returned (.int .i64 j) ∧ (decide (0 ≤ j) = !(l.all rightV)) ∧ Below w.heap.size w w'
theorem all_take_next {l : List V} {k : Nat} {u : V} (h : (l.take k).all rightV = true) (hu : l[k]? = some u) (hr : rightV u = true) : (l.take (k + 1)).all rightV = true := by
  rw [List.take_add_one, List.all_append, h, hu]
  simp [hr]
theorem all_no {l : List V} {k : Nat} {u : V} (hu : l[k]? = some u) (hr : rightV u = false) : l.all rightV = false := by
  cases h : l.all rightV with
  | false => rfl
  | true =>
    have := List.all_eq_true.1 h u (List.mem_of_getElem? hu)
    rw [hr] at this
    cases this
set_option maxHeartbeats 1000000 in
set_option maxRecDepth 100000 in
theorem indexFunc_c (l : List V) (x : Value) (w : World) (hx : RowV w x l) :
    Calls Try.prog 60 #[x, .func (.func 52) #[] #[]] w (FirstPost l w) := by
  obtain ⟨la, ax, ca, rfl, hca⟩ := hx
  have HA := Lib.hid hca
  clear hca
  go_enter Try.func60, Try.ntmps60
  go_wp2_with fail
  go_loopw [8] (fun i wr => ∃ k : Nat, k ≤ l.length ∧ (l.take k).all rightV = true ∧ i = .int .i64 k ∧ Below w.heap.size w wr) (fun i _ => l.length - (intOf i).toNat)
  case atStart => exact ⟨0, Nat.zero_le _, rfl, rfl, Below.refl _ _⟩
  case round =>
    obtain ⟨k, hk, ht, rfl, hbk⟩ := hrel
    have HT := Lib.hid ht
    clear ht
    by_cases hlt : k < l.length
    · obtain ⟨u, hu⟩ : ∃ u, l[k]? = some u := ⟨l[k], List.getElem?_eq_getElem hlt⟩
      obtain ⟨bx, ox, rfl, hc⟩ := HA.out (ne_of_lt hlt)
      obtain ⟨u0, u1, u2⟩ := (hc k u hu).on hbk (Nat.le_refl _)
      have HU := Lib.hid hu
      clear hu hc
      cases hr : rightV u with
      | true =>
        go_wp2_with fail
        refine (wrong_c u _).mono ?_
        rw [hr]
        rintro e w2 ⟨rfl, hb2⟩
        go_wp2_with fail
        go_roundw
        case rel => exact ⟨k + 1, by omega, all_take_next HT.out HU.out hr, by go_num, hbk.trans (hb2.mono hbk.size)⟩
        case measure => simp [intOf]; omega
      | false =>
        have HN := Lib.hid (all_no HU.out hr)
        go_wp2_with fail
        refine (wrong_c u _).mono ?_
        rw [hr]
        rintro e w2 ⟨rfl, hb2⟩
        go_wp2_with fail
        go_ret
        exact ⟨k, rfl, by rw [HN.out]; simp, hbk.trans (hb2.mono hbk.size)⟩
    · have HN := Lib.hid (show l.all rightV = true by have := HT.out; rw [List.take_of_length_le (by omega)] at this; exact this)
      go_wp2_with fail
      go_ret
      exact ⟨-1, rfl, by rw [HN.out]; rfl, hbk⟩
theorem containsFunc_c (l : List V) (x : Value) (w : World) (hx : RowV w x l) :
    Calls Try.prog 54 #[x, .func (.func 52) #[] #[]] w fun e w' => e = .returned (.bool (!(l.all rightV))) ∧ Below w.heap.size w w' := by
  have HC := Lib.hid (indexFunc_c l x w hx)
  obtain ⟨la, ax, ca, rfl, _⟩ := hx
  go_enter Try.func54, Try.ntmps54
  go_wp2_with fail
  refine HC.out.mono ?_
  rintro e w1 ⟨j, rfl, hj, hb⟩
  have HJ := Lib.hid hj
  clear hj
  go_wp2_with fail
  go_ret
  exact ⟨ret_bool (by rw [← HJ.out]), hb⟩
theorem rightRow_c (l : List V) (x : Value) (w : World) (hx : RowV w x l) :
    Calls Try.prog 46 #[x] w fun e w' => e = .returned (.bool (rightR l)) ∧ Below w.heap.size w w' := by
  have HC := Lib.hid (containsFunc_c l x w hx)
  obtain ⟨la, ax, ca, rfl, _⟩ := hx
  by_cases h12 : l.length ≤ 12
  · have HR := Lib.hid (show rightR l = l.all rightV by unfold rightR; simp [h12])
    go_enter Try.func46, Try.ntmps46
    go_wp2_with fail
    refine HC.out.mono ?_
    rintro e w1 ⟨rfl, hb⟩
    go_wp2_with fail
    go_ret
    exact ⟨ret_bool (by rw [HR.out]), hb⟩
  · have HR := Lib.hid (show rightR l = false by unfold rightR; simp [h12])
    go_enter Try.func46, Try.ntmps46
    go_wp2_with fail
    go_ret
    exact ⟨ret_bool (by rw [HR.out]), Below.refl _ _⟩

def shortR (l : List V) (n : Int) : Bool := l.all (fun v => decide (v.s.length ≤ 300)) && decide ((l.length : Int) ≤ n)
theorem short_no {l : List V} {k : Nat} {u : V} (n : Int) (hu : l[k]? = some u) (h : ¬ u.s.length ≤ 300) : shortR l n = false := by
  unfold shortR
  have : l.all (fun v => decide (v.s.length ≤ 300)) = false := by
    cases ha : l.all (fun v => decide (v.s.length ≤ 300)) with
    | false => rfl
    | true =>
      have := List.all_eq_true.1 ha u (List.mem_of_getElem? hu)
      simp at this
      omega
  rw [this]
  rfl
theorem short_next {l : List V} {k : Nat} {u : V} (ht : (l.take k).all (fun v => decide (v.s.length ≤ 300)) = true) (hu : l[k]? = some u) (h : u.s.length ≤ 300) : (l.take (k + 1)).all (fun v => decide (v.s.length ≤ 300)) = true := by
  rw [List.take_add_one, List.all_append, ht, hu]
  simp [h]
end Go.Proofs.Ytmgpfkckafdbmaa
