/-
  sort.Search with the closure of find; find.
-/
import Derived.Test.YtmgpfkckafdbmaaQLook
import Derived.Laws.Shifts
namespace Go.Proofs.Ytmgpfkckafdbmaa
set_option maxRecDepth 100000
open Go Go.RowKit Pq

theorem results_tmp_cell_tmp {P : Program} {fn : Func} {t p u : Tmp} {ty : TypeId} (h : fn.results = #[.tmp t, .cell p ty, .tmp u]) (tmps : Array Value) (w : World) (g : Nat) (tt : TypeId) (cs : Array Value) (fr : Nat × Nat) (d : TypeDesc)
    (hp : tmps.getD p undef = .pointer (some ⟨g, 0, none⟩)) (hg : w.heap[g]? = some (.cells cs tt fr))
    (hu : P.underlying ty = some d) (hd : (match d with | .struct _ | .array _ _ => true | _ => false) = true) (hi : (P.info? ty).map (·.size) = some cs.size) :
    (results fn tmps).run P w = .ok (.tuple #[tmps.getD t undef, .agg cs, tmps.getD u undef]) w := by
  have hp' : tmps[p]?.getD undef = .pointer (some ⟨g, 0, none⟩) := by simpa using hp
  simp [results, h, hp', asAddr, run_loadVar_row w g tt ty cs fr d hg hu hd hi]
theorem sizePP : (Try.prog.info? 70).map (·.size) = some 4 := by kernel_rfl
/-- The closure of find. -/
theorem pred_c {W : World} {a : Option Addr} {c : Nat} {l : List PP} {bs bi : Nat} {id : Int} (h : Src (fun _ => True) W a c l.length (ppsV l)) (hs : W.cell? ⟨bs, 0, none⟩ = some (.slice a l.length c)) (hi : W.cell? ⟨bi, 0, none⟩ = some (.int .i64 id)) {i : Nat} {x : PP} (hx : l[i]? = some x) :
    Calls Try.prog 49 #[.int .i64 (i : Int), .pointer (some ⟨bs, 0, none⟩), .pointer (some ⟨bi, 0, none⟩)] W fun e w' => e = .returned (.bool (decide (id ≤ x.p.id))) ∧ Below W.heap.size W w' := by
  obtain ⟨b, off, rfl, hc⟩ := pp_cells h rfl hx
  have c0 := hc.c0
  have hil : (i : Int) < (l.length : Int) := by have := (List.getElem?_eq_some_iff.1 hx).1; omega
  generalize l.length = L at *
  clear h hc hx
  go_enter Try.func49, Try.ntmps49
  go_wp2_with fail
  go_quiet (fail)
  go_wp2_with fail
  go_ret
  exact ⟨rfl, ⟨rfl, rfl, rfl, Nat.le_refl _, fun _ _ => rfl⟩⟩
set_option maxHeartbeats 2000000 in
theorem search_c {w : World} {a : Option Addr} {c : Nat} {l : List PP} {bs bi : Nat} {id : Int} (h : Src (fun _ => True) w a c l.length (ppsV l)) (hs : w.cell? ⟨bs, 0, none⟩ = some (.slice a l.length c)) (hi : w.cell? ⟨bi, 0, none⟩ = some (.int .i64 id)) (hn : l.length ≤ 100000) {m : Int} (ht : Tab m (tab l)) :
    Calls Try.prog 48 #[.int .i64 (l.length : Int), .func (.func 49) #[] #[.pointer (some ⟨bs, 0, none⟩), .pointer (some ⟨bi, 0, none⟩)]] w fun e w' => ∃ k : Nat, At (tab l) id k ∧ e = .returned (.int .i64 (k : Int)) ∧ Below w.heap.size w w' := by
  have HP := Lib.hid (fun (W : World) (hW : Below w.heap.size w W) (i : Nat) (x : PP) (hx : l[i]? = some x) => pred_c (h.on hW) ((Kept.below (S := fun _ => False) hW).cell hs (fun e => e)) ((Kept.below (S := fun _ => False) hW).cell hi (fun e => e)) hx)
  have HT := Lib.hid ht
  obtain ⟨L, hL⟩ : ∃ L, L = l.length := ⟨_, rfl⟩
  have HL := Lib.hid hL
  rw [← hL] at hn ⊢
  clear h hs hi ht hL
  go_enter Try.func48, Try.ntmps48
  go_wp2_with fail
  go_loopw [5, 6] (fun v5 v6 wr => ∃ lo hi : Nat, v5 = .int .i64 (lo : Int) ∧ v6 = .int .i64 (hi : Int) ∧ lo ≤ hi ∧ hi ≤ L ∧ Hid ((∀ i x, i < lo → (tab l)[i]? = some x → x.id < id) ∧ (∀ i x, hi ≤ i → (tab l)[i]? = some x → id ≤ x.id)) ∧ Below w.heap.size w wr) (fun v5 v6 _ => (intOf v6 - intOf v5).toNat)
  case atStart => exact ⟨0, L, rfl, rfl, Nat.zero_le _, Nat.le_refl _, Lib.hid (show (∀ i x, i < 0 → (tab l)[i]? = some x → x.id < id) ∧ (∀ i x, L ≤ i → (tab l)[i]? = some x → id ≤ x.id) from ⟨fun i x hi => absurd hi (Nat.not_lt_zero _), fun i x hi hx => by have := (List.getElem?_eq_some_iff.1 hx).1; rw [tab_length] at this; have := HL.out; omega⟩), Below.refl _ _⟩
  case round =>
    obtain ⟨lo, hi, rfl, rfl, h1, h2, h3, hb⟩ := hrel
    by_cases hlt : lo < hi
    · have hlt' : (lo : Int) < (hi : Int) := by omega
      obtain ⟨k, hk⟩ : ∃ k : Nat, k = (lo + hi) / 2 := ⟨_, rfl⟩
      have hkk : ((lo : Int) + (hi : Int)) / 2 = (k : Int) := by omega
      have hk1 : lo ≤ k := by omega
      have hk2 : k < hi := by omega
      clear hk
      obtain ⟨x, hx⟩ : ∃ x, l[k]? = some x := ⟨l[k]'(by have := HL.out; omega), List.getElem?_eq_getElem _⟩
      have hq := HP.out wr hb k x hx
      have HX := Lib.hid (tab_get hx)
      have HB := Lib.hid hb
      clear hx hb
      by_cases hid : id ≤ x.p.id
      · rw [decide_eq_true hid] at hq
        have Q := Lib.hid hq
        have HN := Lib.hid (show (∀ i y, i < lo → (tab l)[i]? = some y → y.id < id) ∧ (∀ i y, k ≤ i → (tab l)[i]? = some y → id ≤ y.id) from ⟨h3.out.1, fun i y hi hy => Int.le_trans hid (HT.out.mono hi HX.out hy)⟩)
        clear hq hid
        go_wp2_with (go_at_call 49; refine Q.out.mono ?_; rintro e w1 ⟨rfl, hb2⟩)
        go_roundw
        case rel => exact ⟨lo, k, rfl, rfl, by omega, by omega, HN, HB.out.trans (hb2.mono HB.out.size)⟩
        case measure => (simp only [intOf]; omega)
      · rw [decide_eq_false hid] at hq
        have Q := Lib.hid hq
        have HN := Lib.hid (show (∀ i y, i < k + 1 → (tab l)[i]? = some y → y.id < id) ∧ (∀ i y, hi ≤ i → (tab l)[i]? = some y → id ≤ y.id) from ⟨fun i y hi hy => by have := HT.out.mono (Nat.le_of_lt_succ hi) hy HX.out; omega, h3.out.2⟩)
        clear hq hid
        go_wp2_with (go_at_call 49; refine Q.out.mono ?_; rintro e w1 ⟨rfl, hb2⟩)
        go_roundw
        case rel => exact ⟨k + 1, hi, by go_num, rfl, by omega, h2, HN, HB.out.trans (hb2.mono HB.out.size)⟩
        case measure => (simp only [intOf]; omega)
    · obtain rfl : hi = lo := by omega
      have hlt' : ¬ (hi : Int) < (hi : Int) := by omega
      go_wp2_with fail
      go_ret
      exact ⟨hi, ⟨by rw [tab_length, ← HL.out]; exact h2, h3.out.1, h3.out.2⟩, rfl, hb⟩
end Go.Proofs.Ytmgpfkckafdbmaa
