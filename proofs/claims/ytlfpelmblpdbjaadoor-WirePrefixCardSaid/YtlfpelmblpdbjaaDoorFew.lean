/-
  few says exactly whether there are at most 20 values with at most 400 bytes and elements altogether.
-/
import Derived.Test.YtlfpelmblpdbjaaDoorBack
namespace Go.Proofs.YtlfpelmblpdbjaaDoor
open Go Go.RowKit Go.Sort Wire

theorem not_few {p : Prop} (h : ¬ p) : (false = true ↔ p) := ⟨(fun h0 => by cases h0), (fun h0 => absurd h0 h)⟩
theorem texts_get {t : List (List UInt8)} {m : Nat} {y : List UInt8} (h : t[m]? = some y) : y.length ≤ texts t := by
  have key : ∀ t : List (List UInt8), y ∈ t → y.length ≤ texts t := by
    intro t
    induction t with
    | nil => intro h; cases h
    | cons s t ih =>
      intro h
      rw [texts_cons]
      rcases List.mem_cons.1 h with rfl | h
      · omega
      · have := ih h; omega
  exact key t (List.mem_of_getElem? h)
def FewExact (vs : List Val) (w : World) (e : Ending) (w' : World) : Prop := ∃ b : Bool, e = .returned (.bool b) ∧ (b = true ↔ vs.length ≤ 20 ∧ total vs ≤ 400) ∧ Below w.heap.size w w'

set_option maxHeartbeats 1000000 in
set_option maxRecDepth 100000 in
theorem few_x (vs : List Val) (v : Value) (w : World) (hv : ValsAt w v vs) : Calls Tryd.prog 10 #[v] w (FewExact vs w) := by
  obtain ⟨h0, a, cap, rfl, hcells⟩ := hv
  have HC := Lib.hid hcells
  clear hcells
  by_cases h20 : 20 < vs.length
  · go_enter Tryd.func10, Tryd.ntmps10
    go_wp2_with fail
    go_ret
    exact ⟨false, rfl, not_few (fun h => absurd h.1 (by omega)), Below.refl _ _⟩
  · go_enter Tryd.func10, Tryd.ntmps10
    go_wp2_with fail
    go_loopw [3, 4] (fun s i wr => ∃ k : Nat, k ≤ vs.length ∧ i = .int .i64 k ∧ s = .int .i64 (total (vs.take k)) ∧ total (vs.take k) ≤ 161200 * k ∧ Below w.heap.size w wr) (fun _ i _ => vs.length - (intOf i).toNat)
    case atStart => exact ⟨0, Nat.zero_le _, rfl, rfl, by simp [total], Below.refl _ _⟩
    case round =>
      obtain ⟨k, hk, rfl, rfl, htk, hbk⟩ := hrel
      by_cases hlt : k < vs.length
      · obtain ⟨x, hx⟩ : ∃ x, vs[k]? = some x := ⟨vs[k], List.getElem?_eq_getElem hlt⟩
        obtain ⟨b, off, rfl, hc⟩ := HC.out (by intro h; subst h; simp at hlt)
        obtain ⟨v3, v4, hat, c0, c1, c2, c3, c4⟩ := hc k x hx
        have d2 : wr.cell? ⟨b, off + k * 5 + 2, none⟩ = some (.string ⟨x.s.toArray⟩) := by rw [hbk.cell (lt_of_cell c2)]; exact c2
        have d3 : wr.cell? ⟨b, off + k * 5 + 3, none⟩ = some v3 := by rw [hbk.cell (lt_of_cell c3)]; exact c3
        have d4 : wr.cell? ⟨b, off + k * 5 + 4, none⟩ = some v4 := by rw [hbk.cell (lt_of_cell c4)]; exact c4
        have hl := hat.l.on hbk (Nat.le_refl _)
        have ht := hat.t.on hbk (Nat.le_refl _)
        obtain ⟨l0, al, cl, rfl, hlc⟩ := hl
        obtain ⟨t0, atx, ct, rfl, htc⟩ := ht
        have e1 : (ints x.l).length = x.l.length := by simp [ints]
        have e2 : (strs x.t).length = x.t.length := by simp [strs]
        rw [e1] at d3 l0
        rw [e2] at d4 t0
        have HL := Lib.hid hlc
        have HT := Lib.hid htc
        have hxs : x.l.length ≤ total vs ∧ x.t.length ≤ total vs ∧ x.s.length ≤ total vs ∧ texts x.t ≤ total vs := by have := total_get hx; unfold Val.size at this; omega
        have HXS := Lib.hid hxs
        have HX := Lib.hid hx
        clear hxs
        clear hlc htc hx hc c0 c1 c2 c3 c4 e1 e2 HC hat
        by_cases g1 : x.l.length ≤ 400
        · by_cases g2 : x.t.length ≤ 400
          · by_cases g3 : x.s.length ≤ 400
            · go_wp2_with fail
              go_quiet (fail)
              go_wp2_with fail
              have hxb : total (vs.take k) + x.s.length + x.l.length + x.t.length ≤ 161200 * k + 1200 := by omega
              go_loop [3, 5] (fun s j => ∃ m : Nat, m ≤ x.t.length ∧ j = .int .i64 m ∧ s = .int .i64 (total (vs.take k) + x.s.length + x.l.length + x.t.length + texts (x.t.take m)) ∧ texts (x.t.take m) ≤ 400 * m) (fun _ j => x.t.length - (intOf j).toNat)
              case atStart => exact ⟨0, Nat.zero_le _, rfl, by simp [texts], by simp [texts]⟩
              case round =>
                obtain ⟨m, hm, rfl, rfl, hmb⟩ := hrel
                by_cases hmt : m < x.t.length
                · obtain ⟨y, hy⟩ : ∃ y, x.t[m]? = some y := ⟨x.t[m], List.getElem?_eq_getElem hmt⟩
                  obtain ⟨bt, offt, rfl, hct⟩ := HT.out (by intro h; have := congrArg List.length h; simp [strs] at this; rw [this] at hmt; simp at hmt)
                  have ey := hct m _ (strs_get hy)
                  have HY := Lib.hid (texts_take x.t m y hy)
                  have HYL := Lib.hid (texts_get hy)
                  clear hct hy HT
                  by_cases hy4 : y.length ≤ 400
                  · go_wp2_with fail
                    go_round
                    case rel => exact ⟨m + 1, by omega, by go_num, by rw [HY.out]; go_num, by rw [HY.out]; omega⟩
                    case measure => simp [intOf]; omega
                  · go_wp2_with fail
                    go_ret
                    exact ⟨false, rfl, not_few (fun h => by have h1 := HXS.out; have h2 := HYL.out; omega), hbk.trans (Below.drewN' _ _ _)⟩
                · obtain rfl : m = x.t.length := by omega
                  have HZ := Lib.hid (total_take vs k x HX.out)
                  have HW : Hid (texts (x.t.take x.t.length) = texts x.t) := Lib.hid (by rw [List.take_length])
                  go_wp2_with fail
                  go_roundw
                  case rel => exact ⟨k + 1, by omega, by go_num, int_eq (by have h1 := HZ.out; have h2 := HW.out; unfold Val.size at h1; omega), by have h1 := HZ.out; have h2 := HW.out; unfold Val.size at h1; omega, hbk.trans (Below.drewN' _ _ _)⟩
                  case measure => simp [intOf]; omega
            · go_wp2_with fail
              go_ret
              exact ⟨false, rfl, not_few (fun h => by have h1 := HXS.out; omega), hbk⟩
          · go_wp2_with fail
            all_goals go_ret
            all_goals exact ⟨false, rfl, not_few (fun h => by have h1 := HXS.out; omega), hbk⟩
        · go_wp2_with fail
          all_goals go_ret
          all_goals exact ⟨false, rfl, not_few (fun h => by have h1 := HXS.out; omega), hbk⟩
      · obtain rfl : k = vs.length := by omega
        go_wp2_with fail
        go_ret
        refine ⟨_, rfl, ⟨(fun h => ?_), (fun h => ?_)⟩, hbk⟩
        · have h4 : (total vs : Int) ≤ 400 := by simpa using h
          exact ⟨by omega, by omega⟩
        · have h4 : (total vs : Int) ≤ 400 := by omega
          simpa using h4

theorem few_t (vs : List Val) (h : vs.length ≤ 20 ∧ total vs ≤ 400) (v : Value) (w : World) (hv : ValsAt w v vs) : Calls Tryd.prog 10 #[v] w fun e w' => e = .returned (.bool true) ∧ Below w.heap.size w w' :=
  (few_x vs v w hv).mono fun e w' ⟨b, he, hb, hbl⟩ => ⟨by rw [he, hb.2 h], hbl⟩
theorem few_f (vs : List Val) (h : ¬ (vs.length ≤ 20 ∧ total vs ≤ 400)) (v : Value) (w : World) (hv : ValsAt w v vs) : Calls Tryd.prog 10 #[v] w fun e w' => e = .returned (.bool false) ∧ Below w.heap.size w w' :=
  (few_x vs v w hv).mono fun e w' ⟨b, he, hb, hbl⟩ => ⟨by
    cases b with
    | false => exact he
    | true => exact absurd (hb.1 rfl) h, hbl⟩
end Go.Proofs.YtlfpelmblpdbjaaDoor
