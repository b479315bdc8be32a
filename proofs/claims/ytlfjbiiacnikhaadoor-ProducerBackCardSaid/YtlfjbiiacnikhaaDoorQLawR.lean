/-
  few; the reference's Right.
-/
import Derived.Test.YtlfjbiiacnikhaaDoorQLawS
namespace Go.Proofs.YtlfjbiiacnikhaaDoor
set_option maxRecDepth 100000
open Go Go.RowKit Pq

def Few (l : List PP) : Prop := l.length ≤ 60 ∧ ∀ x ∈ l, x.p.last.length ≤ 30
instance (l : List PP) : Decidable (Few l) := by unfold Few; infer_instance
set_option maxHeartbeats 1000000 in
theorem few_c {G : Nat → Prop} {w : World} {a : Option Addr} {c : Nat} {l : List PP} (h : Src G w a c l.length (ppsV l)) (hn : l.length ≤ 9223372036854775807) (hd : ∀ x ∈ l, x.p.last.length ≤ 9223372036854775807) :
    Calls Tryd.prog 5 #[.slice a l.length c] w fun r w' => r = .returned (.bool (decide (Few l))) ∧ w' = w := by
  obtain ⟨L, hL⟩ : ∃ L, L = l.length := ⟨_, rfl⟩
  have HL := Lib.hid hL
  have HS := Lib.hid h
  have HD := Lib.hid hd
  rw [← hL] at hn ⊢
  clear h hL hd
  go_enter Tryd.func5, Tryd.ntmps5
  go_wp2_with fail
  go_loopw [3] (fun v3 wr => ∃ k : Nat, k ≤ L ∧ k ≤ 100 ∧ v3 = .int .i64 (k : Int) ∧ Hid (∀ i x, i < k → l[i]? = some x → x.p.last.length ≤ 30) ∧ w = wr) (fun v3 _ => L - (intOf v3).toNat)
  case atStart => exact ⟨0, Nat.zero_le _, Nat.zero_le _, rfl, Lib.hid (show ∀ i x, i < 0 → l[i]? = some x → x.p.last.length ≤ 30 from fun i x hi => absurd hi (Nat.not_lt_zero _)), rfl⟩
  case round =>
    obtain ⟨k, hk, hk2, rfl, HF, rfl⟩ := hrel
    by_cases hkl : k < L
    · have hkl' : (k : Int) < (L : Int) := by omega
      by_cases h100 : k < 100
      · have h100' : (k : Int) < 100 := by omega
        obtain ⟨x, hx⟩ : ∃ x, l[k]? = some x := ⟨l[k]'(by have := HL.out; omega), List.getElem?_eq_getElem _⟩
        obtain ⟨b, off, rfl, hc⟩ := pp_cells HS.out rfl hx
        have c3 := hc.c3
        have hxl := HD.out x (List.mem_of_getElem? hx)
        have HX := Lib.hid hx
        clear hx hc
        by_cases h1 : 30 < x.p.last.length
        · have h1' : (30 : Int) < (x.p.last.length : Int) := by omega
          have HFF := Lib.hid (show decide (Few l) = false from decide_eq_false (fun f => by have := f.2 x (List.mem_of_getElem? HX.out); omega))
          go_wp2_with fail
          go_ret
          exact ⟨by rw [HFF.out]; rfl, rfl⟩
        · have h1' : ¬ (30 : Int) < (x.p.last.length : Int) := by omega
          have HN := Lib.hid (show ∀ i x, i < k + 1 → l[i]? = some x → x.p.last.length ≤ 30 from fun i y hi hy => by
            by_cases e : i = k
            · subst e
              rw [HX.out] at hy
              injection hy with hy
              rw [← hy]
              omega
            · exact HF.out i y (by omega) hy)
          go_wp2_with fail
          go_roundw
          case rel => exact ⟨k + 1, hkl, h100, by go_num, HN, trivial⟩
          case measure => simp [intOf]; omega
      · have h100' : ¬ (k : Int) < 100 := by omega
        have h60 : ¬ (L : Int) ≤ 60 := by omega
        have HFF := Lib.hid (show decide (Few l) = false from decide_eq_false (fun f => by have := f.1; have := HL.out; omega))
        go_wp2_with fail
        go_ret
        exact ⟨by rw [HFF.out]; rfl, rfl⟩
    · have hkl' : ¬ (k : Int) < (L : Int) := by omega
      go_wp2_with fail
      go_ret
      refine ⟨?_, rfl⟩
      have e : decide (Few l) = decide ((L : Int) ≤ 60) := decide_eq_decide.2 ⟨fun f => by have := f.1; have := HL.out; omega, fun f => ⟨by have := HL.out; omega, fun x hx => by
        obtain ⟨i, hi⟩ := List.getElem?_of_mem hx
        exact HF.out i x (by have := (List.getElem?_eq_some_iff.1 hi).1; have := HL.out; omega) hi⟩⟩
      rw [e]
      rfl
theorem in_c (n : Int) (w : World) : Calls Tryd.prog 27 #[.int .i64 n] w fun e w' => e = .returned (.bool (decide (inB n))) ∧ w' = w := by
  by_cases h : 0 ≤ n
  · by_cases h2 : n ≤ 1099511627776
    · have e : decide (inB n) = true := decide_eq_true ⟨h, h2⟩
      rw [e]
      clear e
      go_enter Tryd.func27, Tryd.ntmps27
      go_wp2_with fail
      go_ret
      exact ⟨rfl, rfl⟩
    · have e : decide (inB n) = false := decide_eq_false (fun f => h2 f.2)
      rw [e]
      clear e
      go_enter Tryd.func27, Tryd.ntmps27
      go_wp2_with fail
      go_ret
      exact ⟨rfl, rfl⟩
  · have e : decide (inB n) = false := decide_eq_false (fun f => h f.1)
    rw [e]
    clear e
    go_enter Tryd.func27, Tryd.ntmps27
    go_wp2_with fail
    go_ret
    exact ⟨rfl, rfl⟩
set_option maxHeartbeats 4000000 in
theorem refRight_c {w : World} {a : Option Addr} {c : Nat} {l : List PP} (h : Tb (fun _ => True) w a c l) (hn : l.length ≤ 60) (hd : ∀ x ∈ l, x.p.last.length ≤ 30) :
    Calls Tryd.prog 9 #[.slice a l.length c] w fun r w' => r = .returned (.bool (decide (Right (tab l)))) ∧ Below w.heap.size w w' := by
  obtain ⟨L, hL⟩ : ∃ L, L = l.length := ⟨_, rfl⟩
  have HL := Lib.hid hL
  by_cases h50 : 50 < L
  · have HF := Lib.hid (show decide (Right (tab l)) = false from decide_eq_false (fun f => by have := f.1; rw [tab_length] at this; omega))
    rw [← hL] at hn ⊢
    have h50' : (50 : Int) < (L : Int) := by omega
    clear hL h
    go_enter Tryd.func9, Tryd.ntmps9
    go_wp2_with fail
    go_ret
    exact ⟨by rw [HF.out]; rfl, Below.refl _ _⟩
  · have HT := Lib.hid (show Right (tab l) ↔ Tab (-1) (tab l) from ⟨fun f => f.2, fun f => ⟨by rw [tab_length]; omega, f⟩⟩)
    have HS := Lib.hid (fun (W : World) (hW : Below w.heap.size w W) => h.on hW)
    have HD := Lib.hid hd
    rw [← hL] at hn ⊢
    have h50' : ¬ (50 : Int) < (L : Int) := by omega
    clear h hL hd
    go_enter Tryd.func9, Tryd.ntmps9
    go_wp2_with fail
    go_loopw [3, 4] (fun v3 v4 wr => ∃ (k : Nat) (p : Int), k ≤ L ∧ v3 = .int .i64 p ∧ v4 = .int .i64 (k : Int) ∧ Hid (Tab (-1) (tab l) ↔ Tab p ((tab l).drop k)) ∧ Hid (Below w.heap.size w wr)) (fun _ v4 _ => L - (intOf v4).toNat)
    case atStart => exact ⟨0, -1, Nat.zero_le _, rfl, rfl, Lib.hid Iff.rfl, Lib.hid (Below.refl _ _)⟩
    case round =>
      obtain ⟨k, p, hk, rfl, rfl, hs, hb⟩ := hrel
      by_cases hkl : k < L
      · have hkl' : (k : Int) < (L : Int) := by omega
        obtain ⟨x, hx⟩ : ∃ x, l[k]? = some x := ⟨l[k]'(by have := HL.out; omega), List.getElem?_eq_getElem _⟩
        obtain ⟨b, off, rfl, hc⟩ := pp_cells (HS.out wr hb.out).row rfl hx
        have c0 := hc.c0
        have c1 := hc.c1
        have c2 := hc.c2
        have c3 := hc.c3
        obtain ⟨W1, hW1⟩ : ∃ W1, W1 = wr.alloc x.obj := ⟨_, rfl⟩
        have hb1 : Below wr.heap.size wr W1 := by rw [hW1]; exact below_new wr _
        have hx1 : x.at W1 wr.heap.size := by rw [hW1]; exact box_new wr _
        have hxm : x ∈ l := List.mem_of_getElem? hx
        have HOK := Lib.hid (((HS.out wr hb.out).last x hxm).on hb1)
        have hll := HD.out x hxm
        have HA := Lib.hid (hs.out.trans (tab_drop (tab_get hx) p))
        have HB := Lib.hid (hb.out.trans (hb1.mono hb.out.size))
        have hd1 := hx1.cells
        have d0 := hd1.c0
        have d1 := hd1.c1
        have d2 := hd1.c2
        have d3 := hd1.c3
        have QI := Lib.hid (fun n => in_c n W1)
        obtain ⟨⟨i, ep, nx, last⟩, xa, xc⟩ := x
        unfold PP.obj at hW1
        dsimp only at *
        have HO := Lib.hid (okP_iff ⟨i, ep, nx, last⟩)
        clear hx hb1 hx1 hc hxm hd1
        by_cases g1 : i ≤ p
        · have HF := Lib.hid (show decide (Right (tab l)) = false from decide_eq_false (fun f => by have := (HA.out.1 (HT.out.1 f)).1; omega))
          go_upto_region 8 with fail
          rw [← hW1]
          clear hW1 c0 c1 c2 c3
          go_wp2_with fail
          go_ret
          exact ⟨by rw [HF.out]; rfl, HB.out⟩
        · have HG1 := Lib.hid (show p < i by omega)
          cases q1 : decide (inB i) with
          | false =>
            have D1 := Lib.hid q1
            clear q1
            have HF := Lib.hid (show decide (Right (tab l)) = false from decide_eq_false (fun f => absurd (HA.out.1 (HT.out.1 f)).2.1.1 (of_decide_eq_false D1.out)))
            go_upto_region 8 with fail
            rw [← hW1]
            clear hW1 c0 c1 c2 c3
            go_wp2_with (go_at_call 27; refine (QI.out _).mono ?_; rintro r w1 ⟨rfl, hw⟩; rw [hw]; clear hw; first | rw [D1.out])
            go_ret
            exact ⟨by rw [HF.out]; rfl, HB.out⟩
          | true =>
            have D1 := Lib.hid q1
            clear q1
            cases q2 : decide (inB ep) with
            | false =>
              have D2 := Lib.hid q2
              clear q2
              have HF := Lib.hid (show decide (Right (tab l)) = false from decide_eq_false (fun f => absurd (HO.out.1 (HA.out.1 (HT.out.1 f)).2.1.2).1 (of_decide_eq_false D2.out)))
              go_upto_region 8 with fail
              rw [← hW1]
              clear hW1 c0 c1 c2 c3
              go_wp2_with (go_at_call 27; refine (QI.out _).mono ?_; rintro r w1 ⟨rfl, hw⟩; rw [hw]; clear hw; first | rw [D1.out] | rw [D2.out])
              go_ret
              exact ⟨by rw [HF.out]; rfl, HB.out⟩
            | true =>
              have D2 := Lib.hid q2
              clear q2
              cases q3 : decide (inB nx) with
              | false =>
                have D3 := Lib.hid q3
                clear q3
                have HF := Lib.hid (show decide (Right (tab l)) = false from decide_eq_false (fun f => absurd (HO.out.1 (HA.out.1 (HT.out.1 f)).2.1.2).2.1 (of_decide_eq_false D3.out)))
                go_upto_region 8 with fail
                rw [← hW1]
                clear hW1 c0 c1 c2 c3
                go_wp2_with (go_at_call 27; refine (QI.out _).mono ?_; rintro r w1 ⟨rfl, hw⟩; rw [hw]; clear hw; first | rw [D1.out] | rw [D2.out] | rw [D3.out])
                go_ret
                exact ⟨by rw [HF.out]; rfl, HB.out⟩
              | true =>
                have D3 := Lib.hid q3
                clear q3
                by_cases g2 : (last.length : Int) = min nx 20
                · have HG2 := Lib.hid g2
                  go_upto_region 8 with fail
                  rw [← hW1]
                  clear hW1 c0 c1 c2 c3
                  go_wp2_with (go_at_call 27; refine (QI.out _).mono ?_; rintro r w1 ⟨rfl, hw⟩; rw [hw]; clear hw; first | rw [D1.out] | rw [D2.out] | rw [D3.out])
                  go_loopw [6, 7] (fun v6 v7 w2 => ∃ (j : Nat) (q : Int), j ≤ last.length ∧ v6 = .int .i64 q ∧ v7 = .int .i64 (j : Int) ∧ Hid (Asc (-1) last ↔ Asc q (last.drop j)) ∧ W1 = w2) (fun _ v7 _ => last.length - (intOf v7).toNat)
                  case atStart => exact ⟨0, -1, Nat.zero_le _, rfl, rfl, Lib.hid Iff.rfl, rfl⟩
                  case round =>
                    obtain ⟨j, q, hj, rfl, rfl, hA, rfl⟩ := hrel
                    by_cases hjl : j < last.length
                    · have hjl' : (j : Int) < (last.length : Int) := by omega
                      obtain ⟨y, hy⟩ : ∃ y, last[j]? = some y := ⟨last[j], List.getElem?_eq_getElem hjl⟩
                      obtain ⟨b2, off2, rfl, m0⟩ := num_cell HOK.out rfl hy
                      have HA2 := Lib.hid (hA.out.trans (asc_drop hy q))
                      clear hy
                      by_cases k1 : y ≤ q
                      · have HF := Lib.hid (show decide (Right (tab l)) = false from decide_eq_false (fun f => by have := (HA2.out.1 (HO.out.1 (HA.out.1 (HT.out.1 f)).2.1.2).2.2.2).1; omega))
                        go_wp2_with fail
                        go_ret
                        exact ⟨by rw [HF.out]; rfl, HB.out⟩
                      · cases q4 : decide (inB y) with
                        | false =>
                          have D4 := Lib.hid q4
                          have HF := Lib.hid (show decide (Right (tab l)) = false from decide_eq_false (fun f => of_decide_eq_false q4 (HA2.out.1 (HO.out.1 (HA.out.1 (HT.out.1 f)).2.1.2).2.2.2).2.1))
                          clear q4
                          go_wp2_with (go_at_call 27; refine (QI.out _).mono ?_; rintro r w1 ⟨rfl, hw⟩; rw [hw]; clear hw; rw [D4.out])
                          go_ret
                          exact ⟨by rw [HF.out]; rfl, HB.out⟩
                        | true =>
                          have D4 := Lib.hid q4
                          have HN := Lib.hid (show Asc (-1) last ↔ Asc y (last.drop (j + 1)) from HA2.out.trans ⟨fun f => f.2.2, fun f => ⟨by omega, of_decide_eq_true q4, f⟩⟩)
                          clear q4
                          go_wp2_with (go_at_call 27; refine (QI.out _).mono ?_; rintro r w1 ⟨rfl, hw⟩; rw [hw]; clear hw; rw [D4.out])
                          go_roundw
                          case rel => exact ⟨j + 1, y, hjl, rfl, by go_num, HN, trivial⟩
                          case measure => simp [intOf]; omega
                    · have hjl' : ¬ (j : Int) < (last.length : Int) := by omega
                      have HN := Lib.hid (show Tab (-1) (tab l) ↔ Tab i ((tab l).drop (k + 1)) from HA.out.trans ⟨fun f => f.2.2, fun f => ⟨HG1.out, ⟨of_decide_eq_true D1.out, HO.out.2 ⟨of_decide_eq_true D2.out, of_decide_eq_true D3.out, HG2.out, hA.out.2 (by rw [List.drop_eq_nil_of_le (by omega)]; trivial)⟩⟩, f⟩⟩)
                      go_wp2_with fail
                      go_roundw
                      case rel => exact ⟨k + 1, i, hkl, rfl, by go_num, HN, HB⟩
                      case measure => simp [intOf]; omega
                · have HF := Lib.hid (show decide (Right (tab l)) = false from decide_eq_false (fun f => g2 (HO.out.1 (HA.out.1 (HT.out.1 f)).2.1.2).2.2.1))
                  go_upto_region 8 with fail
                  rw [← hW1]
                  clear hW1 c0 c1 c2 c3
                  go_wp2_with (go_at_call 27; refine (QI.out _).mono ?_; rintro r w1 ⟨rfl, hw⟩; rw [hw]; clear hw; first | rw [D1.out] | rw [D2.out] | rw [D3.out])
                  go_ret
                  exact ⟨by rw [HF.out]; rfl, HB.out⟩
      · have hkl' : ¬ (k : Int) < (L : Int) := by omega
        have HF := Lib.hid (show decide (Right (tab l)) = true from decide_eq_true (HT.out.2 (hs.out.2 (by rw [List.drop_eq_nil_of_le (by rw [tab_length]; have := HL.out; omega)]; trivial))))
        go_wp2_with fail
        go_ret
        exact ⟨by rw [HF.out]; rfl, hb.out⟩
end Go.Proofs.YtlfjbiiacnikhaaDoor
