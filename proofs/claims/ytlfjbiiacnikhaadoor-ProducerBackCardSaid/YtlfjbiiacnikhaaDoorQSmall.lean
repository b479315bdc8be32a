/-
  What the small functions of package producer return: within, named, ascending, right, Right, stored, follows.
-/
import Derived.Test.YtlfjbiiacnikhaaDoorQBase
import Derived.Lib.MinMax
namespace Go.Proofs.YtlfjbiiacnikhaaDoor
set_option maxRecDepth 100000
open Go Go.RowKit Pq

theorem within_c (n : Int) (w : World) : Calls Tryd.prog 29 #[.int .i64 n] w fun e w' => e = .returned (.bool (decide (inB n))) ∧ w' = w := by
  by_cases h : 0 ≤ n
  · by_cases h2 : n ≤ 1099511627776
    · have e : decide (inB n) = true := decide_eq_true ⟨h, h2⟩
      rw [e]
      clear e
      go_enter Tryd.func29, Tryd.ntmps29
      go_wp2_with fail
      go_ret
      exact ⟨rfl, rfl⟩
    · have e : decide (inB n) = false := decide_eq_false (fun f => h2 f.2)
      rw [e]
      clear e
      go_enter Tryd.func29, Tryd.ntmps29
      go_wp2_with fail
      go_ret
      exact ⟨rfl, rfl⟩
  · have e : decide (inB n) = false := decide_eq_false (fun f => h f.1)
    rw [e]
    clear e
    go_enter Tryd.func29, Tryd.ntmps29
    go_wp2_with fail
    go_ret
    exact ⟨rfl, rfl⟩
theorem named_c (n : Int) (w : World) : Calls Tryd.prog 34 #[.int .i64 n] w fun e w' => e = .returned (.bool (decide (inA n))) ∧ w' = w := by
  have q := within_c n w
  by_cases h : inB n
  · rw [decide_eq_true h] at q
    have Q := Lib.hid q
    clear q
    by_cases h2 : n < 1099511627776
    · have e : decide (inA n) = true := decide_eq_true ⟨h.1, by omega⟩
      rw [e]
      clear e h
      go_enter Tryd.func34, Tryd.ntmps34
      go_wp2_with (go_at_call 29; refine Q.out.mono ?_; rintro e w1 ⟨rfl, hw⟩; rw [hw]; clear hw)
      go_ret
      exact ⟨rfl, rfl⟩
    · have e : decide (inA n) = false := decide_eq_false (fun f => h2 (by have := f.2; omega))
      rw [e]
      clear e h
      go_enter Tryd.func34, Tryd.ntmps34
      go_wp2_with (go_at_call 29; refine Q.out.mono ?_; rintro e w1 ⟨rfl, hw⟩; rw [hw]; clear hw)
      go_ret
      exact ⟨by rw [decide_eq_false (show ¬ n < 1099511627776 by omega)]; rfl, rfl⟩
  · rw [decide_eq_false h] at q
    have Q := Lib.hid q
    clear q
    have e : decide (inA n) = false := decide_eq_false (fun f => h ⟨f.1, by have := f.2; omega⟩)
    rw [e]
    clear e h
    go_enter Tryd.func34, Tryd.ntmps34
    go_wp2_with (go_at_call 29; refine Q.out.mono ?_; rintro e w1 ⟨rfl, hw⟩; rw [hw]; clear hw)
    go_ret
    exact ⟨rfl, rfl⟩
instance : ∀ (m : Int) (l : List Int), Decidable (Asc m l)
  | _, [] => isTrue trivial
  | m, x :: l => by
    have := instDecidableAsc x l
    unfold Asc
    infer_instance
theorem asc_drop {l : List Int} {k : Nat} {x : Int} (hx : l[k]? = some x) (m : Int) : Asc m (l.drop k) ↔ m < x ∧ inB x ∧ Asc x (l.drop (k + 1)) := by
  obtain ⟨h1, h2⟩ := List.getElem?_eq_some_iff.1 hx
  rw [List.drop_eq_getElem_cons h1, h2]
  exact Iff.rfl
theorem ascending_c {G : Nat → Prop} {w : World} {a : Option Addr} {c : Nat} {l : List Int} (h : Src G w a c l.length (numsV l)) (hn : l.length ≤ 9223372036854775807) :
    Calls Tryd.prog 44 #[.slice a l.length c] w fun e w' => e = .returned (.bool (decide (Asc (-1) l))) ∧ w' = w := by
  obtain ⟨L, hL⟩ : ∃ L, L = l.length := ⟨_, rfl⟩
  have HS := Lib.hid h
  have HL := Lib.hid hL
  have Q := Lib.hid within_c
  rw [← hL] at hn ⊢
  clear h hL
  go_enter Tryd.func44, Tryd.ntmps44
  go_wp2_with fail
  go_loopw [3, 8] (fun v3 v8 wr => ∃ (k : Nat) (p : Int), k ≤ L ∧ v3 = .int .i64 p ∧ v8 = .int .i64 (k : Int) ∧ (Asc (-1) l ↔ Asc p (l.drop k)) ∧ w = wr) (fun _ v8 _ => L - (intOf v8).toNat)
  case atStart => exact ⟨0, -1, Nat.zero_le _, rfl, rfl, Iff.rfl, rfl⟩
  case round =>
    obtain ⟨k, p, hk, rfl, rfl, hs, rfl⟩ := hrel
    by_cases hkl : k < L
    · have hkl' : (k : Int) < (L : Int) := by omega
      obtain ⟨x, hx⟩ : ∃ x, l[k]? = some x := ⟨l[k]'(by have := HL.out; omega), List.getElem?_eq_getElem _⟩
      obtain ⟨b, off, rfl, c0⟩ := num_cell HS.out rfl hx
      have HA := Lib.hid (hs.trans (asc_drop hx p))
      clear hs hx
      by_cases h1 : x ≤ p
      · have HF := Lib.hid (show decide (Asc (-1) l) = false from decide_eq_false (fun f => by have := (HA.out.1 f).1; omega))
        go_wp2_with fail
        go_ret
        exact ⟨by rw [HF.out]; rfl, rfl⟩
      · by_cases h2 : inB x
        · have q := Q.out x w
          rw [decide_eq_true h2] at q
          have Q2 := Lib.hid q
          have HA2 := Lib.hid (show Asc (-1) l ↔ Asc x (l.drop (k + 1)) from HA.out.trans ⟨fun f => f.2.2, fun f => ⟨by omega, h2, f⟩⟩)
          clear h2 q
          go_wp2_with (go_at_call 29; refine Q2.out.mono ?_; rintro e w1 ⟨rfl, hw⟩; rw [hw]; clear hw)
          go_roundw
          case rel => exact ⟨k + 1, x, hkl, rfl, by go_num, HA2.out, trivial⟩
          case measure => simp [intOf]; omega
        · have HF := Lib.hid (show decide (Asc (-1) l) = false from decide_eq_false (fun f => h2 (HA.out.1 f).2.1))
          have q := Q.out x w
          rw [decide_eq_false h2] at q
          have Q2 := Lib.hid q
          clear h2 q
          go_wp2_with (go_at_call 29; refine Q2.out.mono ?_; rintro e w1 ⟨rfl, hw⟩; rw [hw]; clear hw)
          go_ret
          exact ⟨by rw [HF.out]; rfl, rfl⟩
    · have hkl' : ¬ (k : Int) < (L : Int) := by omega
      have HF := Lib.hid (show decide (Asc (-1) l) = true from decide_eq_true (hs.2 (by rw [List.drop_eq_nil_of_le (by have := HL.out; omega)]; trivial)))
      clear hs
      go_wp2_with fail
      go_ret
      exact ⟨by rw [HF.out]; rfl, rfl⟩
theorem okP_iff (p : P) : OkP p ↔ inB p.ep ∧ inB p.nx ∧ (p.last.length : Int) = min p.nx 20 ∧ Asc (-1) p.last := ⟨fun h => ⟨h.ep, h.nx, h.len, h.asc⟩, fun h => ⟨h.1, h.2.1, h.2.2.1, h.2.2.2⟩⟩
instance (p : P) : Decidable (OkP p) := decidable_of_iff _ (okP_iff p).symm
instance : ∀ (m : Int) (s : List P), Decidable (Tab m s)
  | _, [] => isTrue trivial
  | m, p :: s => by
    have := instDecidableTab p.id s
    unfold Tab
    infer_instance
instance (s : List P) : Decidable (Right s) := by unfold Right; infer_instance
theorem decide_and5 {A B C D E : Prop} [Decidable A] [Decidable B] [Decidable C] [Decidable D] [Decidable E] {X : Prop} [Decidable X] (h : X ↔ A ∧ B ∧ C ∧ D ∧ E) : decide X = (decide A && (decide B && (decide C && (decide D && decide E)))) := by
  rw [← Bool.decide_and, ← Bool.decide_and, ← Bool.decide_and, ← Bool.decide_and]
  exact decide_eq_decide.2 h
set_option maxHeartbeats 1000000 in
theorem right_c {G : Nat → Prop} {w : World} {x : PP} (h : x.ok G w) (hn : x.p.last.length ≤ 9223372036854775807) :
    Calls Tryd.prog 26 #[x.val] w fun e w' => e = .returned (.bool (decide (inB x.p.id ∧ OkP x.p))) ∧ Below w.heap.size w w' := by
  obtain ⟨W1, hW1⟩ : ∃ W1, W1 = w.alloc x.obj := ⟨_, rfl⟩
  have hb1 : Below w.heap.size w W1 := by rw [hW1]; exact below_new w _
  have hx1 : x.at W1 w.heap.size := by rw [hW1]; exact box_new w _
  have hc := hx1.cells
  have c0 := hc.c0
  have c1 := hc.c1
  have c2 := hc.c2
  have c3 := hc.c3
  have QW := Lib.hid (fun n => within_c n W1)
  have QA := Lib.hid (ascending_c (h.on hb1) hn)
  have e : decide (inB x.p.id ∧ OkP x.p) = (decide (inB x.p.id) && (decide (inB x.p.ep) && (decide (inB x.p.nx) && (decide ((x.p.last.length : Int) = min x.p.nx 20) && decide (Asc (-1) x.p.last))))) := decide_and5 (by rw [okP_iff])
  rw [e]
  have HB := Lib.hid hb1
  obtain ⟨⟨i, ep, nx, last⟩, a, c⟩ := x
  unfold PP.obj at hW1
  unfold PP.val
  dsimp only at *
  generalize decide (Asc (-1) last) = bA at *
  generalize hL : last.length = L at *
  clear e hc hx1 hL h hb1
  cases h1 : decide (inB i) with
  | false =>
    have H1 := Lib.hid h1
    clear h1
    go_enter Tryd.func26, Tryd.ntmps26
    go_upto_region 1 with fail
    rw [← hW1]
    clear hW1
    go_wp2_with (go_at_call 29; refine (QW.out _).mono ?_; rintro e w1 ⟨rfl, hw⟩; rw [hw]; clear hw; first | rw [H1.out])
    go_ret
    exact ⟨rfl, HB.out⟩
  | true =>
    have H1 := Lib.hid h1
    clear h1
    cases h2 : decide (inB ep) with
    | false =>
      have H2 := Lib.hid h2
      clear h2
      go_enter Tryd.func26, Tryd.ntmps26
      go_upto_region 1 with fail
      rw [← hW1]
      clear hW1
      go_wp2_with (go_at_call 29; refine (QW.out _).mono ?_; rintro e w1 ⟨rfl, hw⟩; rw [hw]; clear hw; first | rw [H1.out] | rw [H2.out])
      go_ret
      exact ⟨rfl, HB.out⟩
    | true =>
      have H2 := Lib.hid h2
      clear h2
      cases h3 : decide (inB nx) with
      | false =>
        have H3 := Lib.hid h3
        clear h3
        go_enter Tryd.func26, Tryd.ntmps26
        go_upto_region 1 with fail
        rw [← hW1]
        clear hW1
        go_wp2_with (go_at_call 29; refine (QW.out _).mono ?_; rintro e w1 ⟨rfl, hw⟩; rw [hw]; clear hw; first | rw [H1.out] | rw [H2.out] | rw [H3.out])
        go_ret
        exact ⟨rfl, HB.out⟩
      | true =>
        have H3 := Lib.hid h3
        clear h3
        by_cases h4 : (L : Int) = min nx 20
        · have e4 : decide ((L : Int) = min nx 20) = true := decide_eq_true h4
          rw [e4]
          clear e4
          go_enter Tryd.func26, Tryd.ntmps26
          go_upto_region 1 with fail
          rw [← hW1]
          clear hW1
          go_wp2_with (first | (go_at_call 29; refine (QW.out _).mono ?_; rintro e w1 ⟨rfl, hw⟩; rw [hw]; clear hw; first | rw [H1.out] | rw [H2.out] | rw [H3.out]) | (go_at_call 44; refine QA.out.mono ?_; rintro e w1 ⟨rfl, hw⟩; rw [hw]; clear hw))
          go_ret
          exact ⟨rfl, HB.out⟩
        · have e4 : decide ((L : Int) = min nx 20) = false := decide_eq_false h4
          rw [e4]
          clear e4
          go_enter Tryd.func26, Tryd.ntmps26
          go_upto_region 1 with fail
          rw [← hW1]
          clear hW1
          go_wp2_with (go_at_call 29; refine (QW.out _).mono ?_; rintro e w1 ⟨rfl, hw⟩; rw [hw]; clear hw; first | rw [H1.out] | rw [H2.out] | rw [H3.out])
          go_ret
          exact ⟨rfl, HB.out⟩
end Go.Proofs.YtlfjbiiacnikhaaDoor
