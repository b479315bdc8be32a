/-
  The laws' helper few.
-/
import Derived.Test.YtninopllfbiccaaDoorCOp
namespace Go.Proofs.YtninopllfbiccaaDoor
set_option maxRecDepth 100000
open Go Go.RowKit Go.Maps Dk

def fine5 (x : Op5) : Bool := !(decide (400 < x.s.length) || decide (100 < x.keep.length))
def few5 (l : List Op5) : Bool := l.all fine5 && decide (l.length ≤ 30)
theorem few5_mem {l : List Op5} (h : few5 l = true) : l.length ≤ 30 ∧ ∀ x ∈ l, x.s.length ≤ 400 ∧ x.keep.length ≤ 100 := by
  unfold few5 at h
  rw [Bool.and_eq_true, List.all_eq_true, decide_eq_true_eq] at h
  refine ⟨h.2, fun x hx => ?_⟩
  have := h.1 x hx
  unfold fine5 at this
  simp only [Bool.not_eq_true', Bool.or_eq_false_iff, decide_eq_false_iff_not] at this
  omega

set_option maxHeartbeats 1000000 in
set_option maxRecDepth 100000 in
theorem cFew_c (v : Value) (l : List Op5) (w : World) (h : OpsIn w v l) : Calls Tryd.prog 9 #[v] w fun e w' => e = .returned (.bool (few5 l)) ∧ w' = w := by
  obtain ⟨hlen, a, c, rfl, hcell⟩ := h
  obtain ⟨L, hL⟩ : ∃ L, L = l.length := ⟨_, rfl⟩
  rw [← hL] at hlen ⊢
  have HL := Lib.hid hL
  have HC := Lib.hid hcell
  clear hcell hL
  go_enter Tryd.func9, Tryd.ntmps9
  go_wp2_with fail
  go_loopw [3] (fun v3 wr => ∃ k : Nat, k ≤ L ∧ v3 = .int .i64 (k : Int) ∧ (∀ x ∈ l.take k, fine5 x = true) ∧ wr = w) (fun v3 _ => L - (intOf v3).toNat)
  case atStart => exact ⟨0, Nat.zero_le _, rfl, by simp, rfl⟩
  case round =>
    obtain ⟨k, hk, rfl, hf, hw⟩ := hrel
    rw [hw]
    clear hw
    have HF := Lib.hid hf
    clear hf
    by_cases hkl : k < L
    · have hkl' : (k : Int) < (L : Int) := by omega
      obtain ⟨x, hx⟩ : ∃ x, l[k]? = some x := ⟨l[k]'(by have := HL.out; omega), List.getElem?_eq_getElem _⟩
      obtain ⟨b, off, ka, kc, rfl, ⟨c0, c1, c2, c3⟩, _, hok⟩ := HC.out k x hx
      have hsl : x.s.length ≤ 9223372036854775807 := hok.s
      have hkl2 : x.keep.length ≤ 9223372036854775807 := hok.keepLen
      have HX := Lib.hid hx
      clear hx hok
      by_cases h1 : 400 < x.s.length
      · have hfx : fine5 x = false := by simp [fine5, h1]
        have h1' : (400 : Int) < (x.s.length : Int) := by omega
        have HFX := Lib.hid hfx
        clear hfx
        go_wp2_with fail
        go_ret
        refine ⟨?_, rfl⟩
        have : l.all fine5 = false := by
          rw [List.all_eq_false]
          exact ⟨x, List.mem_of_getElem? HX.out, by simp [HFX.out]⟩
        unfold few5
        rw [this]
        rfl
      · have h1' : ¬ (400 : Int) < (x.s.length : Int) := by omega
        by_cases h2 : 100 < x.keep.length
        · have hfx : fine5 x = false := by simp [fine5, h2]
          have h2' : (100 : Int) < (x.keep.length : Int) := by omega
          have HFX := Lib.hid hfx
          clear hfx
          go_wp2_with fail
          go_ret
          refine ⟨?_, rfl⟩
          have : l.all fine5 = false := by
            rw [List.all_eq_false]
            exact ⟨x, List.mem_of_getElem? HX.out, by simp [HFX.out]⟩
          unfold few5
          rw [this]
          rfl
        · have h2' : ¬ (100 : Int) < (x.keep.length : Int) := by omega
          have hfx : fine5 x = true := by simp [fine5, h1, h2]
          have HFX := Lib.hid hfx
          clear hfx
          go_wp2_with fail
          go_roundw
          case rel =>
            refine ⟨k + 1, hkl, by go_num, fun y hy => ?_, (by first | rfl | trivial)⟩
            rw [List.take_add_one, HX.out] at hy
            rcases List.mem_append.1 hy with hy | hy
            · exact HF.out y hy
            · simp at hy; rw [hy]; exact HFX.out
          case measure => simp [intOf]; omega
    · have hkl' : ¬ (k : Int) < (L : Int) := by omega
      have htk : l.take k = l := List.take_of_length_le (by have := HL.out; omega)
      have hall : l.all fine5 = true := List.all_eq_true.2 (fun x hx => HF.out x (by rw [htk]; exact hx))
      have hfm : few5 l = decide ((L : Int) ≤ 30) := by
        unfold few5
        rw [hall, Bool.true_and, ← HL.out]
        simp
        omega
      have HFM := Lib.hid hfm
      clear htk hall hfm
      go_wp2_with fail
      go_ret
      rw [HFM.out]
      exact ⟨rfl, rfl⟩
end Go.Proofs.YtninopllfbiccaaDoor
