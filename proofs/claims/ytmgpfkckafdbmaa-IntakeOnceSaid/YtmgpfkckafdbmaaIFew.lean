/-
  few: what the laws of layer 11 take.
-/
import Derived.Test.YtmgpfkckafdbmaaILaw
namespace Go.Proofs.Ytmgpfkckafdbmaa
set_option maxRecDepth 100000
open Go Go.RowKit Vl

def shortV (v : V) : Prop := v.s.length ≤ 210
instance (v : V) : Decidable (shortV v) := inferInstanceAs (Decidable (_ ≤ _))
def okE (x : EIn) : Prop := x.row.length ≤ 12 ∧ x.e.src.size ≤ 30 ∧ ∀ v ∈ x.row, shortV v
instance (x : EIn) : Decidable (okE x) := inferInstanceAs (Decidable (_ ∧ _ ∧ _))
def fewI (l : List EIn) (m : Nat) : Bool := decide ((∀ x ∈ l, okE x) ∧ l.length ≤ m)
theorem fewI_no {l : List EIn} {m k : Nat} {x : EIn} (hx : l[k]? = some x) (h : ¬ okE x) : fewI l m = false := decide_eq_false (fun f => h (f.1 x (List.mem_of_getElem? hx)))
theorem fewI_len {l : List EIn} {m : Nat} (h : fewI l m = true) : l.length ≤ m := (of_decide_eq_true h).2
set_option maxHeartbeats 4000000 in
theorem fewI_c {w : World} {v : Value} {l : List EIn} (h : EntsIn w v l) (m : Nat) :
    Calls Try.prog 8 #[v, .int .i64 (m : Int)] w fun r w' => r = .returned (.bool (fewI l m)) ∧ w' = w := by
  obtain ⟨hlen, oa, oc, rfl, hops⟩ := h
  obtain ⟨n, hn⟩ : ∃ n, n = l.length := ⟨_, rfl⟩
  have HN := Lib.hid hn
  have HO := Lib.hid hops
  rw [← hn] at hlen ⊢
  clear hn hops
  go_enter Try.func8, Try.ntmps8
  go_wp2_with fail
  go_loopw [5] (fun v5 wr => ∃ i : Nat, i ≤ n ∧ v5 = .int .i64 (i : Int) ∧ Hid (∀ (j : Nat) (x : EIn), j < i → l[j]? = some x → okE x) ∧ w = wr) (fun v5 _ => n - (intOf v5).toNat)
  case atStart => exact ⟨0, Nat.zero_le _, rfl, Lib.hid (fun j x hj _ => absurd hj (Nat.not_lt_zero _)), rfl⟩
  case round =>
    obtain ⟨i, hi, rfl, hal, rfl⟩ := hrel
    by_cases hin : i < n
    · have hin' : (i : Int) < (n : Int) := by omega
      obtain ⟨x, hx⟩ : ∃ x, l[i]? = some x := ⟨l[i]'(by have := HN.out; omega), List.getElem?_eq_getElem _⟩
      obtain ⟨b, off, rfl, he, hrow, hrn, hfit⟩ := HO.out i x hx
      have o4 := he.c4
      have o7 := he.c7
      have HX := Lib.hid hx
      have hsz := hfit.src
      obtain ⟨⟨kd, pr, ep, sq, src, sc, tm, ra, rn, rc⟩, row⟩ := x
      dsimp only at *
      have HROW := Lib.hid hrow
      have hrl := hrow.1
      have HRN := Lib.hid hrn
      rw [← hrn] at hrl
      clear hx he hfit hrow hrn
      by_cases h12 : 12 < rn
      · have HF := Lib.hid (show fewI l m = false from fewI_no HX.out (fun f => by have := f.1; have q := HRN.out; dsimp only at this; omega))
        have h12' : (12 : Int) < (rn : Int) := by omega
        go_wp2_with fail
        go_ret
        exact ⟨ret_bool HF.out.symm, rfl⟩
      have h12' : ¬ (12 : Int) < (rn : Int) := by omega
      by_cases h30 : 30 < src.size
      · have HF := Lib.hid (show fewI l m = false from fewI_no HX.out (fun f => by have := f.2.1; dsimp only at this; omega))
        have h30' : (30 : Int) < (src.size : Int) := by omega
        go_wp2_with fail
        go_ret
        exact ⟨ret_bool HF.out.symm, rfl⟩
      have h30' : ¬ (30 : Int) < (src.size : Int) := by omega
      go_wp2_with fail
      go_loopw [6] (fun v6 wq => ∃ k : Nat, k ≤ rn ∧ v6 = .int .i64 (k : Int) ∧ Hid (∀ (j : Nat) (u : V), j < k → row[j]? = some u → shortV u) ∧ w = wq) (fun v6 _ => rn - (intOf v6).toNat)
      case atStart => exact ⟨0, Nat.zero_le _, rfl, Lib.hid (fun j x hj _ => absurd hj (Nat.not_lt_zero _)), rfl⟩
      case round =>
        obtain ⟨k, hk, rfl, hsh, rfl⟩ := hrel
        by_cases hkn : k < rn
        · have hkn' : (k : Int) < (rn : Int) := by omega
          obtain ⟨u, hu⟩ : ∃ u, row[k]? = some u := ⟨row[k]'(by have := HRN.out; omega), List.getElem?_eq_getElem _⟩
          obtain ⟨vb, vo, hra, hvc⟩ : ∃ vb vo, ra = some ⟨vb, vo, none⟩ ∧ CellsV w vb (vo + k * 3) u := by
            obtain ⟨_, a', c', he', hc'⟩ := HROW.out
            injection he' with e1 _ _
            obtain ⟨vb, vo, h1, h2⟩ := hc' (by intro e; rw [e] at hu; simp at hu)
            exact ⟨vb, vo, by rw [e1, h1], h2 k u hu⟩
          rw [hra] at o7
          obtain ⟨_, _, v2⟩ := hvc
          have HU := Lib.hid hu
          by_cases h210 : 210 < u.s.length
          · have HF := Lib.hid (show fewI l m = false from fewI_no HX.out (fun f => by have := f.2.2 u (List.mem_of_getElem? hu); unfold shortV at this; omega))
            have h210' : (210 : Int) < ((⟨u.s.toArray⟩ : ByteArray).size : Int) := by rw [ba_size]; omega
            clear hu hra
            go_wp2_with fail
            go_ret
            exact ⟨ret_bool HF.out.symm, rfl⟩
          · have h210' : ¬ (210 : Int) < ((⟨u.s.toArray⟩ : ByteArray).size : Int) := by rw [ba_size]; omega
            have HSH := Lib.hid (show ∀ (j : Nat) (u : V), j < k + 1 → row[j]? = some u → shortV u from fun j y hj hy => by
              by_cases e : j = k
              · subst e
                rw [HU.out] at hy
                injection hy with hy
                rw [← hy]
                unfold shortV
                omega
              · exact hsh.out j y (by omega) hy)
            clear hu hra
            go_wp2_with fail
            go_roundw
            case rel => exact ⟨k + 1, hkn, by go_num, HSH, by first | rfl | trivial⟩
            case measure => (simp only [intOf]; omega)
        · have hkn' : ¬ (k : Int) < (rn : Int) := by omega
          have HAL := Lib.hid (show ∀ (j : Nat) (x : EIn), j < i + 1 → l[j]? = some x → okE x from fun j y hj hy => by
            by_cases e : j = i
            · subst e
              rw [HX.out] at hy
              injection hy with hy
              rw [← hy]
              refine ⟨by have := HRN.out; show row.length ≤ 12; omega, by show src.size ≤ 30; omega, fun u hu => ?_⟩
              obtain ⟨q, hq⟩ := List.getElem?_of_mem hu
              exact hsh.out q u (by have q1 : q < row.length := (List.getElem?_eq_some_iff.1 hq).1; have := HRN.out; omega) hq
            · exact hal.out j y (by omega) hy)
          go_wp2_with fail
          go_roundw
          case rel => exact ⟨i + 1, hin, by go_num, HAL, by first | rfl | trivial⟩
          case measure => (simp only [intOf]; omega)
    · have hin' : ¬ (i : Int) < (n : Int) := by omega
      have HF : fewI l m = decide ((n : Int) ≤ (m : Int)) := by
        unfold fewI
        apply decide_eq_decide.2
        constructor
        · intro f
          have := f.2
          have := HN.out
          omega
        · intro f
          refine ⟨fun x hx => ?_, by have := HN.out; omega⟩
          obtain ⟨q, hq⟩ := List.getElem?_of_mem hx
          exact hal.out q x (by have := (List.getElem?_eq_some_iff.1 hq).1; have := HN.out; omega) hq
      have HF := Lib.hid HF
      go_wp2_with fail
      go_ret
      first | exact ⟨ret_bool HF.out.symm, rfl⟩ | exact ⟨ret_bool rfl, rfl⟩
end Go.Proofs.Ytmgpfkckafdbmaa
