/-
  The law's helpers: few, played.
-/
import Derived.Test.YthibikdnoogfoaaDSmall
namespace Go.Proofs.Ythibikdnoogfoaa
open Go Go.RowKit Go.Maps Dk

/-- A list of acts that came in. -/
def ActsOf (P : Act → Prop) (w : World) (v : Value) (l : List Act) : Prop :=
  l.length ≤ 9223372036854775807 ∧ ∃ a c, v = .slice a l.length c ∧ ∀ i x, l[i]? = some x → ∃ b off ka kc, a = some ⟨b, off, none⟩ ∧
    (w.cell? ⟨b, off + i * 5, none⟩ = some (.int .i64 x.op) ∧ w.cell? ⟨b, off + i * 5 + 1, none⟩ = some (.int .i64 x.f) ∧ w.cell? ⟨b, off + i * 5 + 2, none⟩ = some (.int .i64 x.n) ∧ w.cell? ⟨b, off + i * 5 + 3, none⟩ = some (.string ⟨x.s.toArray⟩) ∧
      w.cell? ⟨b, off + i * 5 + 4, none⟩ = some (.slice ka x.keep.length kc)) ∧ SrcV w 1 (.slice ka x.keep.length kc) x.keep.length (intsV x.keep) ∧ P x
theorem ActsOf.on {P : Act → Prop} {w w' : World} {v : Value} {l : List Act} (h : ActsOf P w v l) (hb : Below w.heap.size w w') : ActsOf P w' v l := by
  obtain ⟨h0, a, c, h1, h2⟩ := h
  refine ⟨h0, a, c, h1, fun i x hx => ?_⟩
  obtain ⟨b, off, ka, kc, h3, ⟨c0, c1, c2, c3, c4⟩, h4, h5⟩ := h2 i x hx
  have hk : ∀ {p : Addr} {v : Value}, w.cell? p = some v → w'.cell? p = some v := fun hp => (Kept.below (S := fun _ => False) hb).cell hp (fun e => e)
  exact ⟨b, off, ka, kc, h3, ⟨hk c0, hk c1, hk c2, hk c3, hk c4⟩, h4.on hb, h5⟩
theorem ActsOf.mono {P Q : Act → Prop} {w : World} {v : Value} {l : List Act} (h : ActsOf P w v l) (hPQ : ∀ x ∈ l, P x → Q x) : ActsOf Q w v l := by
  obtain ⟨h0, a, c, h1, h2⟩ := h
  refine ⟨h0, a, c, h1, fun i x hx => ?_⟩
  obtain ⟨b, off, ka, kc, h3, h4, h5, h6⟩ := h2 i x hx
  exact ⟨b, off, ka, kc, h3, h4, h5, hPQ x (List.mem_of_getElem? hx) h6⟩
/-- An act, as it may come in: its list of numbers may be long. -/
structure Act.Fit (a : Act) : Prop where
  op : In64 a.op
  f : In64 a.f
  n : In64 a.n
  s : a.s.length ≤ 9223372036854775807
  keepIn : ∀ k ∈ a.keep, In64 k
abbrev ActsAt (w : World) (v : Value) (l : List Act) : Prop := ActsOf Act.Ok w v l
abbrev ActsIn (w : World) (v : Value) (l : List Act) : Prop := ActsOf Act.Fit w v l
theorem ActsOf.toIn {w : World} {v : Value} {l : List Act} (h : ActsAt w v l) : ActsIn w v l := h.mono fun _ _ ok => ⟨ok.op, ok.f, ok.n, ok.s, ok.keepIn⟩

def fine (x : Act) : Bool := !(decide (300 < x.s.length) || decide (60 < x.keep.length) || (decide (3000 < x.n) && decide (x.n < 16776916)))
def fewM (l : List Act) : Bool := l.all fine && decide (l.length ≤ 40)
theorem ActsOf.few {w : World} {v : Value} {l : List Act} (h : ActsIn w v l) (hf : fewM l = true) : ActsAt w v l := by
  refine h.mono fun x hx ok => ⟨ok.op, ok.f, ok.n, ok.s, ?_, ok.keepIn⟩
  unfold fewM at hf
  rw [Bool.and_eq_true, List.all_eq_true] at hf
  have := hf.1 x hx
  unfold fine at this
  simp only [Bool.not_eq_true', Bool.or_eq_false_iff, decide_eq_false_iff_not] at this
  omega

set_option maxHeartbeats 1000000 in
set_option maxRecDepth 100000 in
theorem few_c (v : Value) (l : List Act) (w : World) (h : ActsIn w v l) : Calls Try.prog 9 #[v] w fun e w' => e = .returned (.bool (fewM l)) ∧ w' = w := by
  obtain ⟨hlen, a, c, rfl, hcell⟩ := h
  obtain ⟨L, hL⟩ : ∃ L, L = l.length := ⟨_, rfl⟩
  rw [← hL] at hlen ⊢
  have HL := Lib.hid hL
  have HC := Lib.hid hcell
  clear hcell hL
  go_enter Try.func9, Try.ntmps9
  go_wp2_with fail
  go_loopw [3] (fun v3 wr => ∃ k : Nat, k ≤ L ∧ v3 = .int .i64 (k : Int) ∧ (∀ x ∈ l.take k, fine x = true) ∧ wr = w) (fun v3 _ => L - (intOf v3).toNat)
  case atStart => exact ⟨0, Nat.zero_le _, rfl, by simp, rfl⟩
  case round =>
    obtain ⟨k, hk, rfl, hf, hw⟩ := hrel
    rw [hw]
    clear hw
    have HF := Lib.hid hf
    clear hf
    by_cases hkl : k < L
    · have hkl' : (k : Int) < (L : Int) := by omega
      obtain ⟨x, hx⟩ : ∃ x, l[k]? = some x := ⟨l[k]'(by have := HL.out; omega), List.getElem?_eq_getElem _⟩
      obtain ⟨b, off, ka, kc, rfl, ⟨c0, c1, c2, c3, c4⟩, _, hok⟩ := HC.out k x hx
      have hsl : x.s.length ≤ 9223372036854775807 := hok.s
      have HX := Lib.hid hx
      clear hx hok
      by_cases h1 : 300 < x.s.length
      · have hfx : fine x = false := by simp [fine, h1]
        have h1' : (300 : Int) < (x.s.length : Int) := by omega
        have HFX := Lib.hid hfx
        clear hfx
        go_wp2_with fail
        go_ret
        refine ⟨?_, rfl⟩
        have : l.all fine = false := by
          rw [List.all_eq_false]
          exact ⟨x, List.mem_of_getElem? HX.out, by simp [HFX.out]⟩
        unfold fewM
        rw [this]
        rfl
      · have h1' : ¬ (300 : Int) < (x.s.length : Int) := by omega
        by_cases h2 : 60 < x.keep.length
        · have hfx : fine x = false := by simp [fine, h2]
          have h2' : (60 : Int) < (x.keep.length : Int) := by omega
          have HFX := Lib.hid hfx
          clear hfx
          go_wp2_with fail
          go_ret
          refine ⟨?_, rfl⟩
          have : l.all fine = false := by
            rw [List.all_eq_false]
            exact ⟨x, List.mem_of_getElem? HX.out, by simp [HFX.out]⟩
          unfold fewM
          rw [this]
          rfl
        · have h2' : ¬ (60 : Int) < (x.keep.length : Int) := by omega
          by_cases h3 : 3000 < x.n
          · by_cases h4 : x.n < 16776916
            · have hfx : fine x = false := by simp [fine, h3, h4]
              have HFX := Lib.hid hfx
              clear hfx
              go_wp2_with fail
              go_ret
              refine ⟨?_, rfl⟩
              have : l.all fine = false := by
                rw [List.all_eq_false]
                exact ⟨x, List.mem_of_getElem? HX.out, by simp [HFX.out]⟩
              unfold fewM
              rw [this]
              rfl
            · have hfx : fine x = true := by simp [fine, h1, h2, h4]
              have HFX := Lib.hid hfx
              clear hfx
              go_wp2_with fail
              go_roundw
              case rel =>
                refine ⟨k + 1, hkl, by go_num, fun y hy => ?_, (by first | rfl | trivial)⟩
                rw [List.take_add_one, HX.out] at hy
                rcases List.mem_append.1 hy with hy | hy
                · exact HF.out y hy
                · simp at hy; rw [hy]; exact HFX.out
              case measure => simp [intOf]; omega
          · have hfx : fine x = true := by simp [fine, h1, h2, h3]
            have HFX := Lib.hid hfx
            clear hfx
            go_wp2_with fail
            go_roundw
            case rel =>
              refine ⟨k + 1, hkl, by go_num, fun y hy => ?_, (by first | rfl | trivial)⟩
              rw [List.take_add_one, HX.out] at hy
              rcases List.mem_append.1 hy with hy | hy
              · exact HF.out y hy
              · simp at hy; rw [hy]; exact HFX.out
            case measure => simp [intOf]; omega
    · have hkl' : ¬ (k : Int) < (L : Int) := by omega
      have htk : l.take k = l := List.take_of_length_le (by have := HL.out; omega)
      have hall : l.all fine = true := List.all_eq_true.2 (fun x hx => HF.out x (by rw [htk]; exact hx))
      have hfm : fewM l = decide ((L : Int) ≤ 40) := by
        unfold fewM
        rw [hall, Bool.true_and, ← HL.out]
        simp
        omega
      have HFM := Lib.hid hfm
      clear htk hall hfm
      go_wp2_with fail
      go_ret
      rw [HFM.out]
      exact ⟨rfl, rfl⟩

def playM (l : List Act) : D := l.foldl (fun X a => (doM X a).1) D.new

set_option maxHeartbeats 1000000 in
set_option maxRecDepth 100000 in
theorem played_c (v : Value) (l : List Act) (w : World) (h : ActsAt w v l) : Calls Try.prog 22 #[v] w fun e w' => ∃ d, e = .returned (.pointer (some ⟨d, 0, none⟩)) ∧ DiskIn w' d (fun k => w.heap.size ≤ k) (playM l) ∧ Below w.heap.size w w' := by
  have h0 := h
  obtain ⟨hlen, a, c, rfl, hcell⟩ := h0
  obtain ⟨L, hL⟩ : ∃ L, L = l.length := ⟨_, rfl⟩
  rw [← hL] at hlen h ⊢
  have HL := Lib.hid hL
  have HC := Lib.hid hcell
  clear hcell hL h
  go_enter Try.func22, Try.ntmps22
  go_wp2_with fail
  refine (new_c w).mono ?_
  rintro e w1 ⟨d, rfl, hd1, hb1⟩
  have HD := Lib.hid hd1
  have HB := Lib.hid hb1
  clear hd1 hb1
  go_wp2_with fail
  go_loopw [4] (fun v4 wr => ∃ k : Nat, k ≤ L ∧ v4 = .int .i64 (k : Int) ∧ DiskIn wr d (fun k => w.heap.size ≤ k) (playM (l.take k)) ∧ Below w.heap.size w wr) (fun v4 _ => L - (intOf v4).toNat)
  case atStart => exact ⟨0, Nat.zero_le _, rfl, HD.out, HB.out⟩
  case round =>
    obtain ⟨k, hk, rfl, hd, hb⟩ := hrel
    by_cases hkl : k < L
    · have hkl' : (k : Int) < (L : Int) := by omega
      obtain ⟨x, hx⟩ : ∃ x, l[k]? = some x := ⟨l[k]'(by have := HL.out; omega), List.getElem?_eq_getElem _⟩
      obtain ⟨b, off, ka, kc, rfl, ⟨g0, g1, g2, g3, g4⟩, hsrc, hok⟩ := HC.out k x hx
      have hkc : ∀ {p : Addr} {v : Value}, w.cell? p = some v → wr.cell? p = some v := fun hp => (Kept.below (S := fun _ => False) hb).cell hp (fun e => e)
      have c0 := hkc g0
      have c1 := hkc g1
      have c2 := hkc g2
      have c3 := hkc g3
      have c4 := hkc g4
      have q := do_c x hok (.slice ka x.keep.length kc) d _ _ wr hd (hsrc.on hb) (hsrc.keepAt hb (fun k e => e))
      have hpl : playM (l.take (k + 1)) = (doM (playM (l.take k)) x).1 := by
        unfold playM
        rw [List.take_add_one, hx, List.foldl_append]
        rfl
      rw [← hpl] at q
      have hs := hb.size
      have HB' := Lib.hid hb
      have Q := Lib.hid q
      clear hd hb hx hsrc hok g0 g1 g2 g3 g4 q hpl hkc
      go_wp2_with (go_at_call 12; refine Q.out.mono ?_; rintro e w2 ⟨rfl, hd2, hk2⟩)
      go_roundw
      case rel => exact ⟨k + 1, hkl, by go_num, hd2.up hs, HB'.out.trans (hk2.toBelow hs (fun _ e => e))⟩
      case measure => simp [intOf]; omega
    · have hkl' : ¬ (k : Int) < (L : Int) := by omega
      have htk : l.take k = l := List.take_of_length_le (by have := HL.out; omega)
      rw [htk] at hd
      have HD' := Lib.hid hd
      have HB' := Lib.hid hb
      clear hd hb htk
      go_wp2_with fail
      go_ret
      exact ⟨d, rfl, HD'.out, HB'.out⟩
end Go.Proofs.Ythibikdnoogfoaa
