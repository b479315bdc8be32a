/-
  DiskArms: the walk.
-/
import Derived.Test.YthibikdnoogfoaaDArms
namespace Go.Proofs.Ythibikdnoogfoaa
open Go Go.RowKit Go.Maps Dk

def armsEarly (l : List Act) (n : Int) (keep : List Int) : Bool := !fewM l || decide (60 < keep.length) || decide (n < 1) || decide (60 < n)

set_option maxHeartbeats 1000000 in
set_option maxRecDepth 100000 in
theorem arms_out (v : Value) (l : List Act) (n : Int) (keep : List Int) (ka : Option Addr) (kc : Nat) (hk : keep.length ≤ 9223372036854775807) (w : World) (h : ActsIn w v l) (he : armsEarly l n keep = true) :
    Calls Try.prog 6 #[v, .int .i64 n, .slice ka keep.length kc] w fun e w' => e = .returned (.bool true) ∧ Below w.heap.size w w' := by
  have h0 := h
  obtain ⟨_, va, vc, rfl, _⟩ := h0
  have H := Lib.hid h
  clear h
  go_enter Try.func6, Try.ntmps6
  go_wp2_with fail
  refine (small_c w).mono ?_
  rintro e w1 ⟨rfl, hb1⟩
  go_wp2_with fail
  refine (few_c _ l w1 (H.out.on hb1)).mono ?_
  rintro e w2 ⟨rfl, h2⟩
  rw [h2]
  clear h2
  have HB := Lib.hid hb1
  clear hb1
  unfold armsEarly at he
  cases hf : fewM l with
  | false =>
    go_wp2_with fail
    go_ret
    exact ⟨rfl, HB.out⟩
  | true =>
    rw [hf] at he
    by_cases h1 : 60 < keep.length
    · have h1' : (60 : Int) < (keep.length : Int) := by omega
      go_wp2_with fail
      go_ret
      exact ⟨rfl, HB.out⟩
    · have h1' : ¬ (60 : Int) < (keep.length : Int) := by omega
      by_cases h2 : n < 1
      · go_wp2_with fail
        go_ret
        exact ⟨rfl, HB.out⟩
      · have h3 : 60 < n := by simpa [h1, h2] using he
        go_wp2_with fail
        go_ret
        exact ⟨rfl, HB.out⟩

/-- The cells of an act. -/
def ActCellsAt (w : World) (b o : Nat) (x : Act) (ya : Option Addr) (yc : Nat) : Prop :=
  w.cell? ⟨b, o, none⟩ = some (.int .i64 x.op) ∧ w.cell? ⟨b, o + 1, none⟩ = some (.int .i64 x.f) ∧ w.cell? ⟨b, o + 2, none⟩ = some (.int .i64 x.n) ∧ w.cell? ⟨b, o + 3, none⟩ = some (.string ⟨x.s.toArray⟩) ∧
    w.cell? ⟨b, o + 4, none⟩ = some (.slice ya x.keep.length yc)

set_option maxHeartbeats 16000000 in
set_option maxRecDepth 100000 in
theorem arms_good (v : Value) (l : List Act) (m : Nat) (hm1 : 1 ≤ m) (hm60 : m ≤ 60) (keep : List Int) (hki : ∀ k ∈ keep, In64 k) (ka : Option Addr) (kc : Nat) (w : World) (h : ActsAt w v l) (hk : SrcV w 1 (.slice ka keep.length kc) keep.length (intsV keep)) (he : armsEarly l (m : Int) keep = false) :
    Calls Try.prog 6 #[v, .int .i64 (m : Int), .slice ka keep.length kc] w fun e w' => e = .returned (.bool true) ∧ Below w.heap.size w w' := by
  have h0 := h
  obtain ⟨hlen, va, vc, rfl, hcell⟩ := h0
  have H := Lib.hid h
  have K := Lib.hid hk
  have KI := Lib.hid hki
  have HC := Lib.hid hcell
  clear h hk hcell hki hlen
  unfold armsEarly at he
  simp only [Bool.or_eq_false_iff, decide_eq_false_iff_not, Bool.not_eq_false'] at he
  obtain ⟨⟨⟨hf, h1⟩, h2⟩, h3⟩ := he
  have h1' : ¬ (60 : Int) < (keep.length : Int) := by omega
  have hkl : keep.length ≤ 60 := by omega
  obtain ⟨L, hL⟩ : ∃ L, L = l.length := ⟨_, rfl⟩
  have hL40 : L ≤ 40 := by
    unfold fewM at hf
    rw [Bool.and_eq_true, decide_eq_true_eq] at hf
    omega
  rw [← hL]
  have HL := Lib.hid hL
  clear hL
  go_enter Try.func6, Try.ntmps6
  go_wp2_with fail
  refine (small_c w).mono ?_
  rintro e w1 ⟨rfl, hb1⟩
  go_wp2_with fail
  have hfew := few_c _ l w1 (H.out.on hb1).toIn
  rw [← HL.out] at hfew
  refine hfew.mono ?_
  clear hfew
  rintro e w2 ⟨rfl, h2'⟩
  rw [h2', hf]
  clear h2'
  go_wp2_with fail
  refine (new_c w1).mono ?_
  rintro e w2 ⟨d, rfl, hd2, hb2⟩
  have s1 := hb1.size
  have s12 := hb2.size
  replace hd2 := hd2.mono (T := fun k => w.heap.size ≤ k ∧ k < w2.heap.size) (fun k hk e => ⟨Nat.le_trans s1 e, hk⟩)
  replace hb2 := hb1.trans (hb2.mono s1)
  have s2 := hb2.size
  clear hb1
  go_wp2_with fail
  refine (new_c w2).mono ?_
  rintro e w3 ⟨c, rfl, hc3, hb3⟩
  have s23 := hb3.size
  have hT0 : Two w w3 d c D.new D.new := ⟨fun k => w.heap.size ≤ k ∧ k < w2.heap.size, fun k => w2.heap.size ≤ k ∧ k < w3.heap.size, hd2.kept (Kept.below (S := fun _ => False) hb3) (fun _ _ e => e), hc3.mono (fun k hk e => ⟨e, hk⟩), fun k h1 h2 => by omega, fun k h1 => by omega, fun k h1 => by omega⟩
  replace hb3 := hb2.trans (hb3.mono s2)
  clear hd2 hc3 hb2 s1 s12 s2 s23
  have HA := Lib.hid (two_arm (m : Int) (by omega) (.slice ka keep.length kc) keep d c _ _ w w3 hT0 hb3 K.out (by omega) KI.out)
  clear hT0 hb3
  go_wp2_with fail
  refine HA.out.mono ?_
  rintro e w4 ⟨rfl, hT4, hb4⟩
  clear HA
  have HT4 := Lib.hid hT4
  have HB4 := Lib.hid hb4
  have HP0 : Hid (Pair m keep 0 (D.new.arm (m : Int) keep) D.new) := Lib.hid (Or.inl ⟨by omega, by unfold D.arm armed; rw [Int.toNat_natCast]; rfl, rfl, rfl⟩)
  clear hT4 hb4
  go_wp2_with fail
  go_loopw [10, 11, 12, 13] (fun v10 v11 _ _ wr => ∃ (count k : Nat) (X Y : D), k ≤ L ∧ count ≤ k ∧ v10 = .int .i64 (count : Int) ∧ v11 = .int .i64 (k : Int) ∧ Two w wr d c X Y ∧ Hid (Pair m keep count X Y) ∧ Below w.heap.size w wr) (fun _ v11 _ _ _ => L - (intOf v11).toNat)
  case atStart => exact ⟨0, 0, _, _, Nat.zero_le _, Nat.le_refl _, rfl, rfl, HT4.out, HP0, HB4.out⟩
  case round =>
    obtain ⟨count, k, X, Y, hk, hck, rfl, rfl, hT, HP, hb⟩ := hrel
    clear HT4 HB4 HP0
    by_cases hkl : k < L
    · have hkl' : (k : Int) < (L : Int) := by omega
      obtain ⟨x, hx⟩ : ∃ x, l[k]? = some x := ⟨l[k]'(by have := HL.out; omega), List.getElem?_eq_getElem _⟩
      obtain ⟨b, off, ya, yc, rfl, hcs, hsrc, hok⟩ := HC.out k x hx
      have CE := Lib.hid (show ∀ wx, Below w.heap.size w wx → ActCellsAt wx b (off + k * 5) x ya yc from fun wx hbx => by
        have hkc : ∀ {p : Addr} {v : Value}, w.cell? p = some v → wx.cell? p = some v := fun hp => (Kept.below (S := fun _ => False) hbx).cell hp (fun e => e)
        obtain ⟨g0, g1, g2, g3, g4⟩ := hcs
        exact ⟨hkc g0, hkc g1, hkc g2, hkc g3, hkc g4⟩)
      obtain ⟨c0, c1, c2, c3, c4⟩ := CE.out wr hb
      have HOK := Lib.hid hok
      have HS := Lib.hid hsrc
      have HT := Lib.hid hT
      have HB := Lib.hid hb
      have hcode : code x = bits .and .i64 x.op 7 := rfl
      clear hx hcs hok hsrc hT hb
      by_cases h5 : 4 < bits .and .i64 x.op 7
      · clear hcode
        go_wp2_with fail
        go_ret
        exact ⟨rfl, HB.out⟩
      · rcases HP.out with ⟨hcm, hX, hYl, hYd⟩ | ⟨hcm, hXd, hYd, hXY⟩
        · clear HP
          subst hX
          by_cases h4 : bits .and .i64 x.op 7 = 4
          · have h4' : ¬ bits .and .i64 x.op 7 < 4 := by omega
            have hcm' : (count : Int) < (m : Int) := by omega
            obtain ⟨ha1, ha2, ha3⟩ := act_lose hYl hYd (m - count) keep x (hcode.trans h4)
            have q1 := two_do x HOK.out ya yc d c _ Y w wr HT.out HB.out HS.out
            rw [ha1] at q1
            have Q1 := Lib.hid q1
            have HE := Lib.hid (And.intro ha2 ha3)
            clear q1 ha1 ha2 ha3 hYl hYd hcode
            go_wp2_with (go_at_call_of 12 (Value.pointer (some ⟨d, 0, none⟩)); refine Q1.out.mono ?_; rintro e w2 ⟨rfl, hT2, hb2⟩; obtain ⟨e0, e1, e2, e3, e4⟩ := CE.out w2 hb2)
            have Q2 := Lib.hid (two_do x HOK.out ya yc c d Y _ w w2 hT2.swap hb2 HS.out)
            clear hT2 hb2
            go_wp2_with (go_at_call_of 12 (Value.pointer (some ⟨c, 0, none⟩)); refine Q2.out.mono ?_; rintro e w3 ⟨rfl, hT3, hb3⟩)
            go_roundw
            case rel => exact ⟨count, k + 1, _, _, hkl, by omega, rfl, by go_num, hT3.swap, Lib.hid (Or.inl ⟨hcm, rfl, HE.out.1, HE.out.2⟩), hb3⟩
            case measure => simp [intOf]; omega
          · have h4' : bits .and .i64 x.op 7 < 4 := by omega
            by_cases hlast : count + 1 < m
            · have hcm' : (count : Int) + 1 < (m : Int) := by omega
              obtain ⟨ha1, ha2, ha3⟩ := act_armed hYl hYd (m - count) keep (by omega) x (by rw [hcode]; exact h4')
              rw [show m - count - 1 = m - (count + 1) by omega] at ha1
              have q1 := two_do x HOK.out ya yc d c _ Y w wr HT.out HB.out HS.out
              rw [ha1] at q1
              have Q1 := Lib.hid q1
              have HE := Lib.hid (And.intro ha2 ha3)
              clear q1 ha1 ha2 ha3 hYl hYd hcode
              go_wp2_with (go_at_call_of 12 (Value.pointer (some ⟨d, 0, none⟩)); refine Q1.out.mono ?_; rintro e w2 ⟨rfl, hT2, hb2⟩; obtain ⟨e0, e1, e2, e3, e4⟩ := CE.out w2 hb2)
              have Q2 := Lib.hid (two_do x HOK.out ya yc c d Y _ w w2 hT2.swap hb2 HS.out)
              clear hT2 hb2
              go_wp2_with (go_at_call_of 12 (Value.pointer (some ⟨c, 0, none⟩)); refine Q2.out.mono ?_; rintro e w3 ⟨rfl, hT3, hb3⟩)
              go_roundw
              case rel => exact ⟨count + 1, k + 1, _, _, hkl, by omega, by go_num, by go_num, hT3.swap, Lib.hid (Or.inl ⟨hlast, rfl, HE.out.1, HE.out.2⟩), hb3⟩
              case measure => simp [intOf]; omega
            · have hce : count + 1 = m := by omega
              by_cases h2 : bits .and .i64 x.op 7 < 2
              · have hcm1 : ¬ (count : Int) + 1 < (m : Int) := by omega
                have hcm2 : (count : Int) + 1 = (m : Int) := by omega
                have ha1 := act_last hYl hYd keep x (by rw [hcode]; exact h4')
                rw [if_pos (show code x < 2 by rw [hcode]; exact h2)] at ha1
                have q1 := two_do x HOK.out ya yc d c _ Y w wr HT.out HB.out HS.out
                rw [show m - count = 1 by omega, ha1] at q1
                have Q1 := Lib.hid q1
                clear q1 ha1 hYl hYd hcode
                go_wp2_with (go_at_call_of 12 (Value.pointer (some ⟨d, 0, none⟩)); refine Q1.out.mono ?_; rintro e w2 ⟨rfl, hT2, hb2⟩; obtain ⟨e0, e1, e2, e3, e4⟩ := CE.out w2 hb2)
                have Q2 := Lib.hid (two_do x HOK.out ya yc c d Y _ w w2 hT2.swap hb2 HS.out)
                clear hT2 hb2
                go_wp2_with (go_at_call_of 12 (Value.pointer (some ⟨c, 0, none⟩)); refine Q2.out.mono ?_; rintro e w3 ⟨rfl, hT3, hb3⟩)
                have Q3 := Lib.hid (two_crash (.slice ka keep.length kc) keep c d _ _ w w3 hT3 hb3 K.out (by omega) KI.out)
                clear hT3 hb3
                go_wp2_with (go_at_call 25; refine Q3.out.mono ?_; rintro e w4 ⟨rfl, hT4, hb4⟩)
                have qn := two_down d c _ _ w w4 hT4.swap
                rw [crash_isDown] at qn
                have QN := Lib.hid qn
                clear qn
                go_wp2_with (go_at_call 14; refine QN.out.mono ?_; rintro e wn ⟨rfl, hwn⟩; rw [hwn]; clear hwn)
                go_roundw
                case rel => exact ⟨count + 1, k + 1, _, _, hkl, by omega, by go_num, by go_num, hT4.swap, Lib.hid (Or.inr ⟨by omega, crash_isDown _ _, crash_isDown _ _, rfl⟩), hb4⟩
                case measure => simp [intOf]; omega
              · have hcm1 : ¬ (count : Int) + 1 < (m : Int) := by omega
                have hcm2 : (count : Int) + 1 = (m : Int) := by omega
                have ha1 := act_last hYl hYd keep x (by rw [hcode]; exact h4')
                rw [if_neg (show ¬ code x < 2 by rw [hcode]; exact h2)] at ha1
                have q1 := two_do x HOK.out ya yc d c _ Y w wr HT.out HB.out HS.out
                rw [show m - count = 1 by omega, ha1] at q1
                have Q1 := Lib.hid q1
                clear q1 ha1 hYl hYd hcode
                go_wp2_with (go_at_call_of 12 (Value.pointer (some ⟨d, 0, none⟩)); refine Q1.out.mono ?_; rintro e w2 ⟨rfl, hT2, hb2⟩)
                have Q3 := Lib.hid (two_crash (.slice ka keep.length kc) keep c d _ _ w w2 hT2.swap hb2 K.out (by omega) KI.out)
                clear hT2 hb2
                go_wp2_with (go_at_call 25; refine Q3.out.mono ?_; rintro e w4 ⟨rfl, hT4, hb4⟩)
                have qn := two_down d c _ _ w w4 hT4.swap
                rw [crash_isDown] at qn
                have QN := Lib.hid qn
                clear qn
                go_wp2_with (go_at_call 14; refine QN.out.mono ?_; rintro e wn ⟨rfl, hwn⟩; rw [hwn]; clear hwn)
                go_roundw
                case rel => exact ⟨count + 1, k + 1, _, _, hkl, by omega, by go_num, by go_num, hT4.swap, Lib.hid (Or.inr ⟨by omega, crash_isDown _ _, crash_isDown _ _, rfl⟩), hb4⟩
                case measure => simp [intOf]; omega
        · clear HP
          by_cases h4 : bits .and .i64 x.op 7 = 4
          · by_cases hce : count = m
            · have h4' : ¬ bits .and .i64 x.op 7 < 4 := by omega
              have hcm1 : ¬ (count : Int) < (m : Int) := by omega
              have hcm2 : (count : Int) = (m : Int) := by omega
              obtain ⟨ha1, ha2⟩ := act_lose_down hXd x (hcode.trans h4)
              have Q1 := Lib.hid (two_do x HOK.out ya yc d c X Y w wr HT.out HB.out HS.out)
              have HE := Lib.hid (And.intro ha1 ha2)
              have HXY := Lib.hid hXY
              clear ha1 ha2 hXY hcode
              go_wp2_with (go_at_call_of 12 (Value.pointer (some ⟨d, 0, none⟩)); refine Q1.out.mono ?_; rintro e w2 ⟨rfl, hT2, hb2⟩)
              have qn := two_down d c _ _ w w2 hT2
              rw [HE.out.1] at qn
              have QN := Lib.hid qn
              clear qn
              go_wp2_with (go_at_call 14; refine QN.out.mono ?_; rintro e wn ⟨rfl, hwn⟩; rw [hwn]; clear hwn)
              go_roundw
              case rel => exact ⟨count, k + 1, _, _, hkl, by omega, by first | rfl | rw [hce], by go_num, hT2, Lib.hid (Or.inr ⟨by omega, HE.out.1, hYd, HE.out.2.trans HXY.out⟩), hb2⟩
              case measure => simp [intOf]; omega
            · have h4' : ¬ bits .and .i64 x.op 7 < 4 := by omega
              have hcm1 : ¬ (count : Int) < (m : Int) := by omega
              have hcm2 : ¬ (count : Int) = (m : Int) := by omega
              obtain ⟨ha1, ha2⟩ := act_lose_down hXd x (hcode.trans h4)
              have Q1 := Lib.hid (two_do x HOK.out ya yc d c X Y w wr HT.out HB.out HS.out)
              have HE := Lib.hid (And.intro ha1 ha2)
              have HXY := Lib.hid hXY
              clear ha1 ha2 hXY hcode
              go_wp2_with (go_at_call_of 12 (Value.pointer (some ⟨d, 0, none⟩)); refine Q1.out.mono ?_; rintro e w2 ⟨rfl, hT2, hb2⟩)
              have qn := two_down d c _ _ w w2 hT2
              rw [HE.out.1] at qn
              have QN := Lib.hid qn
              clear qn
              go_wp2_with (go_at_call 14; refine QN.out.mono ?_; rintro e wn ⟨rfl, hwn⟩; rw [hwn]; clear hwn)
              go_roundw
              case rel => exact ⟨count, k + 1, _, _, hkl, by omega, by first | rfl | rw [hce], by go_num, hT2, Lib.hid (Or.inr ⟨by omega, HE.out.1, hYd, HE.out.2.trans HXY.out⟩), hb2⟩
              case measure => simp [intOf]; omega
          · have h4' : bits .and .i64 x.op 7 < 4 := by omega
            have hcm1 : ¬ (count : Int) + 1 < (m : Int) := by omega
            have hcm2 : ¬ (count : Int) + 1 = (m : Int) := by omega
            have ha1 := act_down hXd x (by rw [hcode]; exact h4')
            have q1 := two_do x HOK.out ya yc d c X Y w wr HT.out HB.out HS.out
            rw [ha1] at q1
            have Q1 := Lib.hid q1
            have HXY := Lib.hid hXY
            clear q1 ha1 hXY hcode
            go_wp2_with (go_at_call_of 12 (Value.pointer (some ⟨d, 0, none⟩)); refine Q1.out.mono ?_; rintro e w2 ⟨rfl, hT2, hb2⟩)
            have qn := two_down d c _ _ w w2 hT2
            rw [hXd] at qn
            have QN := Lib.hid qn
            clear qn
            go_wp2_with (go_at_call 14; refine QN.out.mono ?_; rintro e wn ⟨rfl, hwn⟩; rw [hwn]; clear hwn)
            go_roundw
            case rel => exact ⟨count + 1, k + 1, _, _, hkl, by omega, by go_num, by go_num, hT2, Lib.hid (Or.inr ⟨by omega, hXd, hYd, HXY.out⟩), hb2⟩
            case measure => simp [intOf]; omega
    · have hkl' : ¬ (k : Int) < (L : Int) := by omega
      obtain ⟨hs1, hs2⟩ := HP.out.same
      have hs1' : X.start.file = Y.start.file := hs1
      have q1 := same_c d c X Y _ l w wr hT (H.out.on hb) hs1 hs2
      rw [← HL.out] at q1
      have Q1 := Lib.hid q1
      have HF := Lib.hid hs1'
      have HT := Lib.hid hT
      have HB := Lib.hid hb
      clear q1 hs1 hs1' hs2 hT hb HP
      go_wp2_with (go_at_call 28; refine Q1.out.mono ?_; rintro e w2 ⟨rfl, hb2⟩)
      have hT2 := HT.out.on hb2
      replace hb2 := HB.out.trans (hb2.mono HB.out.size)
      have Q2 := Lib.hid (two_start d c X Y w w2 hT2 hb2)
      clear hT2 hb2
      go_wp2_with (go_at_call_of 26 (Value.pointer (some ⟨d, 0, none⟩)); refine Q2.out.mono ?_; rintro e w3 ⟨rfl, hT3, hb3⟩)
      have Q3 := Lib.hid (two_start c d Y X.start w w3 hT3.swap hb3)
      clear hT3 hb3
      go_wp2_with (go_at_call_of 26 (Value.pointer (some ⟨c, 0, none⟩)); refine Q3.out.mono ?_; rintro e w4 ⟨rfl, hT4, hb4⟩)
      have q4 := same_c d c X.start Y.start _ l w w4 hT4.swap (H.out.on hb4) HF.out rfl
      rw [← HL.out] at q4
      have Q4 := Lib.hid q4
      have HB4 := Lib.hid hb4
      clear q4 hT4 hb4
      go_wp2_with (go_at_call 28; refine Q4.out.mono ?_; rintro e w5 ⟨rfl, hb5⟩)
      go_ret
      exact ⟨rfl, HB4.out.trans (hb5.mono HB4.out.size)⟩

theorem arms_law (v : Value) (l : List Act) (n : Int) (keep : List Int) (hkl : keep.length ≤ 9223372036854775807) (hki : ∀ k ∈ keep, In64 k) (ka : Option Addr) (kc : Nat) (w : World) (h : ActsIn w v l)
    (hk : SrcV w 1 (.slice ka keep.length kc) keep.length (intsV keep)) :
    Calls Try.prog 6 #[v, .int .i64 n, .slice ka keep.length kc] w fun e w' => e = .returned (.bool true) ∧ Below w.heap.size w w' := by
  cases he : armsEarly l n keep with
  | true => exact arms_out v l n keep ka kc hkl w h he
  | false =>
    have he' := he
    unfold armsEarly at he'
    simp only [Bool.or_eq_false_iff, decide_eq_false_iff_not, Bool.not_eq_false'] at he'
    obtain ⟨⟨⟨hf, _⟩, h2⟩, h3⟩ := he'
    obtain ⟨m, rfl⟩ := Int.eq_ofNat_of_zero_le (show 0 ≤ n by omega)
    exact arms_good v l m (by omega) (by omega) keep hki ka kc w (h.few hf) hk he
end Go.Proofs.Ythibikdnoogfoaa
