/-
  DiskSurvives: the walk.
-/
import Derived.Test.YthibikdnoogfoaaDSurvive
import Derived.Test.YthibikdnoogfoaaDSynced
namespace Go.Proofs.Ythibikdnoogfoaa
open Go Go.RowKit Go.Maps Dk

def survEarly (l : List Act) (keep : List Int) : Bool := !fewM l || decide (60 < keep.length)

set_option maxHeartbeats 1000000 in
set_option maxRecDepth 100000 in
theorem surv_out (v : Value) (l : List Act) (f : Int) (keep : List Int) (ka : Option Addr) (kc : Nat) (hk : keep.length ≤ 9223372036854775807) (w : World) (h : ActsIn w v l) (he : survEarly l keep = true) :
    Calls Try.prog 4 #[v, .int .i64 f, .slice ka keep.length kc] w fun e w' => e = .returned (.bool true) ∧ Below w.heap.size w w' := by
  have h0 := h
  obtain ⟨_, va, vc, rfl, _⟩ := h0
  have H := Lib.hid h
  clear h
  go_enter Try.func4, Try.ntmps4
  go_wp2_with fail
  refine (small_c w).mono ?_
  rintro e w1 ⟨rfl, hb1⟩
  go_wp2_with fail
  refine (few_c _ l w1 (H.out.on hb1)).mono ?_
  rintro e w2 ⟨rfl, h2⟩
  rw [h2]
  clear h2
  have HB := Lib.hid hb1
  clear hb1
  unfold survEarly at he
  cases hf : fewM l with
  | false =>
    go_wp2_with fail
    go_ret
    exact ⟨rfl, HB.out⟩
  | true =>
    rw [hf] at he
    have h1 : 60 < keep.length := by simpa using he
    have h1' : (60 : Int) < (keep.length : Int) := by omega
    go_wp2_with fail
    go_ret
    exact ⟨rfl, HB.out⟩

set_option maxHeartbeats 2000000 in
set_option maxRecDepth 100000 in
theorem surv_skip (v : Value) (l : List Act) (f : Int) (hf64 : In64 f) (keep : List Int) (ka : Option Addr) (kc : Nat) (w : World) (h : ActsAt w v l) (he : survEarly l keep = false) (hs : ((playM l).down || !ok f || decide (100000 < (playM l).size f)) = true) :
    Calls Try.prog 4 #[v, .int .i64 f, .slice ka keep.length kc] w fun e w' => e = .returned (.bool true) ∧ Below w.heap.size w w' := by
  have h0 := h
  obtain ⟨_, va, vc, rfl, _⟩ := h0
  have H := Lib.hid h
  clear h
  unfold survEarly at he
  simp only [Bool.or_eq_false_iff, decide_eq_false_iff_not, Bool.not_eq_false'] at he
  obtain ⟨hf, h1⟩ := he
  have h1' : ¬ (60 : Int) < (keep.length : Int) := by omega
  have hkl : keep.length ≤ 60 := by omega
  go_enter Try.func4, Try.ntmps4
  go_wp2_with fail
  refine (small_c w).mono ?_
  rintro e w1 ⟨rfl, hb1⟩
  go_wp2_with fail
  refine (few_c _ l w1 (H.out.on hb1).toIn).mono ?_
  rintro e w2 ⟨rfl, h2⟩
  rw [h2, hf]
  clear h2
  go_wp2_with fail
  refine (played_c _ l w1 (H.out.on hb1)).mono ?_
  rintro e w2 ⟨d, rfl, hd2, hb2⟩
  have s1 := hb1.size
  replace hd2 := hd2.mono (T := fun k => w.heap.size ≤ k) (fun k _ e => Nat.le_trans s1 e)
  replace hb2 := hb1.trans (hb2.mono s1)
  clear hb1
  have HB := Lib.hid hb2
  clear hb2
  obtain ⟨X, hX⟩ : ∃ X, X = playM l := ⟨_, rfl⟩
  rw [← hX] at hd2 hs
  clear hX
  go_wp2_with fail
  refine (down_c d _ _ w2 hd2).mono ?_
  rintro e w4 ⟨rfl, h4⟩
  rw [h4]
  clear h4
  have HD := Lib.hid hd2
  clear hd2
  cases hdn : X.down with
  | true =>
    go_wp2_with fail
    go_ret
    exact ⟨rfl, HB.out⟩
  | false =>
    rw [hdn] at hs
    by_cases h0 : f < 0
    · go_wp2_with fail
      go_ret
      exact ⟨rfl, HB.out⟩
    · by_cases h15 : 15 < f
      · go_wp2_with fail
        go_ret
        exact ⟨rfl, HB.out⟩
      · have hok : ok f = true := by unfold ok; rw [decide_eq_true_eq]; omega
        rw [hok] at hs
        have hsz : 100000 < X.size f := by simpa using hs
        have hsz' : (100000 : Int) < ((X.size f : Nat) : Int) := by omega
        go_wp2_with fail
        refine (size_c d _ _ f hf64 w2 HD.out).mono ?_
        rintro e w5 ⟨rfl, h5⟩
        rw [h5]
        clear h5 hs hok
        go_wp2_with fail
        go_ret
        exact ⟨rfl, HB.out⟩

/-- What the law's inner loops are asked: a sector is one or the other. -/
def AltN (Z N : List UInt8) (b : Nat) : Prop := ∀ j, b ≤ j → j < b + 64 → j < Z.length → bt Z j = bt N j
theorem Left.alt {N B Z : List UInt8} (h : Left N B Z) (n b : Nat) (hb : b = 64 * n) : AltN Z N b ∨ AltN Z B b := by
  rcases h.sec n with ⟨_, h2⟩ | h2
  · exact Or.inl fun j h3 h4 h5 => h2 j (by omega) (Nat.lt_of_lt_of_le h5 h.le)
  · exact Or.inr fun j h3 h4 h5 => h2 j (by omega)

set_option maxHeartbeats 8000000 in
set_option maxRecDepth 100000 in
theorem surv_good (v : Value) (l : List Act) (i : Nat) (hi : i < 16) (keep : List Int) (hki : ∀ k ∈ keep, In64 k) (ka : Option Addr) (kc : Nat) (w : World) (h : ActsAt w v l) (hk : SrcV w 1 (.slice ka keep.length kc) keep.length (intsV keep)) (he : survEarly l keep = false)
    (hup : (playM l).down = false) (hsm : (playM l).size (i : Int) ≤ 100000) :
    Calls Try.prog 4 #[v, .int .i64 (i : Int), .slice ka keep.length kc] w fun e w' => e = .returned (.bool true) ∧ Below w.heap.size w w' := by
  have h0 := h
  obtain ⟨_, va, vc, rfl, _⟩ := h0
  have H := Lib.hid h
  have K := Lib.hid hk
  clear h hk
  unfold survEarly at he
  simp only [Bool.or_eq_false_iff, decide_eq_false_iff_not, Bool.not_eq_false'] at he
  obtain ⟨hf, h1⟩ := he
  have h1' : ¬ (60 : Int) < (keep.length : Int) := by omega
  have hkl : keep.length ≤ 60 := by omega
  have hf64 : -9223372036854775808 ≤ (i : Int) ∧ (i : Int) ≤ 9223372036854775807 := by omega
  have hi0 : ¬ (i : Int) < 0 := by omega
  have hi15 : ¬ (15 : Int) < (i : Int) := by omega
  go_enter Try.func4, Try.ntmps4
  go_wp2_with fail
  refine (small_c w).mono ?_
  rintro e w1 ⟨rfl, hb1⟩
  go_wp2_with fail
  refine (few_c _ l w1 (H.out.on hb1).toIn).mono ?_
  rintro e w2 ⟨rfl, h2⟩
  rw [h2, hf]
  clear h2
  go_wp2_with fail
  refine (played_c _ l w1 (H.out.on hb1)).mono ?_
  rintro e w2 ⟨d, rfl, hd2, hb2⟩
  have s1 := hb1.size
  replace hd2 := hd2.mono (T := fun k => w.heap.size ≤ k) (fun k _ e => Nat.le_trans s1 e)
  replace hb2 := hb1.trans (hb2.mono s1)
  have s2 := hb2.size
  clear hb1
  obtain ⟨X, hX⟩ : ∃ X, X = playM l := ⟨_, rfl⟩
  rw [← hX] at hd2 hup hsm
  clear hX
  have hI := hd2.inv
  obtain ⟨N, hNe⟩ : ∃ N, N = (X.file i).now := ⟨_, rfl⟩
  obtain ⟨B, hBe⟩ : ∃ B, B = ((X.crash []).start.file i).now := ⟨_, rfl⟩
  obtain ⟨Z, hZe⟩ : ∃ Z, Z = ((X.crash keep).start.file i).now := ⟨_, rfl⟩
  have hall : ((X.crash [1]).start.file i).now = N := by rw [hNe]; exact crash_all hI hup hi
  have hleft : Left N B Z := by rw [hNe, hBe, hZe, crash_nil hup]; exact crash_left hI hup keep hi
  have hNl : N.length ≤ 16777216 := by rw [hNe]; exact (hI.file i hi).small
  have hsz : X.size (i : Int) = N.length := by rw [size_good hi, ← hNe]
  have hNs : ¬ (100000 : Int) < (N.length : Int) := by omega
  have r1 : X.read (i : Int) 0 16777216 = (N, 0) := read_all hup hi hNe.symm hNl
  have HBE := Lib.hid hBe
  have HZE := Lib.hid hZe
  clear hI hsm hNe hBe hZe
  go_wp2_with fail
  refine (down_c d _ _ w2 hd2).mono ?_
  rw [hup]
  rintro e w4 ⟨rfl, h4⟩
  rw [h4]
  clear h4
  go_wp2_with fail
  refine (size_c d _ _ (i : Int) hf64 w2 hd2).mono ?_
  rw [hsz]
  rintro e w5 ⟨rfl, h5⟩
  rw [h5]
  clear h5 hsz
  go_wp2_with fail
  refine (read_c d _ _ (i : Int) 0 16777216 hf64 (by omega) (by omega) w2 hd2).mono ?_
  rw [r1]
  rintro e w5 ⟨rfl, h5⟩
  rw [h5]
  clear h5 r1
  have HKN := Lib.hid (nil_keep w2 (fun k => w2.heap.size ≤ k))
  go_wp2_with fail
  refine (after_c d _ X i hi (.slice none 0 0) [] w2 hd2 HKN.out (by decide) (by decide)).mono ?_
  rw [← HBE.out]
  rintro e w3 ⟨rfl, hb3⟩
  have hd3 := (hd2.mono (T := fun k => w.heap.size ≤ k ∧ k < w2.heap.size) (fun k hk e => ⟨e, hk⟩)).kept (Kept.below (S := fun _ => False) hb3) (fun _ _ e => e)
  replace hd3 := hd3.mono (T := fun k => w.heap.size ≤ k) (fun k _ e => e.1)
  replace hb3 := hb2.trans (hb3.mono s2)
  have s3 := hb3.size
  clear hd2 hb2 HBE HKN
  go_wp2_with fail
  have hA : Below w3.heap.size w3 (w3.alloc (.cells #[.int .i64 1] 3)) := (Below.refl _ _).alloc (Nat.le_refl _) _
  have hA' := hA.size
  have hdA := (hd3.mono (T := fun k => w.heap.size ≤ k ∧ k < w3.heap.size) (fun k hk e => ⟨e, hk⟩)).kept (Kept.below (S := fun _ => False) hA) (fun _ _ e => e)
  refine (after_c d _ X i hi _ [1] _ hdA (keep_new w3 [1] 1 _ (fun e => by
    have e' : w3.heap.size + 1 ≤ w3.heap.size := by simpa using e
    omega)) (by decide) (by decide)).mono ?_
  rw [hall]
  rintro e w4 ⟨rfl, hb4⟩
  have hd4 := (hdA.mono (T := fun k => w.heap.size ≤ k ∧ k < (w3.alloc (.cells #[.int .i64 1] 3)).heap.size) (fun k hk e => ⟨e.1, hk⟩)).kept (Kept.below (S := fun _ => False) hb4) (fun _ _ e => e)
  replace hd4 := hd4.mono (T := fun k => w.heap.size ≤ k) (fun k _ e => e.1)
  replace hb4 := (hb3.trans (hA.mono s3)).trans (hb4.mono (Nat.le_trans s3 hA'))
  have s4 := hb4.size
  clear hd3 hb3 hA hA' hdA hall
  have hkA := K.out.keepAt hb4 (S := fun k => w4.heap.size ≤ k) (fun k e => Nat.le_trans s4 e)
  go_wp2_with fail
  refine (after_c d _ X i hi (.slice ka keep.length kc) keep w4 hd4 hkA (by omega) hki).mono ?_
  rw [← HZE.out]
  rintro e w5 ⟨rfl, hb5⟩
  replace hb5 := hb4.trans (hb5.mono s4)
  clear hd4 hb4 hkA HZE s1 s2 s3 s4
  have HL := Lib.hid hleft
  have HB := Lib.hid hb5
  have hc1 : ¬ (Z.length : Int) < (B.length : Int) := by have := hleft.ge; omega
  have hc2 : ¬ (N.length : Int) < (Z.length : Int) := by have := hleft.le; omega
  have hBl : B.length ≤ 16777216 := by have := hleft.ge; have := hleft.le; omega
  clear hleft hb5 hki
  have hMN : Z.length ≤ N.length := by omega
  have hMs : Z.length ≤ 100000 := by omega
  have d1 : decide (Z.length < B.length) = false := decide_eq_false (by omega)
  have d2 : decide (N.length < Z.length) = false := decide_eq_false (by omega)
  go_wp2_with fail
  clear d1 d2
  go_loopw [17, 18, 19, 20] (fun v17 _ _ _ wr => ∃ n : Nat, n ≤ Z.length ∧ v17 = .int .i64 (n : Int) ∧ Below w.heap.size w wr) (fun v17 _ _ _ _ => Z.length - (intOf v17).toNat)
  case atStart => exact ⟨0, Nat.zero_le _, rfl, HB.out⟩
  case round =>
    obtain ⟨n, hn, rfl, hb⟩ := hrel
    obtain ⟨b, hbe⟩ : ∃ b, b = 64 * n := ⟨_, rfl⟩
    have hmul : 64 * (n : Int) = (b : Int) := by omega
    have hmul2 : (n : Int) * 64 = (b : Int) := by omega
    have HALT := Lib.hid (HL.out.alt n b hbe)
    have HB' := Lib.hid hb
    clear hb
    by_cases hnM : b < Z.length
    · have hlt : (b : Int) < (Z.length : Int) := by omega
      have hn1 : n + 1 ≤ Z.length := by omega
      have hnn : n ≤ 100000 := by omega
      have HBE := Lib.hid hbe
      clear hbe
      go_wp2_with fail
      go_loopw [18, 19, 20] (fun v18 v19 v20 wx => ∃ (j : Nat) (nw ol : Bool), b ≤ j ∧ j ≤ b + 64 ∧ j ≤ Z.length ∧ v20 = .int .i64 (j : Int) ∧ v18 = .bool nw ∧ v19 = .bool ol ∧ Hid ((AltN Z N b → nw = true) ∧ (AltN Z B b → ol = true)) ∧ Below w.heap.size w wx) (fun _ _ v20 _ => Z.length - (intOf v20).toNat)
      case atStart => exact ⟨b, true, true, Nat.le_refl _, by omega, by omega, rfl, rfl, rfl, Lib.hid ⟨fun _ => rfl, fun _ => rfl⟩, HB'.out⟩
      case round =>
        obtain ⟨j, nw, ol, hj1, hj2, hj3, rfl, rfl, rfl, HF, hbx⟩ := hrel
        have HBX := Lib.hid hbx
        clear hbx
        by_cases hja : j < b + 64
        · by_cases hjb : j < Z.length
          · have ha' : (j : Int) < (b : Int) + 64 := by omega
            have hb' : (j : Int) < (Z.length : Int) := by omega
            have hb'' : (j : Int) < (N.length : Int) := by omega
            have hj0 : (0 : Int) ≤ (j : Int) := by omega
            have ez : ∀ h, (⟨Z.toArray⟩ : ByteArray)[j]'h = bt Z j := fun h => (bt_lt hjb).symm
            have en : ∀ h, (⟨N.toArray⟩ : ByteArray)[j]'h = bt N j := fun h => (bt_lt (show j < N.length by omega)).symm
            have hj16 : j ≤ 16777216 := by omega
            have HO := Lib.hid HF.out.2
            have HN := Lib.hid HF.out.1
            clear HF
            cases nw with
            | true =>
              clear HN
              go_wp2_with fail
              go_quiet (fail)
              generalize hwd : World.drewN _ _ = wy
              have HBY := Lib.hid (show Below w.heap.size w wy by rw [← hwd]; exact below_drewN HBX.out _)
              clear hwd
              generalize hc : (((bt Z j).toNat : Int) == ((bt N j).toNat : Int)) = c
              have HC := Lib.hid hc
              clear hc
              have HE := Lib.hid (show AltN Z N b → c = true from fun h => by rw [← HC.out, h j hj1 hja hjb]; simp)
              cases ol with
              | true =>
                go_wp2_with fail
                go_quiet ((go_at_call 24; exact Calls.quiet_of_same (byteAt_c B j hBl hj16 _)))
                generalize hc2 : (((bt Z j).toNat : Int) == ((bt B j).toNat : Int)) = c2
                have HC2 := Lib.hid hc2
                clear hc2
                have HG := Lib.hid (show AltN Z B b → c2 = true from fun h => by rw [← HC2.out, h j hj1 hja hjb]; simp)
                go_wp2_with fail
                go_roundw
                case rel => exact ⟨j + 1, c, c2, by omega, by omega, by omega, by go_num, rfl, rfl, Lib.hid ⟨HE.out, HG.out⟩, below_drewN HBY.out _⟩
                case measure => simp [intOf]; omega
              | false =>
                go_wp2_with fail
                go_quiet ((go_at_call 24; exact Calls.quiet_of_same (byteAt_c B j hBl hj16 _)))
                have HG := Lib.hid (show AltN Z B b → false = true from fun h => HO.out h)
                go_wp2_with fail
                go_roundw
                case rel => exact ⟨j + 1, c, false, by omega, by omega, by omega, by go_num, rfl, rfl, Lib.hid ⟨HE.out, HG.out⟩, below_drewN HBY.out _⟩
                case measure => simp [intOf]; omega
            | false =>
              have HE := Lib.hid (show AltN Z N b → false = true from fun h => HN.out h)
              clear HN
              go_wp2_with fail
              go_quiet (fail)
              generalize hwd : World.drewN _ _ = wy
              have HBY := Lib.hid (show Below w.heap.size w wy by rw [← hwd]; exact below_drewN HBX.out _)
              clear hwd
              cases ol with
              | true =>
                go_wp2_with fail
                go_quiet ((go_at_call 24; exact Calls.quiet_of_same (byteAt_c B j hBl hj16 _)))
                generalize hc2 : (((bt Z j).toNat : Int) == ((bt B j).toNat : Int)) = c2
                have HC2 := Lib.hid hc2
                clear hc2
                have HG := Lib.hid (show AltN Z B b → c2 = true from fun h => by rw [← HC2.out, h j hj1 hja hjb]; simp)
                go_wp2_with fail
                go_roundw
                case rel => exact ⟨j + 1, false, c2, by omega, by omega, by omega, by go_num, rfl, rfl, Lib.hid ⟨HE.out, HG.out⟩, below_drewN HBY.out _⟩
                case measure => simp [intOf]; omega
              | false =>
                go_wp2_with fail
                go_quiet ((go_at_call 24; exact Calls.quiet_of_same (byteAt_c B j hBl hj16 _)))
                have HG := Lib.hid (show AltN Z B b → false = true from fun h => HO.out h)
                go_wp2_with fail
                go_roundw
                case rel => exact ⟨j + 1, false, false, by omega, by omega, by omega, by go_num, rfl, rfl, Lib.hid ⟨HE.out, HG.out⟩, below_drewN HBY.out _⟩
                case measure => simp [intOf]; omega
          · have ha' : (j : Int) < (b : Int) + 64 := by omega
            have hb' : ¬ (j : Int) < (Z.length : Int) := by omega
            cases nw with
            | true =>
              go_wp2_with fail
              go_roundw
              case rel => exact ⟨n + 1, hn1, by go_num, HBX.out⟩
              case measure => simp [intOf]; omega
            | false =>
              cases ol with
              | false =>
                rcases HALT.out with h | h
                · exact absurd (HF.out.1 h) (by simp)
                · exact absurd (HF.out.2 h) (by simp)
              | true =>
                go_wp2_with fail
                go_roundw
                case rel => exact ⟨n + 1, hn1, by go_num, HBX.out⟩
                case measure => simp [intOf]; omega
        · have ha' : ¬ (j : Int) < (b : Int) + 64 := by omega
          cases nw with
          | true =>
            go_wp2_with fail
            go_roundw
            case rel => exact ⟨n + 1, hn1, by go_num, HBX.out⟩
            case measure => simp [intOf]; omega
          | false =>
            cases ol with
            | false =>
              rcases HALT.out with h | h
              · exact absurd (HF.out.1 h) (by simp)
              · exact absurd (HF.out.2 h) (by simp)
            | true =>
              go_wp2_with fail
              go_roundw
              case rel => exact ⟨n + 1, hn1, by go_num, HBX.out⟩
              case measure => simp [intOf]; omega
    · have hlt : ¬ (b : Int) < (Z.length : Int) := by omega
      clear hbe
      go_wp2_with fail
      go_ret
      exact ⟨rfl, HB'.out⟩

theorem surv_law (v : Value) (l : List Act) (f : Int) (hf64 : In64 f) (keep : List Int) (hkl : keep.length ≤ 9223372036854775807) (hki : ∀ k ∈ keep, In64 k) (ka : Option Addr) (kc : Nat) (w : World) (h : ActsIn w v l)
    (hk : SrcV w 1 (.slice ka keep.length kc) keep.length (intsV keep)) :
    Calls Try.prog 4 #[v, .int .i64 f, .slice ka keep.length kc] w fun e w' => e = .returned (.bool true) ∧ Below w.heap.size w w' := by
  cases he : survEarly l keep with
  | true => exact surv_out v l f keep ka kc hkl w h he
  | false =>
    have he' := he
    unfold survEarly at he'
    simp only [Bool.or_eq_false_iff, decide_eq_false_iff_not, Bool.not_eq_false'] at he'
    have h' := h.few he'.1
    cases hs : (playM l).down || !ok f || decide (100000 < (playM l).size f) with
    | true => exact surv_skip v l f hf64 keep ka kc w h' he hs
    | false =>
      simp only [Bool.or_eq_false_iff, decide_eq_false_iff_not, Bool.not_eq_false'] at hs
      obtain ⟨⟨hup, hok⟩, hsm⟩ := hs
      unfold ok at hok
      rw [decide_eq_true_eq] at hok
      obtain ⟨i, rfl⟩ := Int.eq_ofNat_of_zero_le hok.1
      exact surv_good v l i (by omega) keep hki ka kc w h' hk he hup (by omega)
end Go.Proofs.Ythibikdnoogfoaa
