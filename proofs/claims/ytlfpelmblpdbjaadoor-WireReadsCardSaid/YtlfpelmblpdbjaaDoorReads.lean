/-
  WireReads: for all strings and sequences of calls, the reader of package wire returns what the reference's returns, also after it has failed.
-/
import Derived.Test.YtlfpelmblpdbjaaDoorRefReadD
import Derived.Test.YtlfpelmblpdbjaaDoorBack
namespace Go.Proofs.YtlfpelmblpdbjaaDoor
open Go Go.RowKit Go.Sort Wire

theorem Qd.only {w w' : World} {b1 b2 : Nat} {r : List UInt8} {f : Bool} (h : Qd w b2 r f) (ho : Only b1 w w') (hne : b1 ≠ b2) : Qd w' b2 r f := (ho.block b2 h.lt (by intro e; injection e with e; exact hne e.symm)).trans h
theorem Rd.only {w w' : World} {b1 b2 : Nat} {r : List UInt8} {f : Bool} (h : Rd w b1 r f) (ho : Only b2 w w') (hne : b2 ≠ b1) : Rd w' b1 r f := (ho.block b1 h.lt (by intro e; injection e with e; exact hne e.symm)).trans h

theorem num_both (b1 b2 : Nat) (r : List UInt8) (f : Bool) (hf : f = true → r = []) (hlen : r.length ≤ 400) : ∃ (x : Int) (r' : List UInt8) (f' : Bool), (f' = true → r' = []) ∧ r'.length ≤ 400 ∧
    (∀ w, Good w → Rd w b1 r f → Calls Tryd.prog 24 #[.pointer (some ⟨b1, 0, none⟩)] w fun v w' => v = .returned (.int .i64 x) ∧ Rd w' b1 r' f' ∧ Only b1 w w') ∧
    (∀ w, Qd w b2 r f → Calls Tryd.prog 25 #[.pointer (some ⟨b2, 0, none⟩)] w fun v w' => v = .returned (.int .i64 x) ∧ Qd w' b2 r' f' ∧ Only b2 w w') := by
  cases hx : rNum 59 r with
  | none => exact ⟨0, [], true, fun _ => rfl, by simp, fun w hg h => rNumM_no b1 r f hx (by omega) w hg h, fun w h => qNumM_no b2 r f hx (by omega) w h⟩
  | some p =>
    obtain ⟨x, r'⟩ := p
    have hfF : f = false := by
      cases f
      · rfl
      · rw [hf rfl] at hx; cases hx
    subst hfF
    have hs := rNum_shorter (by decide) hx
    exact ⟨x, r', false, nofun, by omega, fun w hg h => rNumM_ok b1 r false x r' hx (by omega) w hg h, fun w h => qNumM_ok b2 r false x r' hx (by omega) w h⟩

theorem int_both (b1 b2 : Nat) (r : List UInt8) (f : Bool) (hf : f = true → r = []) (hlen : r.length ≤ 400) : ∃ (x : Int) (r' : List UInt8) (f' : Bool), (f' = true → r' = []) ∧ r'.length ≤ 400 ∧
    (∀ w, Good w → Rd w b1 r f → Calls Tryd.prog 26 #[.pointer (some ⟨b1, 0, none⟩)] w fun v w' => v = .returned (.int .i64 x) ∧ Rd w' b1 r' f' ∧ Only b1 w w') ∧
    (∀ w, Qd w b2 r f → Calls Tryd.prog 27 #[.pointer (some ⟨b2, 0, none⟩)] w fun v w' => v = .returned (.int .i64 x) ∧ Qd w' b2 r' f' ∧ Only b2 w w') := by
  cases hx : rInt 59 r with
  | none => exact ⟨0, [], true, fun _ => rfl, by simp, fun w hg h => rIntM_no b1 r f hx (by omega) w hg h, fun w h => qIntM_no b2 r f hx (by omega) w h⟩
  | some p =>
    obtain ⟨x, r'⟩ := p
    have hfF : f = false := by
      cases f
      · rfl
      · rw [hf rfl] at hx; cases hx
    subst hfF
    have hs := rInt_shorter (by decide) hx
    exact ⟨x, r', false, nofun, by omega, fun w hg h => rIntM_ok b1 r false x r' hx (by omega) w hg h, fun w h => qIntM_ok b2 r false x r' hx (by omega) w h⟩

theorem text_both (b1 b2 : Nat) (r : List UInt8) (f : Bool) (hf : f = true → r = []) (hlen : r.length ≤ 400) : ∃ (x : List UInt8) (r' : List UInt8) (f' : Bool), (f' = true → r' = []) ∧ r'.length ≤ 400 ∧
    (∀ w, Good w → Rd w b1 r f → Calls Tryd.prog 28 #[.pointer (some ⟨b1, 0, none⟩)] w fun v w' => v = .returned (.string ⟨x.toArray⟩) ∧ Rd w' b1 r' f' ∧ Only b1 w w') ∧
    (∀ w, Qd w b2 r f → Calls Tryd.prog 29 #[.pointer (some ⟨b2, 0, none⟩)] w fun v w' => v = .returned (.string ⟨x.toArray⟩) ∧ Qd w' b2 r' f' ∧ Only b2 w w') := by
  cases hx : rText r with
  | none => exact ⟨[], [], true, fun _ => rfl, by simp, fun w hg h => rTextM_no b1 r f hx (by omega) w hg h, fun w h => qTextM_no b2 r f hf hx (by omega) w h⟩
  | some p =>
    obtain ⟨x, r'⟩ := p
    have hfF : f = false := by
      cases f
      · rfl
      · rw [hf rfl] at hx; cases hx
    subst hfF
    have hs := rText_shorter hx
    exact ⟨x, r', false, nofun, by omega, fun w hg h => rTextM_ok b1 r false x r' hx (by omega) w hg h, fun w h => qTextM_ok b2 r x r' hx (by omega) w h⟩

theorem nums_both (b1 b2 : Nat) (hb1 : 6 ≤ b1) (r : List UInt8) (f : Bool) (hf : f = true → r = []) (hlen : r.length ≤ 400) : ∃ (l : List Int) (r' : List UInt8) (f' : Bool), (f' = true → r' = []) ∧ r'.length ≤ 400 ∧
    (∀ w, Good w → Rd w b1 r f → Calls Tryd.prog 31 #[.pointer (some ⟨b1, 0, none⟩)] w fun e w' => ∃ v, e = .returned v ∧ w'.ownsRow w.heap.size 3 1 v l.length (ints l) ∧ Rd w' b1 r' f' ∧ Only b1 w w') ∧
    (∀ w, Qd w b2 r f → Calls Tryd.prog 32 #[.pointer (some ⟨b2, 0, none⟩)] w fun e w' => ∃ v, e = .returned v ∧ w'.ownsRow w.heap.size 3 1 v l.length (ints l) ∧ Qd w' b2 r' f' ∧ Only b2 w w') := by
  cases hx : rList (rInt 59) r with
  | none =>
    refine ⟨[], [], true, fun _ => rfl, by simp, fun w hg h => (rNumsM_c b1 r f hf (by omega) w hg hb1 h).mono ?_, fun w h => (qNums_c b2 r f hf (by omega) w h).mono ?_⟩
    · rintro e w' ⟨ho, ⟨l, q, v, h1, _⟩ | ⟨_, h2, h3⟩⟩
      · rw [hx] at h1; cases h1
      · exact ⟨_, h2, World.ownsRow_nil _ _ _ _, h3, ho⟩
    · rintro e w' ⟨ho, ⟨l, q, v, h1, _⟩ | ⟨_, h2, h3⟩⟩
      · rw [hx] at h1; cases h1
      · exact ⟨_, h2, World.ownsRow_nil _ _ _ _, h3, ho⟩
  | some p =>
    obtain ⟨l0, r'⟩ := p
    have hs : r'.length ≤ 400 := by
      obtain ⟨_, _, hh⟩ := (rList_iff (ok := InR) (enc := eInt) (fun s a r => rInt59_iff s a r) r l0 r').1 hx
      rw [hh, List.length_append] at hlen
      omega
    refine ⟨l0, r', false, nofun, hs, fun w hg h => (rNumsM_c b1 r f hf (by omega) w hg hb1 h).mono ?_, fun w h => (qNums_c b2 r f hf (by omega) w h).mono ?_⟩
    · rintro e w' ⟨ho, ⟨l, q, v, h1, h2, h3, h4⟩ | ⟨h1, _⟩⟩
      · rw [hx] at h1
        injection h1 with h1
        injection h1 with h1 h1'
        subst h1 h1'
        exact ⟨v, h2, h3, h4, ho⟩
      · rw [hx] at h1; cases h1
    · rintro e w' ⟨ho, ⟨l, q, v, h1, h2, h3, h4⟩ | ⟨h1, _⟩⟩
      · rw [hx] at h1
        injection h1 with h1
        injection h1 with h1 h1'
        subst h1 h1'
        exact ⟨v, h2, h3, h4, ho⟩
      · rw [hx] at h1; cases h1

theorem texts_both (b1 b2 : Nat) (hb1 : 6 ≤ b1) (r : List UInt8) (f : Bool) (hf : f = true → r = []) (hlen : r.length ≤ 400) : ∃ (l : List (List UInt8)) (r' : List UInt8) (f' : Bool), (f' = true → r' = []) ∧ r'.length ≤ 400 ∧
    (∀ w, Good w → Rd w b1 r f → Calls Tryd.prog 34 #[.pointer (some ⟨b1, 0, none⟩)] w fun e w' => ∃ v, e = .returned v ∧ w'.ownsRow w.heap.size 9 1 v l.length (strs l) ∧ Rd w' b1 r' f' ∧ Only b1 w w') ∧
    (∀ w, Qd w b2 r f → Calls Tryd.prog 35 #[.pointer (some ⟨b2, 0, none⟩)] w fun e w' => ∃ v, e = .returned v ∧ w'.ownsRow w.heap.size 9 1 v l.length (strs l) ∧ Qd w' b2 r' f' ∧ Only b2 w w') := by
  cases hx : rList rText r with
  | none =>
    refine ⟨[], [], true, fun _ => rfl, by simp, fun w hg h => (rTextsM_c b1 r f hf (by omega) w hg hb1 h).mono ?_, fun w h => (qTexts_c b2 r f hf (by omega) w h).mono ?_⟩
    · rintro e w' ⟨ho, ⟨l, q, v, h1, _⟩ | ⟨_, h2, h3⟩⟩
      · rw [hx] at h1; cases h1
      · exact ⟨_, h2, World.ownsRow_nil _ _ _ _, h3, ho⟩
    · rintro e w' ⟨ho, ⟨l, q, v, h1, _⟩ | ⟨_, h2, h3⟩⟩
      · rw [hx] at h1; cases h1
      · exact ⟨_, h2, World.ownsRow_nil _ _ _ _, h3, ho⟩
  | some p =>
    obtain ⟨l0, r'⟩ := p
    have hs : r'.length ≤ 400 := by
      obtain ⟨_, _, hh⟩ := (rList_iff (ok := fun t => InR t.length) (enc := eText) (fun s a r => rText_iff s a r) r l0 r').1 hx
      rw [hh, List.length_append] at hlen
      omega
    refine ⟨l0, r', false, nofun, hs, fun w hg h => (rTextsM_c b1 r f hf (by omega) w hg hb1 h).mono ?_, fun w h => (qTexts_c b2 r f hf (by omega) w h).mono ?_⟩
    · rintro e w' ⟨ho, ⟨l, q, v, h1, h2, h3, h4⟩ | ⟨h1, _⟩⟩
      · rw [hx] at h1
        injection h1 with h1
        injection h1 with h1 h1'
        subst h1 h1'
        exact ⟨v, h2, h3, h4, ho⟩
      · rw [hx] at h1; cases h1
    · rintro e w' ⟨ho, ⟨l, q, v, h1, h2, h3, h4⟩ | ⟨h1, _⟩⟩
      · rw [hx] at h1
        injection h1 with h1
        injection h1 with h1 h1'
        subst h1 h1'
        exact ⟨v, h2, h3, h4, ho⟩
      · rw [hx] at h1; cases h1

set_option maxHeartbeats 4000000 in
set_option maxRecDepth 100000 in
theorem reads_c (s : List UInt8) (hs : s.length ≤ 9223372036854775807) (calls : List Int) (v : Value) (hcalls : ∀ y ∈ calls, InR y) (w : World) (hg : Good w) (hv : RowAt w v (ints calls)) :
    Calls Tryd.prog 4 #[.string ⟨s.toArray⟩, v] w fun e w' => e = .returned (.bool true) ∧ Below w.heap.size w w' := by
  obtain ⟨h0, a, cap, rfl, hcells⟩ := hv
  have hlen : (ints calls).length = calls.length := by simp [ints]
  rw [hlen] at h0 ⊢
  have HC := Lib.hid hcells
  clear hcells hlen
  go_enter Tryd.func4, Tryd.ntmps4
  go_wp2_with fail
  refine (small_c _ hg).mono ?_
  rintro e w1 ⟨rfl, hb1⟩
  have hg1 := hg.on hb1
  by_cases h400 : 400 < s.length
  · go_wp2_with fail
    go_ret
    exact ⟨rfl, hb1⟩
  · by_cases h20 : 20 < calls.length
    · go_wp2_with fail
      go_ret
      exact ⟨rfl, hb1⟩
    · go_wp2_with fail
      refine (rOpen_c s _).mono ?_
      rintro e w2 ⟨rfl, hr2, hb2⟩
      have hB6 : 6 ≤ w1.heap.size := hg1.big
      have hB1 : w.heap.size ≤ w1.heap.size := hb1.size
      have hb12 := chain hb1 hb2
      go_wp2_with fail
      refine (qOpen_c s _).mono ?_
      rintro e w3 ⟨rfl, hq3, hb3⟩
      have hlt2 := hr2.lt
      have hne : w1.heap.size ≠ w2.heap.size := by omega
      have hB2 : w.heap.size ≤ w2.heap.size := by omega
      have hr3 := hr2.on hb3
      have hbb := chain hb12 hb3
      clear hb1 hb2 hb12 hb3 hr2 hlt2 hg1
      go_wp2_with fail
      go_loopw [8] (fun i wr => ∃ (k : Nat) (cur : List UInt8) (f : Bool), k ≤ calls.length ∧ i = .int .i64 k ∧ Rd wr w1.heap.size cur f ∧ Qd wr w2.heap.size cur f ∧ (f = true → cur = []) ∧ cur.length ≤ 400 ∧ Below w.heap.size w wr) (fun i _ => calls.length - (intOf i).toNat)
      case atStart => exact ⟨0, s, false, Nat.zero_le _, rfl, hr3, hq3, nofun, by omega, hbb⟩
      case round =>
        obtain ⟨k, cur, f, hk, rfl, hrk, hqk, hinv, hcl, hbk⟩ := hrel
        clear hr3 hq3 hbb
        have hgk := hg.on hbk
        by_cases hlt : k < calls.length
        · obtain ⟨c, hx⟩ : ∃ c, calls[k]? = some c := ⟨calls[k], List.getElem?_eq_getElem hlt⟩
          obtain ⟨b, off, rfl, hc⟩ := HC.out (by intro h; have := congrArg List.length h; simp [ints] at this; subst this; simp at hlt)
          have hck := hc k _ (ints_get hx)
          have hcr : wr.cell? ⟨b, off + k, none⟩ = some (.int .i64 c) := by rw [hbk.cell (lt_of_cell hck)]; exact hck
          have hcin : InR c := hcalls c (List.mem_of_getElem? hx)
          clear hx hck hc HC hcalls
          rcases kinds5 c with hj | hj | hj | hj | hj
          · obtain ⟨x, r', f', hinv', hle', HW, HQ⟩ := num_both w1.heap.size w2.heap.size cur f hinv hcl
            have HJ := Lib.hid hj
            have HWh := Lib.hid HW
            have HQh := Lib.hid HQ
            clear hj HW HQ
            go_wp2_with fail
            refine (kind_j c 0 hcin HJ.out _ _ _ _ _).mono ?_
            rintro e w3 ⟨rfl, hb3⟩
            have hbk3 := chain hbk hb3
            have hr3 := hrk.on hb3
            have hq3 := hqk.on hb3
            have hg3 := hg.on hbk3
            clear hb3 hbk hrk hqk hgk
            go_wp2_with fail
            refine (HWh.out _ hg3 hr3).mono ?_
            rintro e w4 ⟨rfl, hr4, ho4⟩
            have hq4 := hq3.only ho4 hne
            go_wp2_with fail
            refine (HQh.out _ hq4).mono ?_
            rintro e w5 ⟨rfl, hq5, ho5⟩
            have hr5 := hr4.only ho5 hne.symm
            have hb5 := chainO (chainO hbk3 ho4 hB1) ho5 hB2
            clear hr3 hq3 hr4 hq4 ho4 ho5 hbk3
            go_wp2_with fail
            refine (rLeft_c _ _ _ _ hr5).mono ?_
            rintro e w6 ⟨rfl, rfl⟩
            go_wp2_with fail
            refine (qLeft_c _ _ _ _ hq5).mono ?_
            rintro e w7 ⟨rfl, rfl⟩
            go_wp2_with fail
            refine (rDone_c _ _ _ _ hr5).mono ?_
            rintro e w8 ⟨rfl, rfl⟩
            go_wp2_with fail
            refine (qDone_c _ _ _ _ hq5).mono ?_
            rintro e w9 ⟨rfl, rfl⟩
            go_wp2_with fail
            go_roundw
            case rel => exact ⟨k + 1, r', f', by omega, by go_num, hr5, hq5, hinv', hle', hb5⟩
            case measure => simp [intOf]; omega
          · obtain ⟨x, r', f', hinv', hle', HW, HQ⟩ := int_both w1.heap.size w2.heap.size cur f hinv hcl
            have HJ := Lib.hid hj
            have HWh := Lib.hid HW
            have HQh := Lib.hid HQ
            clear hj HW HQ
            go_wp2_with fail
            refine (kind_j c 1 hcin HJ.out _ _ _ _ _).mono ?_
            rintro e w3 ⟨rfl, hb3⟩
            have hbk3 := chain hbk hb3
            have hr3 := hrk.on hb3
            have hq3 := hqk.on hb3
            have hg3 := hg.on hbk3
            clear hb3 hbk hrk hqk hgk
            go_wp2_with fail
            refine (HWh.out _ hg3 hr3).mono ?_
            rintro e w4 ⟨rfl, hr4, ho4⟩
            have hq4 := hq3.only ho4 hne
            go_wp2_with fail
            refine (HQh.out _ hq4).mono ?_
            rintro e w5 ⟨rfl, hq5, ho5⟩
            have hr5 := hr4.only ho5 hne.symm
            have hb5 := chainO (chainO hbk3 ho4 hB1) ho5 hB2
            clear hr3 hq3 hr4 hq4 ho4 ho5 hbk3
            go_wp2_with fail
            refine (rLeft_c _ _ _ _ hr5).mono ?_
            rintro e w6 ⟨rfl, rfl⟩
            go_wp2_with fail
            refine (qLeft_c _ _ _ _ hq5).mono ?_
            rintro e w7 ⟨rfl, rfl⟩
            go_wp2_with fail
            refine (rDone_c _ _ _ _ hr5).mono ?_
            rintro e w8 ⟨rfl, rfl⟩
            go_wp2_with fail
            refine (qDone_c _ _ _ _ hq5).mono ?_
            rintro e w9 ⟨rfl, rfl⟩
            go_wp2_with fail
            go_roundw
            case rel => exact ⟨k + 1, r', f', by omega, by go_num, hr5, hq5, hinv', hle', hb5⟩
            case measure => simp [intOf]; omega
          · obtain ⟨x, r', f', hinv', hle', HW, HQ⟩ := text_both w1.heap.size w2.heap.size cur f hinv hcl
            have HJ := Lib.hid hj
            have HWh := Lib.hid HW
            have HQh := Lib.hid HQ
            clear hj HW HQ
            go_wp2_with fail
            refine (kind_j c 2 hcin HJ.out _ _ _ _ _).mono ?_
            rintro e w3 ⟨rfl, hb3⟩
            have hbk3 := chain hbk hb3
            have hr3 := hrk.on hb3
            have hq3 := hqk.on hb3
            have hg3 := hg.on hbk3
            clear hb3 hbk hrk hqk hgk
            go_wp2_with fail
            refine (HWh.out _ hg3 hr3).mono ?_
            rintro e w4 ⟨rfl, hr4, ho4⟩
            have hq4 := hq3.only ho4 hne
            go_wp2_with fail
            refine (HQh.out _ hq4).mono ?_
            rintro e w5 ⟨rfl, hq5, ho5⟩
            have hr5 := hr4.only ho5 hne.symm
            have hb5 := chainO (chainO hbk3 ho4 hB1) ho5 hB2
            clear hr3 hq3 hr4 hq4 ho4 ho5 hbk3
            go_wp2_with fail
            refine (rLeft_c _ _ _ _ hr5).mono ?_
            rintro e w6 ⟨rfl, rfl⟩
            go_wp2_with fail
            refine (qLeft_c _ _ _ _ hq5).mono ?_
            rintro e w7 ⟨rfl, rfl⟩
            go_wp2_with fail
            refine (rDone_c _ _ _ _ hr5).mono ?_
            rintro e w8 ⟨rfl, rfl⟩
            go_wp2_with fail
            refine (qDone_c _ _ _ _ hq5).mono ?_
            rintro e w9 ⟨rfl, rfl⟩
            go_wp2_with fail
            go_roundw
            case rel => exact ⟨k + 1, r', f', by omega, by go_num, hr5, hq5, hinv', hle', hb5⟩
            case measure => simp [intOf]; omega
          · obtain ⟨l, r', f', hinv', hle', HW, HQ⟩ := nums_both w1.heap.size w2.heap.size hB6 cur f hinv hcl
            have HJ := Lib.hid hj
            have HWh := Lib.hid HW
            have HQh := Lib.hid HQ
            clear hj HW HQ
            go_wp2_with fail
            refine (kind_j c 3 hcin HJ.out _ _ _ _ _).mono ?_
            rintro e w3 ⟨rfl, hb3⟩
            have hbk3 := chain hbk hb3
            have hr3 := hrk.on hb3
            have hq3 := hqk.on hb3
            have hg3 := hg.on hbk3
            clear hb3 hbk hrk hqk hgk
            go_wp2_with fail
            refine (HWh.out _ hg3 hr3).mono ?_
            rintro e w4 ⟨v1, rfl, hown1, hr4, ho4⟩
            have hq4 := hq3.only ho4 hne
            go_wp2_with fail
            refine (HQh.out _ hq4).mono ?_
            rintro e w5 ⟨v2, rfl, hown2, hq5, ho5⟩
            have hr5' := hr4.only ho5 hne.symm
            have hb5' := chainO (chainO hbk3 ho4 hB1) ho5 hB2
            have hro1 := owned_row (owned_only hown1 ho5 hq3.lt)
            have hro2 := owned_row hown2
            go_wp2_with fail
            refine (sameNums_c l v1 v2 _ hro1 hro2).mono ?_
            rintro e w5b ⟨rfl, hb5b⟩
            have hr5 := hr5'.on hb5b
            have hq5 := hq5.on hb5b
            have hb5 := chain hb5' hb5b
            clear hr3 hq3 hr4 hq4 ho4 ho5 hbk3 hr5' hb5' hb5b hown1 hown2 hro1 hro2
            go_wp2_with fail
            refine (rLeft_c _ _ _ _ hr5).mono ?_
            rintro e w6 ⟨rfl, rfl⟩
            go_wp2_with fail
            refine (qLeft_c _ _ _ _ hq5).mono ?_
            rintro e w7 ⟨rfl, rfl⟩
            go_wp2_with fail
            refine (rDone_c _ _ _ _ hr5).mono ?_
            rintro e w8 ⟨rfl, rfl⟩
            go_wp2_with fail
            refine (qDone_c _ _ _ _ hq5).mono ?_
            rintro e w9 ⟨rfl, rfl⟩
            go_wp2_with fail
            go_roundw
            case rel => exact ⟨k + 1, r', f', by omega, by go_num, hr5, hq5, hinv', hle', hb5⟩
            case measure => simp [intOf]; omega
          · obtain ⟨l, r', f', hinv', hle', HW, HQ⟩ := texts_both w1.heap.size w2.heap.size hB6 cur f hinv hcl
            have HJ := Lib.hid hj
            have HWh := Lib.hid HW
            have HQh := Lib.hid HQ
            clear hj HW HQ
            go_wp2_with fail
            refine (kind_j c 4 hcin HJ.out _ _ _ _ _).mono ?_
            rintro e w3 ⟨rfl, hb3⟩
            have hbk3 := chain hbk hb3
            have hr3 := hrk.on hb3
            have hq3 := hqk.on hb3
            have hg3 := hg.on hbk3
            clear hb3 hbk hrk hqk hgk
            go_wp2_with fail
            refine (HWh.out _ hg3 hr3).mono ?_
            rintro e w4 ⟨v1, rfl, hown1, hr4, ho4⟩
            have hq4 := hq3.only ho4 hne
            go_wp2_with fail
            refine (HQh.out _ hq4).mono ?_
            rintro e w5 ⟨v2, rfl, hown2, hq5, ho5⟩
            have hr5' := hr4.only ho5 hne.symm
            have hb5' := chainO (chainO hbk3 ho4 hB1) ho5 hB2
            have hro1 := owned_row (owned_only hown1 ho5 hq3.lt)
            have hro2 := owned_row hown2
            go_wp2_with fail
            refine (sameTexts_c l v1 v2 _ hro1 hro2).mono ?_
            rintro e w5b ⟨rfl, hb5b⟩
            have hr5 := hr5'.on hb5b
            have hq5 := hq5.on hb5b
            have hb5 := chain hb5' hb5b
            clear hr3 hq3 hr4 hq4 ho4 ho5 hbk3 hr5' hb5' hb5b hown1 hown2 hro1 hro2
            go_wp2_with fail
            refine (rLeft_c _ _ _ _ hr5).mono ?_
            rintro e w6 ⟨rfl, rfl⟩
            go_wp2_with fail
            refine (qLeft_c _ _ _ _ hq5).mono ?_
            rintro e w7 ⟨rfl, rfl⟩
            go_wp2_with fail
            refine (rDone_c _ _ _ _ hr5).mono ?_
            rintro e w8 ⟨rfl, rfl⟩
            go_wp2_with fail
            refine (qDone_c _ _ _ _ hq5).mono ?_
            rintro e w9 ⟨rfl, rfl⟩
            go_wp2_with fail
            go_roundw
            case rel => exact ⟨k + 1, r', f', by omega, by go_num, hr5, hq5, hinv', hle', hb5⟩
            case measure => simp [intOf]; omega
        · obtain rfl : k = calls.length := by omega
          go_wp2_with fail
          refine (rRest_c _ _ _ _ hrk).mono ?_
          rintro e w4 ⟨rfl, hr4, ho4⟩
          have hq4 := hqk.only ho4 hne
          go_wp2_with fail
          refine (qRest_c _ _ _ _ hq4).mono ?_
          rintro e w5 ⟨rfl, hq5, ho5⟩
          have hr5 := hr4.only ho5 hne.symm
          have hb5 := chainO (chainO hbk ho4 hB1) ho5 hB2
          clear hr4 hq4 ho4 ho5 hrk hqk
          go_wp2_with fail
          refine (rLeft_c _ _ _ _ hr5).mono ?_
          rintro e w6 ⟨rfl, rfl⟩
          go_wp2_with fail
          refine (qLeft_c _ _ _ _ hq5).mono ?_
          rintro e w7 ⟨rfl, rfl⟩
          go_wp2_with fail
          refine (rDone_c _ _ _ _ hr5).mono ?_
          rintro e w8 ⟨rfl, rfl⟩
          go_wp2_with fail
          refine (qDone_c _ _ _ _ hq5).mono ?_
          rintro e w9 ⟨rfl, rfl⟩
          go_wp2_with fail
          go_ret
          exact ⟨ret_bool (by simp), hb5⟩
end Go.Proofs.YtlfpelmblpdbjaaDoor
