/-
  WireAgain: whatever string and kind: if a reader reads a value at the beginning without failing, its encoding is exactly what was read. No condition.
-/
import Derived.Test.YtlfpelmblpdbjaaDoorHelp
namespace Go.Proofs.YtlfpelmblpdbjaaDoor
open Go Go.RowKit Go.Sort Wire

theorem kind_at (k j : Int) (hk : InR k) (hj : k % 5 = j) (v1 v2 v3 v4 : Value) (w : World) : Calls Tryd.prog 23 #[.agg #[.int .i64 k, v1, v2, v3, v4]] w fun e w' => e = .returned (.int .i64 j) ∧ Below w.heap.size w w' :=
  (kind_c k hk v1 v2 v3 v4 w).mono fun _ _ ⟨he, hb⟩ => ⟨by rw [he, hj], hb⟩
theorem nil_row (w : World) : RowAt w (.slice none 0 0) [] := ⟨by simp, none, 0, rfl, fun h => absurd rfl h⟩
theorem int_e (s r : List UInt8) (n : Int) (h : rInt 59 s = some (n, r)) : InR n ∧ s = eInt n ++ r := (rInt59_iff s n r).1 h
theorem num_e (s r : List UInt8) (n : Int) (h : rNum 59 s = some (n, r)) : InR n ∧ s = eNum n ++ r := by
  obtain ⟨h0, h1, h2⟩ := (rNum_iff 59 (by decide) s n r).1 h
  refine ⟨h1, ?_⟩
  unfold eNum
  rw [if_neg (by omega), h2]
  unfold eInt
  simp
theorem nums_e (s r : List UInt8) (l : List Int) (h : rList (rInt 59) s = some (l, r)) : (∀ n ∈ l, InR n) ∧ s = eList eInt l ++ r :=
  ((rList_iff (ok := InR) (enc := eInt) (fun s a r => rInt59_iff s a r) s l r).1 h).2
theorem texts_e (s r : List UInt8) (l : List (List UInt8)) (h : rList rText s = some (l, r)) : s = eList eText l ++ r :=
  ((rList_iff (ok := fun t => InR t.length) (enc := eText) (fun s a r => rText_iff s a r) s l r).1 h).2.2
theorem flat_le {α : Type} (enc : α → List UInt8) (l : List α) (s r : List UInt8) (h : s = eList enc l ++ r) : (l.flatMap enc).length ≤ s.length := by
  rw [h]
  unfold eList
  simp only [List.length_append]
  omega
theorem ba_list (l : List UInt8) : (⟨l.toArray⟩ : ByteArray).toList = l := by simp
theorem taken (t r s : List UInt8) (h : s = t ++ r) : t = s.take (s.length - r.length) := by
  rw [h]
  simp
theorem again_long (s : List UInt8) (what : Int) (h400 : 400 < s.length) (hm : s.length ≤ 9223372036854775807) (w : World) (hg : Good w) :
    Calls Tryd.prog 6 #[.string ⟨s.toArray⟩, .int .i64 what] w fun e w' => e = .returned (.bool true) ∧ Below w.heap.size w w' := by
  go_enter Tryd.func6, Tryd.ntmps6
  go_wp2_with fail
  refine (small_c _ hg).mono ?_
  rintro e w1 ⟨rfl, hb1⟩
  go_wp2_with fail
  go_ret
  exact ⟨rfl, hb1⟩

set_option maxRecDepth 100000 in
theorem againNum_ok (s : List UInt8) (what : Int) (hw : InR what) (hj : what % 5 = 0) (n : Int) (r : List UInt8) (hr : rNum 59 s = some (n, r)) (h400 : s.length ≤ 400) (w : World) (hg : Good w) :
    Calls Tryd.prog 6 #[.string ⟨s.toArray⟩, .int .i64 what] w fun e w' => e = .returned (.bool true) ∧ Below w.heap.size w w' := by
  have hin := (num_e s r n hr).1
  have HS := Lib.hid (num_e s r n hr).2
  have HR := Lib.hid hr
  have HJ := Lib.hid hj
  clear hr hj
  go_enter Tryd.func6, Tryd.ntmps6
  go_wp2_with fail
  refine (small_c _ hg).mono ?_
  rintro e w1 ⟨rfl, hb1⟩
  have hg1 := hg.on hb1
  go_wp2_with fail
  refine (rOpen_c s _).mono ?_
  rintro e w2 ⟨rfl, hr2, hb2⟩
  have hg2 := hg1.on hb2
  have hB : 6 ≤ w1.heap.size := hg1.big
  go_wp2_with fail
  refine (kind_at what 0 hw HJ.out _ _ _ _ _).mono ?_
  rintro e w3 ⟨rfl, hb3⟩
  have hg3 := hg2.on hb3
  have hr3 := hr2.on hb3
  go_wp2_with fail
  refine (rNumM_ok _ s false n r HR.out (by omega) _ hg3 hr3).mono ?_
  rintro e w4 ⟨rfl, hr4, ho4⟩
  have hg4 := hg3.only ho4 (by omega)
  go_wp2_with fail
  refine (wNum_c n hin _ hg4).mono ?_
  rintro e w5 ⟨rfl, hb5⟩
  have hr5 := hr4.on hb5
  go_wp2_with fail
  refine (rLeft_c _ _ _ _ hr5).mono ?_
  rintro e w6 ⟨rfl, rfl⟩
  have HT := Lib.hid (taken _ r s HS.out)
  cases r with
  | nil =>
    go_wp2_with fail
    refine (rDone_c _ _ _ _ hr5).mono ?_
    rintro e w7 ⟨rfl, rfl⟩
    go_wp2_with fail
    refine (rLeft_c _ _ _ _ hr5).mono ?_
    rintro e w8 ⟨rfl, rfl⟩
    go_wp2_with fail
    go_ret
    refine ⟨ret_bool ?_, chain (chainO (chain (chain hb1 hb2) hb3) ho4 hb1.size) hb5⟩
    rw [ba_take, beq_iff_eq, ba_list, List.take_length]
    simpa using HT.out
  | cons c r =>
    have hrl : r.length + 1 ≤ s.length := by have := congrArg List.length HS.out; simp at this; omega
    go_wp2_with fail
    refine (rLeft_c _ _ _ _ hr5).mono ?_
    rintro e w8 ⟨rfl, rfl⟩
    go_wp2_with fail
    go_ret
    refine ⟨ret_bool ?_, chain (chainO (chain (chain hb1 hb2) hb3) ho4 hb1.size) hb5⟩
    rw [show (max 0 (min ((s.length : Int) - ((r.length : Int) + 1)) (s.length : Int))).toNat = s.length - (c :: r).length by rw [List.length_cons]; omega]
    rw [ba_take, beq_iff_eq, ba_list]
    exact HT.out

set_option maxRecDepth 100000 in
theorem againNum_no (s : List UInt8) (what : Int) (hw : InR what) (hj : what % 5 = 0) (hr : rNum 59 s = none) (h400 : s.length ≤ 400) (w : World) (hg : Good w) :
    Calls Tryd.prog 6 #[.string ⟨s.toArray⟩, .int .i64 what] w fun e w' => e = .returned (.bool true) ∧ Below w.heap.size w w' := by
  have HR := Lib.hid hr
  have HJ := Lib.hid hj
  clear hr hj
  go_enter Tryd.func6, Tryd.ntmps6
  go_wp2_with fail
  refine (small_c _ hg).mono ?_
  rintro e w1 ⟨rfl, hb1⟩
  have hg1 := hg.on hb1
  go_wp2_with fail
  refine (rOpen_c s _).mono ?_
  rintro e w2 ⟨rfl, hr2, hb2⟩
  have hg2 := hg1.on hb2
  have hB : 6 ≤ w1.heap.size := hg1.big
  go_wp2_with fail
  refine (kind_at what 0 hw HJ.out _ _ _ _ _).mono ?_
  rintro e w3 ⟨rfl, hb3⟩
  have hg3 := hg2.on hb3
  have hr3 := hr2.on hb3
  go_wp2_with fail
  refine (rNumM_no _ s false HR.out (by omega) _ hg3 hr3).mono ?_
  rintro e w4 ⟨rfl, hr4, ho4⟩
  have hg4 := hg3.only ho4 (by omega)
  go_wp2_with fail
  refine (wNum_c 0 (by unfold InR; omega) _ hg4).mono ?_
  rintro e w5 ⟨rfl, hb5⟩
  have hr5 := hr4.on hb5
  go_wp2_with fail
  refine (rLeft_c _ _ _ _ hr5).mono ?_
  rintro e w6 ⟨rfl, rfl⟩
  go_wp2_with fail
  refine (rDone_c _ _ _ _ hr5).mono ?_
  rintro e w7 ⟨rfl, rfl⟩
  go_wp2_with fail
  go_ret
  exact ⟨rfl, chain (chainO (chain (chain hb1 hb2) hb3) ho4 hb1.size) hb5⟩

set_option maxRecDepth 100000 in
theorem againInt_ok (s : List UInt8) (what : Int) (hw : InR what) (hj : what % 5 = 1) (n : Int) (r : List UInt8) (hr : rInt 59 s = some (n, r)) (h400 : s.length ≤ 400) (w : World) (hg : Good w) :
    Calls Tryd.prog 6 #[.string ⟨s.toArray⟩, .int .i64 what] w fun e w' => e = .returned (.bool true) ∧ Below w.heap.size w w' := by
  have hin := (int_e s r n hr).1
  have HS := Lib.hid (int_e s r n hr).2
  have HR := Lib.hid hr
  have HJ := Lib.hid hj
  clear hr hj
  go_enter Tryd.func6, Tryd.ntmps6
  go_wp2_with fail
  refine (small_c _ hg).mono ?_
  rintro e w1 ⟨rfl, hb1⟩
  have hg1 := hg.on hb1
  go_wp2_with fail
  refine (rOpen_c s _).mono ?_
  rintro e w2 ⟨rfl, hr2, hb2⟩
  have hg2 := hg1.on hb2
  have hB : 6 ≤ w1.heap.size := hg1.big
  go_wp2_with fail
  refine (kind_at what 1 hw HJ.out _ _ _ _ _).mono ?_
  rintro e w3 ⟨rfl, hb3⟩
  have hg3 := hg2.on hb3
  have hr3 := hr2.on hb3
  go_wp2_with fail
  refine (rIntM_ok _ s false n r HR.out (by omega) _ hg3 hr3).mono ?_
  rintro e w4 ⟨rfl, hr4, ho4⟩
  have hg4 := hg3.only ho4 (by omega)
  go_wp2_with fail
  refine (wInt_c n hin _ hg4).mono ?_
  rintro e w5 ⟨rfl, hb5⟩
  have hr5 := hr4.on hb5
  go_wp2_with fail
  refine (rLeft_c _ _ _ _ hr5).mono ?_
  rintro e w6 ⟨rfl, rfl⟩
  have HT := Lib.hid (taken _ r s HS.out)
  cases r with
  | nil =>
    go_wp2_with fail
    refine (rDone_c _ _ _ _ hr5).mono ?_
    rintro e w7 ⟨rfl, rfl⟩
    go_wp2_with fail
    refine (rLeft_c _ _ _ _ hr5).mono ?_
    rintro e w8 ⟨rfl, rfl⟩
    go_wp2_with fail
    go_ret
    refine ⟨ret_bool ?_, chain (chainO (chain (chain hb1 hb2) hb3) ho4 hb1.size) hb5⟩
    rw [ba_take, beq_iff_eq, ba_list, List.take_length]
    simpa using HT.out
  | cons c r =>
    have hrl : r.length + 1 ≤ s.length := by have := congrArg List.length HS.out; simp at this; omega
    go_wp2_with fail
    refine (rLeft_c _ _ _ _ hr5).mono ?_
    rintro e w8 ⟨rfl, rfl⟩
    go_wp2_with fail
    go_ret
    refine ⟨ret_bool ?_, chain (chainO (chain (chain hb1 hb2) hb3) ho4 hb1.size) hb5⟩
    rw [show (max 0 (min ((s.length : Int) - ((r.length : Int) + 1)) (s.length : Int))).toNat = s.length - (c :: r).length by rw [List.length_cons]; omega]
    rw [ba_take, beq_iff_eq, ba_list]
    exact HT.out

set_option maxRecDepth 100000 in
theorem againInt_no (s : List UInt8) (what : Int) (hw : InR what) (hj : what % 5 = 1) (hr : rInt 59 s = none) (h400 : s.length ≤ 400) (w : World) (hg : Good w) :
    Calls Tryd.prog 6 #[.string ⟨s.toArray⟩, .int .i64 what] w fun e w' => e = .returned (.bool true) ∧ Below w.heap.size w w' := by
  have HR := Lib.hid hr
  have HJ := Lib.hid hj
  clear hr hj
  go_enter Tryd.func6, Tryd.ntmps6
  go_wp2_with fail
  refine (small_c _ hg).mono ?_
  rintro e w1 ⟨rfl, hb1⟩
  have hg1 := hg.on hb1
  go_wp2_with fail
  refine (rOpen_c s _).mono ?_
  rintro e w2 ⟨rfl, hr2, hb2⟩
  have hg2 := hg1.on hb2
  have hB : 6 ≤ w1.heap.size := hg1.big
  go_wp2_with fail
  refine (kind_at what 1 hw HJ.out _ _ _ _ _).mono ?_
  rintro e w3 ⟨rfl, hb3⟩
  have hg3 := hg2.on hb3
  have hr3 := hr2.on hb3
  go_wp2_with fail
  refine (rIntM_no _ s false HR.out (by omega) _ hg3 hr3).mono ?_
  rintro e w4 ⟨rfl, hr4, ho4⟩
  have hg4 := hg3.only ho4 (by omega)
  go_wp2_with fail
  refine (wInt_c 0 (by unfold InR; omega) _ hg4).mono ?_
  rintro e w5 ⟨rfl, hb5⟩
  have hr5 := hr4.on hb5
  go_wp2_with fail
  refine (rLeft_c _ _ _ _ hr5).mono ?_
  rintro e w6 ⟨rfl, rfl⟩
  go_wp2_with fail
  refine (rDone_c _ _ _ _ hr5).mono ?_
  rintro e w7 ⟨rfl, rfl⟩
  go_wp2_with fail
  go_ret
  exact ⟨rfl, chain (chainO (chain (chain hb1 hb2) hb3) ho4 hb1.size) hb5⟩

set_option maxRecDepth 100000 in
theorem againText_ok (s : List UInt8) (what : Int) (hw : InR what) (hj : what % 5 = 2) (n : List UInt8) (r : List UInt8) (hr : rText s = some (n, r)) (h400 : s.length ≤ 400) (w : World) (hg : Good w) :
    Calls Tryd.prog 6 #[.string ⟨s.toArray⟩, .int .i64 what] w fun e w' => e = .returned (.bool true) ∧ Below w.heap.size w w' := by
  have HS := Lib.hid ((rText_iff s n r).1 hr).2
  have hin : n.length ≤ 1000000000000 := by have := congrArg List.length HS.out; simp [eText] at this; omega
  have HR := Lib.hid hr
  have HJ := Lib.hid hj
  clear hr hj
  go_enter Tryd.func6, Tryd.ntmps6
  go_wp2_with fail
  refine (small_c _ hg).mono ?_
  rintro e w1 ⟨rfl, hb1⟩
  have hg1 := hg.on hb1
  go_wp2_with fail
  refine (rOpen_c s _).mono ?_
  rintro e w2 ⟨rfl, hr2, hb2⟩
  have hg2 := hg1.on hb2
  have hB : 6 ≤ w1.heap.size := hg1.big
  go_wp2_with fail
  refine (kind_at what 2 hw HJ.out _ _ _ _ _).mono ?_
  rintro e w3 ⟨rfl, hb3⟩
  have hg3 := hg2.on hb3
  have hr3 := hr2.on hb3
  go_wp2_with fail
  refine (rTextM_ok _ s false n r HR.out (by omega) _ hg3 hr3).mono ?_
  rintro e w4 ⟨rfl, hr4, ho4⟩
  have hg4 := hg3.only ho4 (by omega)
  go_wp2_with fail
  refine (wText_c n hin _ hg4).mono ?_
  rintro e w5 ⟨rfl, hb5⟩
  have hr5 := hr4.on hb5
  go_wp2_with fail
  refine (rLeft_c _ _ _ _ hr5).mono ?_
  rintro e w6 ⟨rfl, rfl⟩
  have HT := Lib.hid (taken _ r s HS.out)
  cases r with
  | nil =>
    go_wp2_with fail
    refine (rDone_c _ _ _ _ hr5).mono ?_
    rintro e w7 ⟨rfl, rfl⟩
    go_wp2_with fail
    refine (rLeft_c _ _ _ _ hr5).mono ?_
    rintro e w8 ⟨rfl, rfl⟩
    go_wp2_with fail
    go_ret
    refine ⟨ret_bool ?_, chain (chainO (chain (chain hb1 hb2) hb3) ho4 hb1.size) hb5⟩
    rw [ba_take, beq_iff_eq, ba_list, List.take_length]
    simpa using HT.out
  | cons c r =>
    have hrl : r.length + 1 ≤ s.length := by have := congrArg List.length HS.out; simp at this; omega
    go_wp2_with fail
    refine (rLeft_c _ _ _ _ hr5).mono ?_
    rintro e w8 ⟨rfl, rfl⟩
    go_wp2_with fail
    go_ret
    refine ⟨ret_bool ?_, chain (chainO (chain (chain hb1 hb2) hb3) ho4 hb1.size) hb5⟩
    rw [show (max 0 (min ((s.length : Int) - ((r.length : Int) + 1)) (s.length : Int))).toNat = s.length - (c :: r).length by rw [List.length_cons]; omega]
    rw [ba_take, beq_iff_eq, ba_list]
    exact HT.out

set_option maxRecDepth 100000 in
theorem againText_no (s : List UInt8) (what : Int) (hw : InR what) (hj : what % 5 = 2) (hr : rText s = none) (h400 : s.length ≤ 400) (w : World) (hg : Good w) :
    Calls Tryd.prog 6 #[.string ⟨s.toArray⟩, .int .i64 what] w fun e w' => e = .returned (.bool true) ∧ Below w.heap.size w w' := by
  have HR := Lib.hid hr
  have HJ := Lib.hid hj
  clear hr hj
  go_enter Tryd.func6, Tryd.ntmps6
  go_wp2_with fail
  refine (small_c _ hg).mono ?_
  rintro e w1 ⟨rfl, hb1⟩
  have hg1 := hg.on hb1
  go_wp2_with fail
  refine (rOpen_c s _).mono ?_
  rintro e w2 ⟨rfl, hr2, hb2⟩
  have hg2 := hg1.on hb2
  have hB : 6 ≤ w1.heap.size := hg1.big
  go_wp2_with fail
  refine (kind_at what 2 hw HJ.out _ _ _ _ _).mono ?_
  rintro e w3 ⟨rfl, hb3⟩
  have hg3 := hg2.on hb3
  have hr3 := hr2.on hb3
  go_wp2_with fail
  refine (rTextM_no _ s false HR.out (by omega) _ hg3 hr3).mono ?_
  rintro e w4 ⟨rfl, hr4, ho4⟩
  have hg4 := hg3.only ho4 (by omega)
  go_wp2_with fail
  refine (wText_c [] (by simp) _ hg4).mono ?_
  rintro e w5 ⟨rfl, hb5⟩
  have hr5 := hr4.on hb5
  go_wp2_with fail
  refine (rLeft_c _ _ _ _ hr5).mono ?_
  rintro e w6 ⟨rfl, rfl⟩
  go_wp2_with fail
  refine (rDone_c _ _ _ _ hr5).mono ?_
  rintro e w7 ⟨rfl, rfl⟩
  go_wp2_with fail
  go_ret
  exact ⟨rfl, chain (chainO (chain (chain hb1 hb2) hb3) ho4 hb1.size) hb5⟩

set_option maxRecDepth 100000 in
theorem againNums_ok (s : List UInt8) (what : Int) (hw : InR what) (hj : what % 5 = 3) (n : List Int) (r : List UInt8) (hr : rList (rInt 59) s = some (n, r)) (h400 : s.length ≤ 400) (w : World) (hg : Good w) :
    Calls Tryd.prog 6 #[.string ⟨s.toArray⟩, .int .i64 what] w fun e w' => e = .returned (.bool true) ∧ Below w.heap.size w w' := by
  have hin := (nums_e s r n hr).1
  have HS := Lib.hid (nums_e s r n hr).2
  have hbig : (n.flatMap eInt).length ≤ 1000000000000 := by have := flat_le eInt n s r HS.out; omega
  have HR := Lib.hid hr
  have HJ := Lib.hid hj
  clear hr hj
  go_enter Tryd.func6, Tryd.ntmps6
  go_wp2_with fail
  refine (small_c _ hg).mono ?_
  rintro e w1 ⟨rfl, hb1⟩
  have hg1 := hg.on hb1
  go_wp2_with fail
  refine (rOpen_c s _).mono ?_
  rintro e w2 ⟨rfl, hr2, hb2⟩
  have hg2 := hg1.on hb2
  have hB : 6 ≤ w1.heap.size := hg1.big
  go_wp2_with fail
  refine (kind_at what 3 hw HJ.out _ _ _ _ _).mono ?_
  rintro e w3 ⟨rfl, hb3⟩
  have hg3 := hg2.on hb3
  have hr3 := hr2.on hb3
  go_wp2_with fail
  refine (rNumsM_c _ s false (fun h => by cases h) (by omega) _ hg3 (by omega) hr3).mono ?_
  rintro e w4 ⟨ho4, hp⟩
  obtain ⟨v, rfl, hown, hr4⟩ : ∃ v, e = .returned v ∧ w4.ownsRow w3.heap.size _ 1 v n.length _ ∧ Rd w4 w1.heap.size r false := by
    rcases hp with ⟨l, q, v, h1, h2, h3, h4⟩ | ⟨h1, _⟩
    · rw [HR.out] at h1
      injection h1 with h1
      injection h1 with h1 h1'
      subst h1 h1'
      exact ⟨v, h2, h3, h4⟩
    · rw [HR.out] at h1; cases h1
  have hg4 := hg3.only ho4 (by omega)
  have hown' := owned_row hown
  go_wp2_with fail
  refine (wNums_c n _ hin hbig _ hg4 hown').mono ?_
  rintro e w5 ⟨rfl, hb5⟩
  have hr5 := hr4.on hb5
  go_wp2_with fail
  refine (rLeft_c _ _ _ _ hr5).mono ?_
  rintro e w6 ⟨rfl, rfl⟩
  have HT := Lib.hid (taken _ r s HS.out)
  cases r with
  | nil =>
    go_wp2_with fail
    refine (rDone_c _ _ _ _ hr5).mono ?_
    rintro e w7 ⟨rfl, rfl⟩
    go_wp2_with fail
    refine (rLeft_c _ _ _ _ hr5).mono ?_
    rintro e w8 ⟨rfl, rfl⟩
    go_wp2_with fail
    go_ret
    refine ⟨ret_bool ?_, chain (chainO (chain (chain hb1 hb2) hb3) ho4 hb1.size) hb5⟩
    rw [ba_take, beq_iff_eq, ba_list, List.take_length]
    simpa using HT.out
  | cons c r =>
    have hrl : r.length + 1 ≤ s.length := by have := congrArg List.length HS.out; simp at this; omega
    go_wp2_with fail
    refine (rLeft_c _ _ _ _ hr5).mono ?_
    rintro e w8 ⟨rfl, rfl⟩
    go_wp2_with fail
    go_ret
    refine ⟨ret_bool ?_, chain (chainO (chain (chain hb1 hb2) hb3) ho4 hb1.size) hb5⟩
    rw [show (max 0 (min ((s.length : Int) - ((r.length : Int) + 1)) (s.length : Int))).toNat = s.length - (c :: r).length by rw [List.length_cons]; omega]
    rw [ba_take, beq_iff_eq, ba_list]
    exact HT.out

set_option maxRecDepth 100000 in
theorem againNums_no (s : List UInt8) (what : Int) (hw : InR what) (hj : what % 5 = 3) (hr : rList (rInt 59) s = none) (h400 : s.length ≤ 400) (w : World) (hg : Good w) :
    Calls Tryd.prog 6 #[.string ⟨s.toArray⟩, .int .i64 what] w fun e w' => e = .returned (.bool true) ∧ Below w.heap.size w w' := by
  have HR := Lib.hid hr
  have HJ := Lib.hid hj
  clear hr hj
  go_enter Tryd.func6, Tryd.ntmps6
  go_wp2_with fail
  refine (small_c _ hg).mono ?_
  rintro e w1 ⟨rfl, hb1⟩
  have hg1 := hg.on hb1
  go_wp2_with fail
  refine (rOpen_c s _).mono ?_
  rintro e w2 ⟨rfl, hr2, hb2⟩
  have hg2 := hg1.on hb2
  have hB : 6 ≤ w1.heap.size := hg1.big
  go_wp2_with fail
  refine (kind_at what 3 hw HJ.out _ _ _ _ _).mono ?_
  rintro e w3 ⟨rfl, hb3⟩
  have hg3 := hg2.on hb3
  have hr3 := hr2.on hb3
  go_wp2_with fail
  refine (rNumsM_c _ s false (fun h => by cases h) (by omega) _ hg3 (by omega) hr3).mono ?_
  rintro e w4 ⟨ho4, hp⟩
  obtain ⟨rfl, hr4⟩ : e = .returned (.slice none 0 0) ∧ Rd w4 w1.heap.size [] true := by
    rcases hp with ⟨l, q, v, h1, h2, h3, h4⟩ | ⟨_, h1⟩
    · rw [HR.out] at h1; cases h1
    · exact h1
  have hg4 := hg3.only ho4 (by omega)
  go_wp2_with fail
  refine (wNums_c [] _ (fun _ h => by cases h) (by simp) _ hg4 (nil_row _)).mono ?_
  rintro e w5 ⟨rfl, hb5⟩
  have hr5 := hr4.on hb5
  go_wp2_with fail
  refine (rLeft_c _ _ _ _ hr5).mono ?_
  rintro e w6 ⟨rfl, rfl⟩
  go_wp2_with fail
  refine (rDone_c _ _ _ _ hr5).mono ?_
  rintro e w7 ⟨rfl, rfl⟩
  go_wp2_with fail
  go_ret
  exact ⟨rfl, chain (chainO (chain (chain hb1 hb2) hb3) ho4 hb1.size) hb5⟩

set_option maxRecDepth 100000 in
theorem againTexts_ok (s : List UInt8) (what : Int) (hw : InR what) (hj : what % 5 = 4) (n : List (List UInt8)) (r : List UInt8) (hr : rList rText s = some (n, r)) (h400 : s.length ≤ 400) (w : World) (hg : Good w) :
    Calls Tryd.prog 6 #[.string ⟨s.toArray⟩, .int .i64 what] w fun e w' => e = .returned (.bool true) ∧ Below w.heap.size w w' := by
  have HS := Lib.hid (texts_e s r n hr)
  have hbig : (n.flatMap eText).length ≤ 1000000000000 := by have := flat_le eText n s r HS.out; omega
  have HR := Lib.hid hr
  have HJ := Lib.hid hj
  clear hr hj
  go_enter Tryd.func6, Tryd.ntmps6
  go_wp2_with fail
  refine (small_c _ hg).mono ?_
  rintro e w1 ⟨rfl, hb1⟩
  have hg1 := hg.on hb1
  go_wp2_with fail
  refine (rOpen_c s _).mono ?_
  rintro e w2 ⟨rfl, hr2, hb2⟩
  have hg2 := hg1.on hb2
  have hB : 6 ≤ w1.heap.size := hg1.big
  go_wp2_with fail
  refine (kind_at what 4 hw HJ.out _ _ _ _ _).mono ?_
  rintro e w3 ⟨rfl, hb3⟩
  have hg3 := hg2.on hb3
  have hr3 := hr2.on hb3
  go_wp2_with fail
  refine (rTextsM_c _ s false (fun h => by cases h) (by omega) _ hg3 (by omega) hr3).mono ?_
  rintro e w4 ⟨ho4, hp⟩
  obtain ⟨v, rfl, hown, hr4⟩ : ∃ v, e = .returned v ∧ w4.ownsRow w3.heap.size _ 1 v n.length _ ∧ Rd w4 w1.heap.size r false := by
    rcases hp with ⟨l, q, v, h1, h2, h3, h4⟩ | ⟨h1, _⟩
    · rw [HR.out] at h1
      injection h1 with h1
      injection h1 with h1 h1'
      subst h1 h1'
      exact ⟨v, h2, h3, h4⟩
    · rw [HR.out] at h1; cases h1
  have hg4 := hg3.only ho4 (by omega)
  have hown' := owned_row hown
  go_wp2_with fail
  refine (wTexts_c n _ hbig _ hg4 hown').mono ?_
  rintro e w5 ⟨rfl, hb5⟩
  have hr5 := hr4.on hb5
  go_wp2_with fail
  refine (rLeft_c _ _ _ _ hr5).mono ?_
  rintro e w6 ⟨rfl, rfl⟩
  have HT := Lib.hid (taken _ r s HS.out)
  cases r with
  | nil =>
    go_wp2_with fail
    refine (rDone_c _ _ _ _ hr5).mono ?_
    rintro e w7 ⟨rfl, rfl⟩
    go_wp2_with fail
    refine (rLeft_c _ _ _ _ hr5).mono ?_
    rintro e w8 ⟨rfl, rfl⟩
    go_wp2_with fail
    go_ret
    refine ⟨ret_bool ?_, chain (chainO (chain (chain hb1 hb2) hb3) ho4 hb1.size) hb5⟩
    rw [ba_take, beq_iff_eq, ba_list, List.take_length]
    simpa using HT.out
  | cons c r =>
    have hrl : r.length + 1 ≤ s.length := by have := congrArg List.length HS.out; simp at this; omega
    go_wp2_with fail
    refine (rLeft_c _ _ _ _ hr5).mono ?_
    rintro e w8 ⟨rfl, rfl⟩
    go_wp2_with fail
    go_ret
    refine ⟨ret_bool ?_, chain (chainO (chain (chain hb1 hb2) hb3) ho4 hb1.size) hb5⟩
    rw [show (max 0 (min ((s.length : Int) - ((r.length : Int) + 1)) (s.length : Int))).toNat = s.length - (c :: r).length by rw [List.length_cons]; omega]
    rw [ba_take, beq_iff_eq, ba_list]
    exact HT.out

set_option maxRecDepth 100000 in
theorem againTexts_no (s : List UInt8) (what : Int) (hw : InR what) (hj : what % 5 = 4) (hr : rList rText s = none) (h400 : s.length ≤ 400) (w : World) (hg : Good w) :
    Calls Tryd.prog 6 #[.string ⟨s.toArray⟩, .int .i64 what] w fun e w' => e = .returned (.bool true) ∧ Below w.heap.size w w' := by
  have HR := Lib.hid hr
  have HJ := Lib.hid hj
  clear hr hj
  go_enter Tryd.func6, Tryd.ntmps6
  go_wp2_with fail
  refine (small_c _ hg).mono ?_
  rintro e w1 ⟨rfl, hb1⟩
  have hg1 := hg.on hb1
  go_wp2_with fail
  refine (rOpen_c s _).mono ?_
  rintro e w2 ⟨rfl, hr2, hb2⟩
  have hg2 := hg1.on hb2
  have hB : 6 ≤ w1.heap.size := hg1.big
  go_wp2_with fail
  refine (kind_at what 4 hw HJ.out _ _ _ _ _).mono ?_
  rintro e w3 ⟨rfl, hb3⟩
  have hg3 := hg2.on hb3
  have hr3 := hr2.on hb3
  go_wp2_with fail
  refine (rTextsM_c _ s false (fun h => by cases h) (by omega) _ hg3 (by omega) hr3).mono ?_
  rintro e w4 ⟨ho4, hp⟩
  obtain ⟨rfl, hr4⟩ : e = .returned (.slice none 0 0) ∧ Rd w4 w1.heap.size [] true := by
    rcases hp with ⟨l, q, v, h1, h2, h3, h4⟩ | ⟨_, h1⟩
    · rw [HR.out] at h1; cases h1
    · exact h1
  have hg4 := hg3.only ho4 (by omega)
  go_wp2_with fail
  refine (wTexts_c [] _ (by simp) _ hg4 (nil_row _)).mono ?_
  rintro e w5 ⟨rfl, hb5⟩
  have hr5 := hr4.on hb5
  go_wp2_with fail
  refine (rLeft_c _ _ _ _ hr5).mono ?_
  rintro e w6 ⟨rfl, rfl⟩
  go_wp2_with fail
  refine (rDone_c _ _ _ _ hr5).mono ?_
  rintro e w7 ⟨rfl, rfl⟩
  go_wp2_with fail
  go_ret
  exact ⟨rfl, chain (chainO (chain (chain hb1 hb2) hb3) ho4 hb1.size) hb5⟩

theorem again_c (s : List UInt8) (hm : s.length ≤ 9223372036854775807) (what : Int) (hw : InR what) (w : World) (hg : Good w) :
    Calls Tryd.prog 6 #[.string ⟨s.toArray⟩, .int .i64 what] w fun e w' => e = .returned (.bool true) ∧ Below w.heap.size w w' := by
  by_cases h400 : s.length ≤ 400
  · rcases (by omega : what % 5 = 0 ∨ what % 5 = 1 ∨ what % 5 = 2 ∨ what % 5 = 3 ∨ what % 5 = 4) with h | h | h | h | h
    · cases hr : rNum 59 s with
      | none => exact againNum_no s what hw h hr h400 w hg
      | some p => exact againNum_ok s what hw h p.1 p.2 hr h400 w hg
    · cases hr : rInt 59 s with
      | none => exact againInt_no s what hw h hr h400 w hg
      | some p => exact againInt_ok s what hw h p.1 p.2 hr h400 w hg
    · cases hr : rText s with
      | none => exact againText_no s what hw h hr h400 w hg
      | some p => exact againText_ok s what hw h p.1 p.2 hr h400 w hg
    · cases hr : rList (rInt 59) s with
      | none => exact againNums_no s what hw h hr h400 w hg
      | some p => exact againNums_ok s what hw h p.1 p.2 hr h400 w hg
    · cases hr : rList rText s with
      | none => exact againTexts_no s what hw h hr h400 w hg
      | some p => exact againTexts_ok s what hw h p.1 p.2 hr h400 w hg
  · exact again_long s what (by omega) hm w hg
end Go.Proofs.YtlfpelmblpdbjaaDoor
