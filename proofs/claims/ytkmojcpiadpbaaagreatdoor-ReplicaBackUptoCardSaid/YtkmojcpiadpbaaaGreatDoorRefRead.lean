/-
  The reference's reader of an int: Back returns the int whose decimal form the bytes are, or says that there is none.
-/
import Derived.Test.YtkmojcpiadpbaaaGreatDoorRefEnc
import Derived.Test.YtkmojcpiadpbaaaGreatDoorReadB
import Derived.OpenShut
namespace Go.Proofs.YtkmojcpiadpbaaaGreatDoor
open Go Go.RowKit Go.Sort Wire

def dval (l : List UInt8) : Nat := l.foldl (fun a b => 10 * a + (b.toNat - 48)) 0
theorem dval_snoc (l : List UInt8) (x : UInt8) : dval (l ++ [x]) = 10 * dval l + (x.toNat - 48) := by unfold dval; rw [List.foldl_append]; rfl
theorem dval_acc (l : List UInt8) : ∀ a : Nat, a ≤ l.foldl (fun a b => 10 * a + (b.toNat - 48)) a := by
  induction l with
  | nil => intro a; exact Nat.le_refl _
  | cons x l ih => intro a; exact Nat.le_trans (show a ≤ 10 * a + (x.toNat - 48) by omega) (ih _)
theorem dval_take_le (l : List UInt8) (k : Nat) : dval (l.take k) ≤ dval l := by
  have := dval_acc (l.drop k) (dval (l.take k))
  have e : dval l = (l.drop k).foldl (fun a b => 10 * a + (b.toNat - 48)) (dval (l.take k)) := by
    unfold dval
    rw [← List.foldl_append, List.take_append_drop]
  omega
theorem dval_dec : ∀ u : Nat, dval (Lib.decDigits u) = u := by
  intro u
  induction u using Nat.strongRecOn with
  | _ u ih =>
    by_cases h : u < 10
    · rw [Lib.decDigits_one h]
      have := (digit_of u h).2.2
      simp only [dval, List.foldl_cons, List.foldl_nil]
      omega
    · rw [decDigits_step u h, dval_snoc, ih (u / 10) (by omega)]
      have := (digit_of (u % 10) (by omega)).2.2
      omega
theorem dval_next (l : List UInt8) (k : Nat) (x : UInt8) (h : l[k]? = some x) : dval (l.take (k + 1)) = 10 * dval (l.take k) + (x.toNat - 48) := by
  rw [List.take_add_one, h]
  exact dval_snoc _ _
theorem pair_false {m : Int} {b : Bool} (h : b = false) : Ending.returned (.tuple #[.int .i64 m, .bool b]) = .returned (.tuple #[.int .i64 m, .bool false]) := by rw [h]
theorem bytes59 (d : List UInt8) : ((⟨d.toArray⟩ : ByteArray) ++ ⟨#[59]⟩).toList = d ++ [59] := by
  rw [show ((⟨d.toArray⟩ : ByteArray) ++ ⟨#[59]⟩) = ⟨(d ++ [59]).toArray⟩ from str_add d [59]]
  simp
theorem wrap_in (y : Int) : InR (IntKind.i64.wrap y) := by
  have h := wf_wrap .i64 y
  exact bounds_i64 h

set_option maxHeartbeats 1000000 in
set_option maxRecDepth 100000 in
theorem back_ok1 (d : List UInt8) (n : Int) (h : InR n) (hn : n < 0) (hd : d = Lib.itoa n) (w : World) : Calls Tryz.prog 72 #[.string ⟨d.toArray⟩] w fun e w' => e = .returned (.tuple #[.int .i64 n, .bool true]) ∧ Below w.heap.size w w' := by
  have hin := h
  obtain ⟨h0, h1⟩ := h
  have hl := itoa_len n ⟨h0, h1⟩
  have hne := itoa_ne n
  rw [← hd] at hl hne
  have hd0 : 0 < d.length := List.length_pos_iff.2 hne
  obtain ⟨u, hu, hdd⟩ : ∃ u : Nat, n = -(u : Int) ∧ d = 45 :: Lib.decDigits u := by
    exact ⟨n.natAbs, by omega, by rw [hd, itoa_neg n hn]⟩
  have hv : ∀ k x, 1 ≤ k → d[k]? = some x → 48 ≤ x.toNat ∧ x.toNat ≤ 57 ∧ dval ((d.drop 1).take (k + 1 - 1)) = 10 * dval ((d.drop 1).take (k - 1)) + (x.toNat - 48) ∧ dval ((d.drop 1).take (k + 1 - 1)) ≤ u := by
    intro k x hk hx
    have e1 : d.drop 1 = Lib.decDigits u := by rw [hdd]; rfl
    have e2 : (Lib.decDigits u)[k - 1]? = some x := by rw [← e1, List.getElem?_drop, ← hx]; congr 1; omega
    have hb := decDigits_digit u x (List.mem_of_getElem? e2)
    have e3 : k + 1 - 1 = k - 1 + 1 := by omega
    refine ⟨hb.1, hb.2, by rw [e1, e3]; exact dval_next _ _ _ e2, ?_⟩
    rw [e1]
    have := dval_take_le (Lib.decDigits u) (k + 1 - 1)
    rw [dval_dec] at this
    exact this
  have hend : dval ((d.drop 1).take (d.length - 1)) = u := by
    have e1 : d.drop 1 = Lib.decDigits u := by rw [hdd]; rfl
    rw [e1, List.take_of_length_le (by rw [← e1, List.length_drop]; omega), dval_dec]
  have hfst : (((⟨d.toArray⟩ : ByteArray)[0]'(by rw [ba_size]; exact hd0)).toNat == (45 : Int)) = true := by
    obtain ⟨x, hx⟩ : ∃ x, d[0]? = some x := ⟨_, List.getElem?_eq_getElem hd0⟩
    rw [ba_get d 0 _ x hx]
    rw [hdd] at hx; injection hx with hx; subst hx; rfl
  have HC := Lib.hid (cInt_c n hin)
  have hsame : (⟨(eInt n).toArray⟩ : ByteArray) = ⟨d.toArray⟩ ++ ⟨#[59]⟩ := by rw [hd]; exact (str_add _ [59]).symm
  have hln : (eInt n).length ≤ 21 := by rw [eInt, ← hd, List.length_append, List.length_singleton]; omega
  have HV := Lib.hid hv
  have HE := Lib.hid hend
  have hub : (u : Int) ≤ 9223372036854775808 := by omega
  subst hu
  have HS := Lib.hid hsame
  clear hv hend hd hdd hne hsame hin
  go_enter Tryz.func72, Tryz.ntmps72
  go_wp2_with fail
  go_loopw [5, 6] (fun s i wr => ∃ k : Nat, i = .int .i64 k ∧ 1 ≤ k ∧ k ≤ d.length ∧ s = .int .i64 (-(dval ((d.drop 1).take (k - 1)) : Int)) ∧ w = wr) (fun _ i _ => d.length - (intOf i).toNat)
  case atStart => exact ⟨1, rfl, Nat.le_refl _, by omega, by simp [dval], rfl⟩
  case round =>
    obtain ⟨k, rfl, hk0, hk, rfl, rfl⟩ := hrel
    by_cases hlt : k < d.length
    · obtain ⟨x, hx⟩ : ∃ x, d[k]? = some x := ⟨_, List.getElem?_eq_getElem hlt⟩
      obtain ⟨hx0, hx1, hstep, hle⟩ := HV.out k x hk0 hx
      have hby : (⟨d.toArray⟩ : ByteArray)[k]'(by rw [ba_size]; exact hlt) = x := ba_get d k _ x hx
      generalize hD : dval ((d.drop 1).take (k - 1)) = D at *
      generalize hD' : dval ((d.drop 1).take (k + 1 - 1)) = D' at *
      have hDb : (D : Int) ≤ 922337203685477580 := by omega
      have hD0 : (0 : Int) ≤ D := by omega
      have hDx : -9223372036854775808 ≤ 10 * -(D : Int) - ((x.toNat : Int) - 48) := by omega
      have HS := Lib.hid hstep
      clear hstep hx hD hle
      go_wp2_with fail
      go_roundw
      case rel => exact ⟨k + 1, by go_num, by omega, by omega, by rw [hD']; have := HS.out; congr 1; omega, by first | rfl | trivial⟩
      case measure => simp [intOf]; omega
    · obtain rfl : k = d.length := by omega
      rw [HE.out]
      go_wp2_with fail
      refine (HC.out _).mono ?_
      rintro e w1 ⟨rfl, hb⟩
      have hq := HS.out
      clear HS
      go_wp2_with fail
      go_ret2
      exact ⟨by simp, hb⟩

set_option maxHeartbeats 1000000 in
set_option maxRecDepth 100000 in
theorem back_ok0 (d : List UInt8) (n : Int) (h : InR n) (hn : ¬ n < 0) (hd : d = Lib.itoa n) (w : World) : Calls Tryz.prog 72 #[.string ⟨d.toArray⟩] w fun e w' => e = .returned (.tuple #[.int .i64 n, .bool true]) ∧ Below w.heap.size w w' := by
  have hin := h
  obtain ⟨h0, h1⟩ := h
  have hl := itoa_len n ⟨h0, h1⟩
  have hne := itoa_ne n
  rw [← hd] at hl hne
  have hd0 : 0 < d.length := List.length_pos_iff.2 hne
  obtain ⟨u, hu, hdd⟩ : ∃ u : Nat, n = (u : Int) ∧ d = Lib.decDigits u := by
    exact ⟨n.toNat, by omega, by rw [hd, itoa_nonneg n hn]⟩
  have hv : ∀ k x, 0 ≤ k → d[k]? = some x → 48 ≤ x.toNat ∧ x.toNat ≤ 57 ∧ dval ((d.drop 0).take (k + 1 - 0)) = 10 * dval ((d.drop 0).take (k - 0)) + (x.toNat - 48) ∧ dval ((d.drop 0).take (k + 1 - 0)) ≤ u := by
    intro k x hk hx
    have e1 : d.drop 0 = Lib.decDigits u := by rw [hdd]; rfl
    have e2 : (Lib.decDigits u)[k - 0]? = some x := by rw [← e1, List.getElem?_drop, ← hx]; congr 1; omega
    have hb := decDigits_digit u x (List.mem_of_getElem? e2)
    have e3 : k + 1 - 0 = k - 0 + 1 := by omega
    refine ⟨hb.1, hb.2, by rw [e1, e3]; exact dval_next _ _ _ e2, ?_⟩
    rw [e1]
    have := dval_take_le (Lib.decDigits u) (k + 1 - 0)
    rw [dval_dec] at this
    exact this
  have hend : dval ((d.drop 0).take (d.length - 0)) = u := by
    have e1 : d.drop 0 = Lib.decDigits u := by rw [hdd]; rfl
    rw [e1, List.take_of_length_le (by rw [← e1, List.length_drop]; omega), dval_dec]
  have hfst : (((⟨d.toArray⟩ : ByteArray)[0]'(by rw [ba_size]; exact hd0)).toNat == (45 : Int)) = false := by
    obtain ⟨x, hx⟩ : ∃ x, d[0]? = some x := ⟨_, List.getElem?_eq_getElem hd0⟩
    rw [ba_get d 0 _ x hx]
    have := (hv 0 x (Nat.le_refl _) hx).1; simp only [beq_eq_false_iff_ne, ne_eq]; omega
  have HC := Lib.hid (cInt_c n hin)
  have hsame : (⟨(eInt n).toArray⟩ : ByteArray) = ⟨d.toArray⟩ ++ ⟨#[59]⟩ := by rw [hd]; exact (str_add _ [59]).symm
  have hln : (eInt n).length ≤ 21 := by rw [eInt, ← hd, List.length_append, List.length_singleton]; omega
  have HV := Lib.hid hv
  have HE := Lib.hid hend
  have hub : (u : Int) ≤ 9223372036854775807 := by omega
  subst hu
  have HS := Lib.hid hsame
  clear hv hend hd hdd hne hsame hin
  go_enter Tryz.func72, Tryz.ntmps72
  go_wp2_with fail
  go_loopw [5, 6] (fun s i wr => ∃ k : Nat, i = .int .i64 k ∧ 0 ≤ k ∧ k ≤ d.length ∧ s = .int .i64 (-(dval ((d.drop 0).take (k - 0)) : Int)) ∧ w = wr) (fun _ i _ => d.length - (intOf i).toNat)
  case atStart => exact ⟨0, rfl, Nat.le_refl _, by omega, by simp [dval], rfl⟩
  case round =>
    obtain ⟨k, rfl, hk0, hk, rfl, rfl⟩ := hrel
    by_cases hlt : k < d.length
    · obtain ⟨x, hx⟩ : ∃ x, d[k]? = some x := ⟨_, List.getElem?_eq_getElem hlt⟩
      obtain ⟨hx0, hx1, hstep, hle⟩ := HV.out k x hk0 hx
      have hby : (⟨d.toArray⟩ : ByteArray)[k]'(by rw [ba_size]; exact hlt) = x := ba_get d k _ x hx
      generalize hD : dval ((d.drop 0).take (k - 0)) = D at *
      generalize hD' : dval ((d.drop 0).take (k + 1 - 0)) = D' at *
      have hDb : (D : Int) ≤ 922337203685477580 := by omega
      have hD0 : (0 : Int) ≤ D := by omega
      have hDx : -9223372036854775808 ≤ 10 * -(D : Int) - ((x.toNat : Int) - 48) := by omega
      have HS := Lib.hid hstep
      clear hstep hx hD hle
      go_wp2_with fail
      go_roundw
      case rel => exact ⟨k + 1, by go_num, by omega, by omega, by rw [hD']; have := HS.out; congr 1; omega, by first | rfl | trivial⟩
      case measure => simp [intOf]; omega
    · obtain rfl : k = d.length := by omega
      rw [HE.out]
      go_wp2_with fail
      refine (HC.out _).mono ?_
      rintro e w1 ⟨rfl, hb⟩
      have hq := HS.out
      clear HS
      go_wp2_with fail
      go_ret2
      exact ⟨by simp, hb⟩

set_option maxHeartbeats 1000000 in
set_option maxRecDepth 100000 in
theorem back_no_nil (d : List UInt8) (hne : ∀ m, InR m → eInt m ≠ d ++ [59]) (_hl : d.length ≤ 21) (hd0 : d.length = 0) (w : World) : Calls Tryz.prog 72 #[.string ⟨d.toArray⟩] w fun e w' => (∃ m, e = .returned (.tuple #[.int .i64 m, .bool false])) ∧ Below w.heap.size w w' := by
  have HN := Lib.hid hne
  clear hne
  go_enter Tryz.func72, Tryz.ntmps72
  go_wp2_with fail
  go_loopw [5, 6] (fun s i wr => ∃ (k : Nat) (m : Int), i = .int .i64 k ∧ k ≤ d.length ∧ s = .int .i64 m ∧ Hid (InR m) ∧ w = wr) (fun _ i _ => d.length - (intOf i).toNat)
  case atStart => exact ⟨0, 0, rfl, by omega, rfl, Lib.hid (by unfold InR; omega), rfl⟩
  case round =>
    obtain ⟨k, m, rfl, hk, rfl, hm, rfl⟩ := hrel
    by_cases hlt : k < d.length
    · exact absurd hlt (by omega)
    · obtain rfl : k = d.length := by omega
      go_wp2_with fail
      refine (cInt_c _ (by first | exact hm.out | exact wrap_in _ | exact bounds_i64 (RowKit.wrap64_wf _)) _).mono ?_
      rintro e w1 ⟨rfl, hb⟩
      go_wp2_with fail
      go_ret2
      exact ⟨⟨_, pair_false (by rw [bytes59]; exact beq_eq_false_iff_ne.2 (HN.out _ (by first | exact hm.out | exact wrap_in _ | exact bounds_i64 (RowKit.wrap64_wf _))))⟩, hb⟩

set_option maxHeartbeats 1000000 in
set_option maxRecDepth 100000 in
theorem back_no_pos (d : List UInt8) (hne : ∀ m, InR m → eInt m ≠ d ++ [59]) (hl : d.length ≤ 21) (hd0 : 0 < d.length) (hfst : (((⟨d.toArray⟩ : ByteArray)[0]'(by rw [ba_size]; exact hd0)).toNat == (45 : Int)) = false) (w : World) : Calls Tryz.prog 72 #[.string ⟨d.toArray⟩] w fun e w' => (∃ m, e = .returned (.tuple #[.int .i64 m, .bool false])) ∧ Below w.heap.size w w' := by
  have HN := Lib.hid hne
  clear hne
  go_enter Tryz.func72, Tryz.ntmps72
  go_wp2_with fail
  go_loopw [5, 6] (fun s i wr => ∃ (k : Nat) (m : Int), i = .int .i64 k ∧ k ≤ d.length ∧ s = .int .i64 m ∧ Hid (InR m) ∧ w = wr) (fun _ i _ => d.length - (intOf i).toNat)
  case atStart => exact ⟨0, 0, rfl, by omega, rfl, Lib.hid (by unfold InR; omega), rfl⟩
  case round =>
    obtain ⟨k, m, rfl, hk, rfl, hm, rfl⟩ := hrel
    by_cases hlt : k < d.length
    · obtain ⟨x, hx⟩ : ∃ x, d[k]? = some x := ⟨_, List.getElem?_eq_getElem hlt⟩
      have hby : (⟨d.toArray⟩ : ByteArray)[k]'(by rw [ba_size]; exact hlt) = x := ba_get d k _ x hx
      clear hx
      by_cases hx0 : x.toNat < 48
      · go_wp2_with fail
        go_ret2
        exact ⟨⟨_, rfl⟩, Below.refl _ _⟩
      · by_cases hx1 : 57 < x.toNat
        · go_wp2_with fail
          go_ret2
          exact ⟨⟨_, rfl⟩, Below.refl _ _⟩
        · go_wp2_with fail
          go_roundw
          case rel => exact ⟨k + 1, _, by go_num, by omega, rfl, Lib.hid (by first | exact wrap_in _ | exact bounds_i64 (RowKit.wrap64_wf _)), by first | rfl | trivial⟩
          case measure => simp [intOf]; omega
    · obtain rfl : k = d.length := by omega
      go_wp2_with fail
      refine (cInt_c _ (by first | exact hm.out | exact wrap_in _ | exact bounds_i64 (RowKit.wrap64_wf _)) _).mono ?_
      rintro e w1 ⟨rfl, hb⟩
      go_wp2_with fail
      go_ret2
      exact ⟨⟨_, pair_false (by rw [bytes59]; exact beq_eq_false_iff_ne.2 (HN.out _ (by first | exact hm.out | exact wrap_in _ | exact bounds_i64 (RowKit.wrap64_wf _))))⟩, hb⟩

set_option maxHeartbeats 1000000 in
set_option maxRecDepth 100000 in
theorem back_no_neg (d : List UInt8) (hne : ∀ m, InR m → eInt m ≠ d ++ [59]) (hl : d.length ≤ 21) (hd0 : 0 < d.length) (hfst : (((⟨d.toArray⟩ : ByteArray)[0]'(by rw [ba_size]; exact hd0)).toNat == (45 : Int)) = true) (w : World) : Calls Tryz.prog 72 #[.string ⟨d.toArray⟩] w fun e w' => (∃ m, e = .returned (.tuple #[.int .i64 m, .bool false])) ∧ Below w.heap.size w w' := by
  have HN := Lib.hid hne
  clear hne
  go_enter Tryz.func72, Tryz.ntmps72
  go_wp2_with fail
  go_loopw [5, 6] (fun s i wr => ∃ (k : Nat) (m : Int), i = .int .i64 k ∧ k ≤ d.length ∧ s = .int .i64 m ∧ Hid (InR m) ∧ w = wr) (fun _ i _ => d.length - (intOf i).toNat)
  case atStart => exact ⟨1, 0, rfl, by omega, rfl, Lib.hid (by unfold InR; omega), rfl⟩
  case round =>
    obtain ⟨k, m, rfl, hk, rfl, hm, rfl⟩ := hrel
    by_cases hlt : k < d.length
    · obtain ⟨x, hx⟩ : ∃ x, d[k]? = some x := ⟨_, List.getElem?_eq_getElem hlt⟩
      have hby : (⟨d.toArray⟩ : ByteArray)[k]'(by rw [ba_size]; exact hlt) = x := ba_get d k _ x hx
      clear hx
      by_cases hx0 : x.toNat < 48
      · go_wp2_with fail
        go_ret2
        exact ⟨⟨_, rfl⟩, Below.refl _ _⟩
      · by_cases hx1 : 57 < x.toNat
        · go_wp2_with fail
          go_ret2
          exact ⟨⟨_, rfl⟩, Below.refl _ _⟩
        · go_wp2_with fail
          go_roundw
          case rel => exact ⟨k + 1, _, by go_num, by omega, rfl, Lib.hid (by first | exact wrap_in _ | exact bounds_i64 (RowKit.wrap64_wf _)), by first | rfl | trivial⟩
          case measure => simp [intOf]; omega
    · obtain rfl : k = d.length := by omega
      go_wp2_with fail
      refine (cInt_c _ (by first | exact hm.out | exact wrap_in _ | exact bounds_i64 (RowKit.wrap64_wf _)) _).mono ?_
      rintro e w1 ⟨rfl, hb⟩
      go_wp2_with fail
      go_ret2
      exact ⟨⟨_, pair_false (by rw [bytes59]; exact beq_eq_false_iff_ne.2 (HN.out _ (by first | exact hm.out | exact wrap_in _ | exact bounds_i64 (RowKit.wrap64_wf _))))⟩, hb⟩

theorem back_ok (d : List UInt8) (n : Int) (hd : readDig d = some n) (w : World) : Calls Tryz.prog 72 #[.string ⟨d.toArray⟩] w fun e w' => e = .returned (.tuple #[.int .i64 n, .bool true]) ∧ Below w.heap.size w w' := by
  obtain ⟨h, hd⟩ := (readDig_iff d n).1 hd
  by_cases hn : n < 0
  · exact back_ok1 d n h hn hd w
  · exact back_ok0 d n h hn hd w
theorem back_no (d : List UInt8) (hd : readDig d = none) (hl : d.length ≤ 21) (w : World) : Calls Tryz.prog 72 #[.string ⟨d.toArray⟩] w fun e w' => (∃ m, e = .returned (.tuple #[.int .i64 m, .bool false])) ∧ Below w.heap.size w w' := by
  have hne : ∀ m, InR m → eInt m ≠ d ++ [59] := by
    intro m hm he
    unfold eInt at he
    have := List.append_cancel_right he
    rw [(readDig_iff d m).2 ⟨hm, this.symm⟩] at hd
    cases hd
  rcases Nat.eq_zero_or_pos d.length with h0 | h0
  · exact back_no_nil d hne hl h0 w
  · cases hf : ((((⟨d.toArray⟩ : ByteArray)[0]'(by rw [ba_size]; exact h0)).toNat : Int) == (45 : Int))
    · exact back_no_pos d hne hl h0 hf w
    · exact back_no_neg d hne hl h0 hf w

end Go.Proofs.YtkmojcpiadpbaaaGreatDoor
