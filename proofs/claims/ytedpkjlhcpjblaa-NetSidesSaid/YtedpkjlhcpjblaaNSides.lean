/-
  NetSides: the walk.
-/
import Derived.Test.YtedpkjlhcpjblaaNFew
import Derived.Lib.MinMax
namespace Go.Proofs.Ytedpkjlhcpjblaa
set_option maxRecDepth 100000
open Go Go.RowKit Nt


set_option maxHeartbeats 4000000 in
theorem sides_true (mask : Int) (M : Nat) (hM : M ≤ 600) (w : World) : Calls Try.prog 6 #[.int .i64 mask, .bool true, .int .i64 (M : Int)] w fun e w' => e = .returned (.bool true) ∧ Below w.heap.size w w' := by
  have h0 : ¬ (M : Int) < 0 := by omega
  have h6 : ¬ (600 : Int) < (M : Int) := by omega
  go_enter Try.func6, Try.ntmps6
  go_wp2_with fail
  refine (small_c w).mono ?_
  rintro e w1 ⟨rfl, hb1⟩
  have HB1 := Lib.hid hb1
  clear hb1
  go_wp2_with fail
  refine (nf_new HB1.out (F := fun _ => False) (fun _ e => e.elim)).mono ?_
  rintro e w2 ⟨rfl, hn2, hb2, hl2⟩
  have HN2 := Lib.hid hn2
  obtain ⟨b, hb⟩ : ∃ b, b = w1.heap.size := ⟨_, rfl⟩
  rw [← hb] at HN2 ⊢
  clear hn2 hb2 hl2 hb
  have HN3 := Lib.hid (show NF w w2 b ⟨[], 0⟩ (fun _ => False) from HN2.out)
  go_wp2_with fail
  go_loopw [9] (fun v9 wr => ∃ i : Nat, i ≤ 16 ∧ v9 = .int .i64 (i : Int) ∧ NF w wr b ⟨[], 0⟩ (fun _ => False)) (fun v9 _ => 16 - (intOf v9).toNat)
  case atStart => exact ⟨0, by decide, rfl, HN3.out⟩
  case round =>
    obtain ⟨i, hi, rfl, hni⟩ := hrel
    have HNI := Lib.hid hni
    clear hni
    by_cases hi2 : i < 16
    · have hi3 : (i : Int) < 16 := by omega
      rename World => wo
      go_wp2_with fail
      go_loopw [10] (fun v10 wr => ∃ j : Nat, j ≤ 16 ∧ v10 = .int .i64 (j : Int) ∧ NF w wr b ⟨[], 0⟩ (fun _ => False)) (fun v10 _ => 16 - (intOf v10).toNat)
      case atStart => exact ⟨0, by decide, rfl, HNI.out⟩
      case round =>
        obtain ⟨j, hj, rfl, hnj⟩ := hrel
        have HNJ := Lib.hid hnj
        clear hnj
        by_cases hj2 : j < 16
        · have hj3 : (j : Int) < 16 := by omega
          have ha : isEnd (i : Int) = true := isEnd_iff.2 (by omega)
          have hb : isEnd (j : Int) = true := isEnd_iff.2 (by omega)
          obtain ⟨sI, hsI⟩ : ∃ sI, bits .and .i64 (mask / 2 ^ i) 1 = sI := ⟨_, rfl⟩
          obtain ⟨sJ, hsJ⟩ : ∃ sJ, bits .and .i64 (mask / 2 ^ j) 1 = sJ := ⟨_, rfl⟩
          by_cases hij : (i : Int) = (j : Int)
          · have hijb : ((i : Int) == (j : Int)) = true := by simpa using hij
            have HS := Lib.hid (send_arg (n := ⟨[], 0⟩) (s := [120]) (Or.inr (Or.inr hij) : isEnd (i : Int) = false ∨ isEnd (j : Int) = false ∨ (i : Int) = (j : Int)))
            have HH := Lib.hid (show hear 0 (i : Int) (j : Int) = true by rw [← hij]; exact hear_self _ _ ha)
            clear hij ha hb
            go_wp2_with fail
            refine (nf_send HNJ.out HS.out).mono ?_
            rintro e w4 ⟨rfl, hn4, hk4⟩
            have HN4 := Lib.hid hn4
            clear hn4 hk4
            go_wp2_with fail
            refine (nf_hear HN4.out i j).mono ?_
            rintro e w5 ⟨rfl, hw⟩
            rw [hw, HH.out]
            clear hw
            go_wp2_with fail
            go_roundw
            case rel => exact ⟨j + 1, hj2, by go_num, HN4.out⟩
            case measure => simp [intOf]; omega
          · have hijb : ((i : Int) == (j : Int)) = false := by simpa using hij
            cases hnear : (side mask (i : Int) == side mask (j : Int)) with
            | true =>
              have hh : hear (mask % 65536) (i : Int) (j : Int) = true := (hear_split (n := ⟨[], 0⟩) mask i j ha hb).trans hnear
              have HH := Lib.hid hh
              clear hh
              have hnb : (sI == sJ) = true := by rw [← hsI, ← hsJ, i64_and1, i64_and1]; exact hnear
              have hne : side mask (i : Int) = side mask (j : Int) := by simpa using hnear
              have hp := pair_late mask i j ha hb hij [120]
              rw [if_pos hne] at hp
              have HP := Lib.hid hp
              clear hp hne hnear
              go_wp2_with fail
              refine (nf_send HNJ.out HP.out.1).mono ?_
              rintro e w4 ⟨rfl, hn4, hk4⟩
              have HN4 := Lib.hid hn4
              clear hn4 hk4
              go_wp2_with fail
              refine (nf_split HN4.out mask).mono ?_
              rintro e w5 ⟨rfl, hn5, hk5⟩
              have HN5 := Lib.hid (show NF w w5 b ⟨[⟨(i : Int), (j : Int), [120]⟩], mask % 65536⟩ (fun _ => False) from hn5)
              clear hn5 hk5
              go_wp2_with fail
              refine (nf_deliver HN5.out HP.out.2).mono ?_
              rintro e w6 ⟨rfl, hn6, hk6⟩
              obtain ⟨W6, hW6⟩ : ∃ W6, W6 = w6.alloc (.cells #[.int .i64 (i : Int), .int .i64 (j : Int), .string ⟨#[120]⟩] 33) := ⟨_, rfl⟩
              have hb6 : Below w6.heap.size w6 W6 := by rw [hW6]; exact (Below.refl _ _).alloc (Nat.le_refl _) _
              have hx6 : PkBox W6 w6.heap.size ⟨(i : Int), (j : Int), [120]⟩ := by rw [hW6]; exact PkBox.new w6 ⟨(i : Int), (j : Int), [120]⟩
              have c0 := hx6.c0
              have c1 := hx6.c1
              have HN6 := Lib.hid (hn6.on hb6)
              clear hn6 hk6 hb6 hx6
              go_upto_region 21 with fail
              rw [← hW6]
              clear hW6
              go_wp2_with fail
              refine (nf_hear HN6.out i j).mono ?_
              rintro e w7 ⟨rfl, hw⟩
              rw [hw, HH.out]
              clear hw
              go_wp2_with fail
              refine (nf_heal HN6.out).mono ?_
              rintro e w8 ⟨rfl, hn8, hk8⟩
              have HN8 := Lib.hid (show NF w w8 b ⟨[], 0⟩ (fun _ => False) from hn8)
              clear hn8 hk8
              go_wp2_with fail
              go_roundw
              case rel => exact ⟨j + 1, hj2, by go_num, HN8.out⟩
              case measure => simp [intOf]; omega
            | false =>
              have hh : hear (mask % 65536) (i : Int) (j : Int) = false := (hear_split (n := ⟨[], 0⟩) mask i j ha hb).trans hnear
              have HH := Lib.hid hh
              clear hh
              have hnb : (sI == sJ) = false := by rw [← hsI, ← hsJ, i64_and1, i64_and1]; exact hnear
              have hne : ¬ side mask (i : Int) = side mask (j : Int) := by simpa using hnear
              have hp := pair_late mask i j ha hb hij [120]
              rw [if_neg hne] at hp
              have HP := Lib.hid hp
              clear hp hne hnear
              go_wp2_with fail
              refine (nf_send HNJ.out HP.out.1).mono ?_
              rintro e w4 ⟨rfl, hn4, hk4⟩
              have HN4 := Lib.hid hn4
              clear hn4 hk4
              go_wp2_with fail
              refine (nf_split HN4.out mask).mono ?_
              rintro e w5 ⟨rfl, hn5, hk5⟩
              have HN5 := Lib.hid (show NF w w5 b ⟨[⟨(i : Int), (j : Int), [120]⟩], mask % 65536⟩ (fun _ => False) from hn5)
              clear hn5 hk5
              go_wp2_with fail
              refine (nf_deliver HN5.out HP.out.2).mono ?_
              rintro e w6 ⟨rfl, hn6, hk6⟩
              obtain ⟨W6, hW6⟩ : ∃ W6, W6 = w6.alloc (.cells #[.int .i64 zero.a, .int .i64 zero.b, .string ⟨zero.s.toArray⟩] 33) := ⟨_, rfl⟩
              have hb6 : Below w6.heap.size w6 W6 := by rw [hW6]; exact (Below.refl _ _).alloc (Nat.le_refl _) _
              have hx6 : PkBox W6 w6.heap.size zero := by rw [hW6]; exact PkBox.new w6 zero
              have c0 := hx6.c0
              have c1 := hx6.c1
              have HN6 := Lib.hid (hn6.on hb6)
              clear hn6 hk6 hb6 hx6
              go_upto_region 21 with fail
              rw [← hW6]
              clear hW6
              go_wp2_with fail
              refine (nf_hear HN6.out i j).mono ?_
              rintro e w7 ⟨rfl, hw⟩
              rw [hw, HH.out]
              clear hw
              go_wp2_with fail
              refine (nf_heal HN6.out).mono ?_
              rintro e w8 ⟨rfl, hn8, hk8⟩
              have HN8 := Lib.hid (show NF w w8 b ⟨[], 0⟩ (fun _ => False) from hn8)
              clear hn8 hk8
              go_wp2_with fail
              go_roundw
              case rel => exact ⟨j + 1, hj2, by go_num, HN8.out⟩
              case measure => simp [intOf]; omega
        · have hj3 : ¬ (j : Int) < 16 := by omega
          go_wp2_with fail
          go_roundw
          case rel => exact ⟨i + 1, hi2, by go_num, HNJ.out⟩
          case measure => simp [intOf]; omega
    · have hi3 : ¬ (i : Int) < 16 := by omega
      go_wp2_with fail
      refine (nf_heal HNI.out).mono ?_
      rintro e w4 ⟨rfl, hn4, hk4⟩
      have HN4 := Lib.hid (show NF w w4 b ⟨[], 0⟩ (fun _ => False) from hn4)
      clear hn4 hk4
      go_wp2_with fail
      go_loopw [15] (fun v15 wr => ∃ (k : Nat) (l : List Pk), k ≤ M ∧ v15 = .int .i64 (k : Int) ∧ l.length = min k 500 ∧ NF w wr b ⟨l, 0⟩ (fun _ => False)) (fun v15 _ => M - (intOf v15).toNat)
      case atStart => exact ⟨0, [], Nat.zero_le _, rfl, by simp, HN4.out⟩
      case round =>
        obtain ⟨k, l, hk, rfl, hll, hnk⟩ := hrel
        have HNK := Lib.hid hnk
        have HLL := Lib.hid hll
        clear hnk hll
        by_cases hkM : k < M
        · have hkM' : (k : Int) < (M : Int) := by omega
          have hb1 : bits .and .i64 (k : Int) 15 = (k : Int) % 16 := i64_and15 _
          have hb2 : bits .and .i64 ((k : Int) + 1) 15 = ((k : Int) + 1) % 16 := i64_and15 _
          obtain ⟨e1, e2, e3⟩ := next_ok (k : Int)
          obtain ⟨x, hx⟩ : ∃ x, (k : Int) % 16 = x := ⟨_, rfl⟩
          obtain ⟨y, hy⟩ : ∃ y, ((k : Int) + 1) % 16 = y := ⟨_, rfl⟩
          rw [hx] at e1 e3 hb1
          rw [hy] at e2 e3 hb2
          by_cases hk5 : k < 500
          · have hk5' : (k : Int) < 500 := by omega
            have HS := Lib.hid (send_ok (n := ⟨l, 0⟩) (s := [121]) e1 e2 e3 (hear_zero e1 e2) (by show l.length < 500; have := HLL.out; omega))
            clear e1 e2 e3 hx hy
            go_wp2_with fail
            refine (nf_send HNK.out HS.out).mono ?_
            rintro e w5 ⟨rfl, hn5, hk5⟩
            have HN5 := Lib.hid hn5
            clear hn5 hk5
            go_wp2_with fail
            go_roundw
            case rel => exact ⟨k + 1, _, hkM, by go_num, by simp only [List.length_append, List.length_singleton]; have := HLL.out; omega, HN5.out⟩
            case measure => simp [intOf]; omega
          · have hk5' : ¬ (k : Int) < 500 := by omega
            have HS := Lib.hid (send_full (n := ⟨l, 0⟩) (s := [121]) e1 e2 e3 (hear_zero e1 e2) (by show 500 ≤ l.length; have := HLL.out; omega))
            clear e1 e2 e3 hx hy
            go_wp2_with fail
            refine (nf_send HNK.out HS.out).mono ?_
            rintro e w5 ⟨rfl, hn5, hk5⟩
            have HN5 := Lib.hid hn5
            clear hn5 hk5
            go_wp2_with fail
            go_roundw
            case rel => exact ⟨k + 1, _, hkM, by go_num, by have := HLL.out; omega, HN5.out⟩
            case measure => simp [intOf]; omega
        · have hkM' : ¬ (k : Int) < (M : Int) := by omega
          obtain rfl : k = M := by omega
          have hmin : min (k : Int) 500 = (l.length : Int) := by have := HLL.out; omega
          have HA1 := Lib.hid (fun n : N => send_arg (n := n) (a := -1) (b := 0) (s := []) (Or.inl rfl))
          have HA2 := Lib.hid (fun n : N => send_arg (n := n) (a := 0) (b := 16) (s := []) (Or.inr (Or.inl rfl)))
          have HC := Lib.hid (nf_count HNK.out)
          by_cases hk5 : k < 500
          · have hk5' : (k : Int) < 500 := by omega
            go_wp2_with fail
            refine HC.out.mono ?_
            rintro e w5 ⟨rfl, hw⟩
            rw [hw]
            clear hw
            go_wp2_with fail
            refine (nf_send HNK.out (HA1.out _)).mono ?_
            rintro e w6 ⟨rfl, hn6, hk6⟩
            have HN6 := Lib.hid hn6
            clear hn6 hk6
            go_wp2_with fail
            refine (nf_send HN6.out (HA2.out _)).mono ?_
            rintro e w7 ⟨rfl, hn7, hk7⟩
            have HB7 := Lib.hid hn7.base
            clear hn7 hk7
            go_wp2_with fail
            go_ret
            exact ⟨rfl, HB7.out⟩
          · have hk5' : ¬ (k : Int) < 500 := by omega
            have hD : double ⟨l, 0⟩ 3 = (⟨l, 0⟩, 6) := by
              have h5 : l.length = 500 := by have := HLL.out; omega
              unfold Nt.double
              cases ha : at? ⟨l, 0⟩ 3 with
              | none => have := at?_none.1 ha; simp [h5] at this
              | some q => dsimp only; rw [if_pos (by omega)]
            have HD := Lib.hid hD
            clear hD
            go_wp2_with fail
            refine HC.out.mono ?_
            rintro e w5 ⟨rfl, hw⟩
            rw [hw]
            clear hw
            go_wp2_with fail
            refine (nf_double HNK.out HD.out).mono ?_
            rintro e w5 ⟨rfl, hn5, hk5⟩
            have HN5 := Lib.hid hn5
            clear hn5 hk5
            go_wp2_with fail
            refine (nf_send HN5.out (HA1.out _)).mono ?_
            rintro e w6 ⟨rfl, hn6, hk6⟩
            have HN6 := Lib.hid hn6
            clear hn6 hk6
            go_wp2_with fail
            refine (nf_send HN6.out (HA2.out _)).mono ?_
            rintro e w7 ⟨rfl, hn7, hk7⟩
            have HB7 := Lib.hid hn7.base
            clear hn7 hk7
            go_wp2_with fail
            go_ret
            exact ⟨rfl, HB7.out⟩

set_option maxHeartbeats 4000000 in
theorem sides_false (mask : Int) (M : Nat) (hM : M ≤ 600) (w : World) : Calls Try.prog 6 #[.int .i64 mask, .bool false, .int .i64 (M : Int)] w fun e w' => e = .returned (.bool true) ∧ Below w.heap.size w w' := by
  have h0 : ¬ (M : Int) < 0 := by omega
  have h6 : ¬ (600 : Int) < (M : Int) := by omega
  go_enter Try.func6, Try.ntmps6
  go_wp2_with fail
  refine (small_c w).mono ?_
  rintro e w1 ⟨rfl, hb1⟩
  have HB1 := Lib.hid hb1
  clear hb1
  go_wp2_with fail
  refine (nf_new HB1.out (F := fun _ => False) (fun _ e => e.elim)).mono ?_
  rintro e w2 ⟨rfl, hn2, hb2, hl2⟩
  have HN2 := Lib.hid hn2
  obtain ⟨b, hb⟩ : ∃ b, b = w1.heap.size := ⟨_, rfl⟩
  rw [← hb] at HN2 ⊢
  clear hn2 hb2 hl2 hb
  go_wp2_with fail
  refine (nf_split HN2.out mask).mono ?_
  rintro e w3 ⟨rfl, hn3, hk3⟩
  have HN3 := Lib.hid (show NF w w3 b ⟨[], mask % 65536⟩ (fun _ => False) from hn3)
  clear hn3 hk3
  go_wp2_with fail
  go_loopw [9] (fun v9 wr => ∃ i : Nat, i ≤ 16 ∧ v9 = .int .i64 (i : Int) ∧ NF w wr b ⟨[], (mask % 65536)⟩ (fun _ => False)) (fun v9 _ => 16 - (intOf v9).toNat)
  case atStart => exact ⟨0, by decide, rfl, HN3.out⟩
  case round =>
    obtain ⟨i, hi, rfl, hni⟩ := hrel
    have HNI := Lib.hid hni
    clear hni
    by_cases hi2 : i < 16
    · have hi3 : (i : Int) < 16 := by omega
      rename World => wo
      go_wp2_with fail
      go_loopw [10] (fun v10 wr => ∃ j : Nat, j ≤ 16 ∧ v10 = .int .i64 (j : Int) ∧ NF w wr b ⟨[], (mask % 65536)⟩ (fun _ => False)) (fun v10 _ => 16 - (intOf v10).toNat)
      case atStart => exact ⟨0, by decide, rfl, HNI.out⟩
      case round =>
        obtain ⟨j, hj, rfl, hnj⟩ := hrel
        have HNJ := Lib.hid hnj
        clear hnj
        by_cases hj2 : j < 16
        · have hj3 : (j : Int) < 16 := by omega
          have ha : isEnd (i : Int) = true := isEnd_iff.2 (by omega)
          have hb : isEnd (j : Int) = true := isEnd_iff.2 (by omega)
          obtain ⟨sI, hsI⟩ : ∃ sI, bits .and .i64 (mask / 2 ^ i) 1 = sI := ⟨_, rfl⟩
          obtain ⟨sJ, hsJ⟩ : ∃ sJ, bits .and .i64 (mask / 2 ^ j) 1 = sJ := ⟨_, rfl⟩
          by_cases hij : (i : Int) = (j : Int)
          · have hijb : ((i : Int) == (j : Int)) = true := by simpa using hij
            have HS := Lib.hid (send_arg (n := ⟨[], (mask % 65536)⟩) (s := [120]) (Or.inr (Or.inr hij) : isEnd (i : Int) = false ∨ isEnd (j : Int) = false ∨ (i : Int) = (j : Int)))
            have HH := Lib.hid (show hear (mask % 65536) (i : Int) (j : Int) = true by rw [← hij]; exact hear_self _ _ ha)
            clear hij ha hb
            go_wp2_with fail
            refine (nf_send HNJ.out HS.out).mono ?_
            rintro e w4 ⟨rfl, hn4, hk4⟩
            have HN4 := Lib.hid hn4
            clear hn4 hk4
            go_wp2_with fail
            refine (nf_hear HN4.out i j).mono ?_
            rintro e w5 ⟨rfl, hw⟩
            rw [hw, HH.out]
            clear hw
            go_wp2_with fail
            go_roundw
            case rel => exact ⟨j + 1, hj2, by go_num, HN4.out⟩
            case measure => simp [intOf]; omega
          · have hijb : ((i : Int) == (j : Int)) = false := by simpa using hij
            cases hnear : (side mask (i : Int) == side mask (j : Int)) with
            | true =>
              have hh : hear (mask % 65536) (i : Int) (j : Int) = true := (hear_split (n := ⟨[], 0⟩) mask i j ha hb).trans hnear
              have HH := Lib.hid hh
              clear hh
              have hnb : (sI == sJ) = true := by rw [← hsI, ← hsJ, i64_and1, i64_and1]; exact hnear
              have hne : side mask (i : Int) = side mask (j : Int) := by simpa using hnear
              have hp := pair_early mask i j ha hb hij [120]
              rw [if_pos hne] at hp
              have HP := Lib.hid hp
              clear hp hne hnear
              go_wp2_with fail
              refine (nf_send HNJ.out HP.out.1).mono ?_
              rintro e w4 ⟨rfl, hn4, hk4⟩
              have HN4 := Lib.hid hn4
              clear hn4 hk4
              go_wp2_with fail
              refine (nf_deliver HN4.out HP.out.2).mono ?_
              rintro e w6 ⟨rfl, hn6, hk6⟩
              obtain ⟨W6, hW6⟩ : ∃ W6, W6 = w6.alloc (.cells #[.int .i64 (i : Int), .int .i64 (j : Int), .string ⟨#[120]⟩] 33) := ⟨_, rfl⟩
              have hb6 : Below w6.heap.size w6 W6 := by rw [hW6]; exact (Below.refl _ _).alloc (Nat.le_refl _) _
              have hx6 : PkBox W6 w6.heap.size ⟨(i : Int), (j : Int), [120]⟩ := by rw [hW6]; exact PkBox.new w6 ⟨(i : Int), (j : Int), [120]⟩
              have c0 := hx6.c0
              have c1 := hx6.c1
              have HN6 := Lib.hid (hn6.on hb6)
              clear hn6 hk6 hb6 hx6
              go_upto_region 21 with fail
              rw [← hW6]
              clear hW6
              go_wp2_with fail
              refine (nf_hear HN6.out i j).mono ?_
              rintro e w7 ⟨rfl, hw⟩
              rw [hw, HH.out]
              clear hw
              go_wp2_with fail
              have HN8 := HN6
              go_roundw
              case rel => exact ⟨j + 1, hj2, by go_num, HN8.out⟩
              case measure => simp [intOf]; omega
            | false =>
              have hh : hear (mask % 65536) (i : Int) (j : Int) = false := (hear_split (n := ⟨[], 0⟩) mask i j ha hb).trans hnear
              have HH := Lib.hid hh
              clear hh
              have hnb : (sI == sJ) = false := by rw [← hsI, ← hsJ, i64_and1, i64_and1]; exact hnear
              have hne : ¬ side mask (i : Int) = side mask (j : Int) := by simpa using hnear
              have hp := pair_early mask i j ha hb hij [120]
              rw [if_neg hne] at hp
              have HP := Lib.hid hp
              clear hp hne hnear
              go_wp2_with fail
              refine (nf_send HNJ.out HP.out.1).mono ?_
              rintro e w4 ⟨rfl, hn4, hk4⟩
              have HN4 := Lib.hid hn4
              clear hn4 hk4
              go_wp2_with fail
              refine (nf_deliver HN4.out HP.out.2).mono ?_
              rintro e w6 ⟨rfl, hn6, hk6⟩
              obtain ⟨W6, hW6⟩ : ∃ W6, W6 = w6.alloc (.cells #[.int .i64 zero.a, .int .i64 zero.b, .string ⟨zero.s.toArray⟩] 33) := ⟨_, rfl⟩
              have hb6 : Below w6.heap.size w6 W6 := by rw [hW6]; exact (Below.refl _ _).alloc (Nat.le_refl _) _
              have hx6 : PkBox W6 w6.heap.size zero := by rw [hW6]; exact PkBox.new w6 zero
              have c0 := hx6.c0
              have c1 := hx6.c1
              have HN6 := Lib.hid (hn6.on hb6)
              clear hn6 hk6 hb6 hx6
              go_upto_region 21 with fail
              rw [← hW6]
              clear hW6
              go_wp2_with fail
              refine (nf_hear HN6.out i j).mono ?_
              rintro e w7 ⟨rfl, hw⟩
              rw [hw, HH.out]
              clear hw
              go_wp2_with fail
              have HN8 := HN6
              go_roundw
              case rel => exact ⟨j + 1, hj2, by go_num, HN8.out⟩
              case measure => simp [intOf]; omega
        · have hj3 : ¬ (j : Int) < 16 := by omega
          go_wp2_with fail
          go_roundw
          case rel => exact ⟨i + 1, hi2, by go_num, HNJ.out⟩
          case measure => simp [intOf]; omega
    · have hi3 : ¬ (i : Int) < 16 := by omega
      go_wp2_with fail
      refine (nf_heal HNI.out).mono ?_
      rintro e w4 ⟨rfl, hn4, hk4⟩
      have HN4 := Lib.hid (show NF w w4 b ⟨[], 0⟩ (fun _ => False) from hn4)
      clear hn4 hk4
      go_wp2_with fail
      go_loopw [15] (fun v15 wr => ∃ (k : Nat) (l : List Pk), k ≤ M ∧ v15 = .int .i64 (k : Int) ∧ l.length = min k 500 ∧ NF w wr b ⟨l, 0⟩ (fun _ => False)) (fun v15 _ => M - (intOf v15).toNat)
      case atStart => exact ⟨0, [], Nat.zero_le _, rfl, by simp, HN4.out⟩
      case round =>
        obtain ⟨k, l, hk, rfl, hll, hnk⟩ := hrel
        have HNK := Lib.hid hnk
        have HLL := Lib.hid hll
        clear hnk hll
        by_cases hkM : k < M
        · have hkM' : (k : Int) < (M : Int) := by omega
          have hb1 : bits .and .i64 (k : Int) 15 = (k : Int) % 16 := i64_and15 _
          have hb2 : bits .and .i64 ((k : Int) + 1) 15 = ((k : Int) + 1) % 16 := i64_and15 _
          obtain ⟨e1, e2, e3⟩ := next_ok (k : Int)
          obtain ⟨x, hx⟩ : ∃ x, (k : Int) % 16 = x := ⟨_, rfl⟩
          obtain ⟨y, hy⟩ : ∃ y, ((k : Int) + 1) % 16 = y := ⟨_, rfl⟩
          rw [hx] at e1 e3 hb1
          rw [hy] at e2 e3 hb2
          by_cases hk5 : k < 500
          · have hk5' : (k : Int) < 500 := by omega
            have HS := Lib.hid (send_ok (n := ⟨l, 0⟩) (s := [121]) e1 e2 e3 (hear_zero e1 e2) (by show l.length < 500; have := HLL.out; omega))
            clear e1 e2 e3 hx hy
            go_wp2_with fail
            refine (nf_send HNK.out HS.out).mono ?_
            rintro e w5 ⟨rfl, hn5, hk5⟩
            have HN5 := Lib.hid hn5
            clear hn5 hk5
            go_wp2_with fail
            go_roundw
            case rel => exact ⟨k + 1, _, hkM, by go_num, by simp only [List.length_append, List.length_singleton]; have := HLL.out; omega, HN5.out⟩
            case measure => simp [intOf]; omega
          · have hk5' : ¬ (k : Int) < 500 := by omega
            have HS := Lib.hid (send_full (n := ⟨l, 0⟩) (s := [121]) e1 e2 e3 (hear_zero e1 e2) (by show 500 ≤ l.length; have := HLL.out; omega))
            clear e1 e2 e3 hx hy
            go_wp2_with fail
            refine (nf_send HNK.out HS.out).mono ?_
            rintro e w5 ⟨rfl, hn5, hk5⟩
            have HN5 := Lib.hid hn5
            clear hn5 hk5
            go_wp2_with fail
            go_roundw
            case rel => exact ⟨k + 1, _, hkM, by go_num, by have := HLL.out; omega, HN5.out⟩
            case measure => simp [intOf]; omega
        · have hkM' : ¬ (k : Int) < (M : Int) := by omega
          obtain rfl : k = M := by omega
          have hmin : min (k : Int) 500 = (l.length : Int) := by have := HLL.out; omega
          have HA1 := Lib.hid (fun n : N => send_arg (n := n) (a := -1) (b := 0) (s := []) (Or.inl rfl))
          have HA2 := Lib.hid (fun n : N => send_arg (n := n) (a := 0) (b := 16) (s := []) (Or.inr (Or.inl rfl)))
          have HC := Lib.hid (nf_count HNK.out)
          by_cases hk5 : k < 500
          · have hk5' : (k : Int) < 500 := by omega
            go_wp2_with fail
            refine HC.out.mono ?_
            rintro e w5 ⟨rfl, hw⟩
            rw [hw]
            clear hw
            go_wp2_with fail
            refine (nf_send HNK.out (HA1.out _)).mono ?_
            rintro e w6 ⟨rfl, hn6, hk6⟩
            have HN6 := Lib.hid hn6
            clear hn6 hk6
            go_wp2_with fail
            refine (nf_send HN6.out (HA2.out _)).mono ?_
            rintro e w7 ⟨rfl, hn7, hk7⟩
            have HB7 := Lib.hid hn7.base
            clear hn7 hk7
            go_wp2_with fail
            go_ret
            exact ⟨rfl, HB7.out⟩
          · have hk5' : ¬ (k : Int) < 500 := by omega
            have hD : double ⟨l, 0⟩ 3 = (⟨l, 0⟩, 6) := by
              have h5 : l.length = 500 := by have := HLL.out; omega
              unfold Nt.double
              cases ha : at? ⟨l, 0⟩ 3 with
              | none => have := at?_none.1 ha; simp [h5] at this
              | some q => dsimp only; rw [if_pos (by omega)]
            have HD := Lib.hid hD
            clear hD
            go_wp2_with fail
            refine HC.out.mono ?_
            rintro e w5 ⟨rfl, hw⟩
            rw [hw]
            clear hw
            go_wp2_with fail
            refine (nf_double HNK.out HD.out).mono ?_
            rintro e w5 ⟨rfl, hn5, hk5⟩
            have HN5 := Lib.hid hn5
            clear hn5 hk5
            go_wp2_with fail
            refine (nf_send HN5.out (HA1.out _)).mono ?_
            rintro e w6 ⟨rfl, hn6, hk6⟩
            have HN6 := Lib.hid hn6
            clear hn6 hk6
            go_wp2_with fail
            refine (nf_send HN6.out (HA2.out _)).mono ?_
            rintro e w7 ⟨rfl, hn7, hk7⟩
            have HB7 := Lib.hid hn7.base
            clear hn7 hk7
            go_wp2_with fail
            go_ret
            exact ⟨rfl, HB7.out⟩

set_option maxHeartbeats 1000000 in
theorem sides_out (mask : Int) (late : Bool) (m : Int) (hm : m < 0 ∨ 600 < m) (w : World) : Calls Try.prog 6 #[.int .i64 mask, .bool late, .int .i64 m] w fun e w' => e = .returned (.bool true) ∧ Below w.heap.size w w' := by
  by_cases h0 : m < 0
  · clear hm
    go_enter Try.func6, Try.ntmps6
    go_wp2_with fail
    refine (small_c w).mono ?_
    rintro e w1 ⟨rfl, hb1⟩
    have HB1 := Lib.hid hb1
    clear hb1
    go_wp2_with fail
    refine (nf_new HB1.out (F := fun _ => False) (fun _ e => e.elim)).mono ?_
    rintro e w2 ⟨rfl, hn2, hb2, hl2⟩
    have HB2 := Lib.hid hn2.base
    clear hn2 hb2 hl2
    go_wp2_with fail
    go_ret
    exact ⟨rfl, HB2.out⟩
  · have h6 : 600 < m := by omega
    clear hm
    go_enter Try.func6, Try.ntmps6
    go_wp2_with fail
    refine (small_c w).mono ?_
    rintro e w1 ⟨rfl, hb1⟩
    have HB1 := Lib.hid hb1
    clear hb1
    go_wp2_with fail
    refine (nf_new HB1.out (F := fun _ => False) (fun _ e => e.elim)).mono ?_
    rintro e w2 ⟨rfl, hn2, hb2, hl2⟩
    have HB2 := Lib.hid hn2.base
    clear hn2 hb2 hl2
    go_wp2_with fail
    go_ret
    exact ⟨rfl, HB2.out⟩
theorem sides_law (mask : Int) (late : Bool) (m : Int) (w : World) : Calls Try.prog 6 #[.int .i64 mask, .bool late, .int .i64 m] w fun e w' => e = .returned (.bool true) ∧ Below w.heap.size w w' := by
  by_cases hm : m < 0 ∨ 600 < m
  · exact sides_out mask late m hm w
  · obtain ⟨M, rfl⟩ := Int.eq_ofNat_of_zero_le (show 0 ≤ m by omega)
    cases late with
    | true => exact sides_true mask M (by omega) w
    | false => exact sides_false mask M (by omega) w
end Go.Proofs.Ytedpkjlhcpjblaa
