/-
  DiskReads returns true, for every list of acts, file, offset, string and size; of what was there nothing has turned.
-/
import Derived.Test.YthibikdnoogfoaaDPlay
namespace Go.Proofs.Ythibikdnoogfoaa
open Go Go.RowKit Go.Maps Dk

theorem ba_size' (l : List UInt8) : (⟨l.toArray⟩ : ByteArray).size = l.length := by show l.toArray.size = _; simp
theorem ba_extract' (q : List UInt8) (i j : Nat) : (⟨q.toArray⟩ : ByteArray).extract i j = ⟨((q.take j).drop i).toArray⟩ := by
  apply ByteArray.ext
  rw [ByteArray.data_extract]
  simp [List.drop_take]
theorem slice_str (l : List UInt8) (i j : Nat) (h1 : i ≤ j) (h2 : j ≤ l.length) (wx : World) : (Instr.slice 9 (.string ⟨l.toArray⟩) (some (.int .i64 (i : Int))) (some (.int .i64 (j : Int))) none).run Try.prog wx = .ok (.string ⟨((l.take j).drop i).toArray⟩) wx := by
  rw [run_slice_string wx 9 ⟨l.toArray⟩ .i64 .i64 i j Try.underlying9 (by omega) (by omega) (by rw [ba_size']; omega)]
  simp only [Int.toNat_natCast]
  rw [ba_extract']
theorem slice_str_h (l : List UInt8) (j : Nat) (h2 : j ≤ l.length) (wx : World) : (Instr.slice 9 (.string ⟨l.toArray⟩) none (some (.int .i64 (j : Int))) none).run Try.prog wx = .ok (.string ⟨(l.take j).toArray⟩) wx := by
  rw [run_slice_string_h wx 9 ⟨l.toArray⟩ Try.underlying9 .i64 j (by omega) (by rw [ba_size']; omega)]
  simp only [Int.toNat_natCast]
  rw [ba_extract']
  rfl

/-! ### What the model says -/
theorem strike_zero {X : D} (h : X.left = 0) : X.strike = (X, false) := by unfold D.strike; rw [if_pos h]
theorem saveAll_nil : ∀ (q : List (Nat × Nat)) (i : Nat) (g : Nat → F), saveAll [] q i g = g
  | [], _, _ => rfl
  | p :: q, i, g => by
    have e : surv [] i = false := rfl
    show saveAll [] q (i + 1) (if surv [] i then saveAt g p else g) = g
    rw [e]
    exact saveAll_nil q (i + 1) g
theorem ok_nat {i : Nat} (h : i < 16) : ok (i : Int) = true := by simp [ok]; omega
theorem write_good {X : D} (hd : X.down = false) (hl : X.left = 0) {i a : Nat} {s : List UInt8} (hi : i < 16) (ha : a + s.length ≤ 16777216) :
    X.write (i : Int) (a : Int) s = ({ X with file := upd X.file i ((X.file i).write a s), queue := X.queue ++ ((X.file i).added a s).map fun n => (i, n) }, 0) := by
  have hput : X.put (i : Int) (a : Int) s = ({ X with file := upd X.file i ((X.file i).write a s), queue := X.queue ++ ((X.file i).added a s).map fun n => (i, n) }, 0) := by
    unfold D.put
    have e2 : decide (0 ≤ (a : Int)) = true := by simp
    rw [ok_nat hi, e2, if_pos (by rfl), if_pos (by omega)]
    simp only [Int.toNat_natCast]
  unfold D.write
  rw [if_neg (by rw [hd]; simp), hput]
  dsimp only
  rw [strike_zero (by exact hl)]
  rfl
theorem read_good {X : D} (hd : X.down = false) {i a n : Nat} (hi : i < 16) : X.read (i : Int) (a : Int) (n : Int) = (((X.file i).now.drop a).take n, 0) := by
  unfold D.read
  have e1 : decide (0 ≤ (a : Int)) = true := by simp
  have e2 : decide (0 ≤ (n : Int)) = true := by simp
  rw [if_neg (by rw [hd]; simp), ok_nat hi, e1, e2, if_pos (by rfl)]
  simp only [Int.toNat_natCast]
theorem size_good {X : D} {i : Nat} (hi : i < 16) : X.size (i : Int) = (X.file i).now.length := by
  unfold D.size
  rw [ok_nat hi, if_pos rfl]
  simp only [Int.toNat_natCast]
theorem put_read (b s : List UInt8) (a : Nat) : ((put b a s).drop a).take s.length = s := by
  unfold put
  have h : ((b ++ List.replicate (a - b.length) 0).take a).length = a := by simp; omega
  rw [List.drop_append, h, List.drop_of_length_le (by omega), List.nil_append, Nat.sub_self, List.drop_zero, List.take_left]
theorem trunc_good {X : D} (hd : X.down = false) (hl : X.left = 0) {i n : Nat} (hi : i < 16) (hn : n ≤ (X.file i).now.length) :
    X.trunc (i : Int) (n : Int) = ({ X.settle i with file := upd (X.settle i).file i (((X.settle i).file i).cut n) }, 0) := by
  unfold D.trunc
  rw [if_neg (by rw [hd]; simp), strike_zero hl]
  dsimp only
  have e1 : decide (0 ≤ (n : Int)) = true := by simp
  have e2 : decide ((n : Int) ≤ ((X.file (i : Int).toNat).now.length : Int)) = true := by rw [decide_eq_true_eq]; simp only [Int.toNat_natCast]; omega
  rw [if_neg (by simp), ok_nat hi, e1, e2, if_pos (by rfl)]
  simp only [Int.toNat_natCast]
theorem crash_none {X : D} (hd : X.down = false) : X.crash [] = ⟨fun f => (X.file f).revert, [], true, X.lost, 0, []⟩ := by
  unfold D.crash
  rw [if_neg (by rw [hd]; simp)]
  simp only [saveAll_nil]

def readsEarly (l : List Act) (at' : Int) (s : List UInt8) (size : Int) : Bool := !fewM l || decide (300 < s.length) || decide (at' < 0) || decide (3000 < at') || decide (size < 0)

set_option maxHeartbeats 1000000 in
set_option maxRecDepth 100000 in
theorem reads_out (v : Value) (l : List Act) (f at' size : Int) (s : List UInt8) (hs : s.length ≤ 9223372036854775807) (w : World) (h : ActsIn w v l) (he : readsEarly l at' s size = true) :
    Calls Try.prog 7 #[v, .int .i64 f, .int .i64 at', .string ⟨s.toArray⟩, .int .i64 size] w fun e w' => e = .returned (.bool true) ∧ Below w.heap.size w w' := by
  have h0 := h
  obtain ⟨_, va, vc, rfl, _⟩ := h0
  have H := Lib.hid h
  clear h
  go_enter Try.func7, Try.ntmps7
  go_wp2_with fail
  refine (small_c w).mono ?_
  rintro e w1 ⟨rfl, hb1⟩
  go_wp2_with fail
  refine (few_c _ l w1 (H.out.on hb1)).mono ?_
  rintro e w2 ⟨rfl, h2⟩
  rw [h2]
  clear h2
  have HB := Lib.hid hb1
  clear hb1
  unfold readsEarly at he
  cases hf : fewM l with
  | false =>
    go_wp2_with fail
    go_ret
    exact ⟨rfl, HB.out⟩
  | true =>
    rw [hf] at he
    by_cases h1 : 300 < s.length
    · have h1' : (300 : Int) < (s.length : Int) := by omega
      go_wp2_with fail
      go_ret
      exact ⟨rfl, HB.out⟩
    · have h1' : ¬ (300 : Int) < (s.length : Int) := by omega
      by_cases h2 : at' < 0
      · go_wp2_with fail
        go_ret
        exact ⟨rfl, HB.out⟩
      · by_cases h3 : 3000 < at'
        · go_wp2_with fail
          go_ret
          exact ⟨rfl, HB.out⟩
        · have h4 : size < 0 := by simpa [h1, h2, h3] using he
          go_wp2_with fail
          go_ret
          exact ⟨rfl, HB.out⟩

theorem write_bad {X : D} (hl : X.left = 0) (f a : Int) (s : List UInt8) (h : (X.down || !ok f) = true) : (X.write f a s).2 = 9 ∨ (X.write f a s).2 = 1 := by
  unfold D.write
  cases hd : X.down with
  | true => exact Or.inl rfl
  | false =>
    rw [hd] at h
    have hf : ok f = false := by simpa using h
    have hp : X.put f a s = (X, 1) := by
      unfold D.put
      rw [hf, if_neg (by simp)]
    rw [if_neg (by simp), hp]
    dsimp only
    rw [strike_zero hl]
    exact Or.inr rfl
theorem mid_eq (q : List UInt8) (a z fr m : Nat) (h1 : fr = min a q.length) (h2 : m = min z (q.length - fr)) : (q.drop a).take z = (q.take (fr + m)).drop fr := by
  rw [List.drop_take, Nat.add_sub_cancel_left]
  subst h1 h2
  by_cases h : a ≤ q.length
  · rw [Nat.min_eq_left h]
    by_cases hz : z ≤ q.length - a
    · rw [Nat.min_eq_left hz]
    · rw [Nat.min_eq_right (by omega), List.take_of_length_le (by simp; omega), List.take_of_length_le (by simp)]
  · have e : min a q.length = q.length := by omega
    rw [e, List.drop_of_length_le (by omega), List.drop_of_length_le (Nat.le_refl _)]
    simp
theorem nil_src (w : World) : SrcV w 1 (.slice none 0 0) 0 (intsV []) := ⟨none, 0, rfl, rfl, fun _ => rfl, fun ad e => by cases e⟩
theorem nil_keep (w : World) (T : Nat → Prop) : KeepAt w (.slice none 0 0) [] T := ⟨none, 0, rfl, fun h => absurd rfl h⟩
theorem DiskIn.inv {w : World} {d : Nat} {S : Nat → Prop} {X : D} (h : DiskIn w d S X) : X.Inv := by
  obtain ⟨bm, blk, own, qv, kv, h, _⟩ := h
  exact h.inv

set_option maxHeartbeats 2000000 in
set_option maxRecDepth 100000 in
theorem reads_bad (v : Value) (l : List Act) (f at' size : Int) (s : List UInt8) (hf64 : In64 f) (ha64 : In64 at') (hs : s.length ≤ 9223372036854775807) (w : World) (h : ActsAt w v l) (he : readsEarly l at' s size = false)
    (hb : ((playM l).down || !ok f) = true) :
    Calls Try.prog 7 #[v, .int .i64 f, .int .i64 at', .string ⟨s.toArray⟩, .int .i64 size] w fun e w' => e = .returned (.bool true) ∧ Below w.heap.size w w' := by
  have h0 := h
  obtain ⟨_, va, vc, rfl, _⟩ := h0
  have H := Lib.hid h
  clear h
  unfold readsEarly at he
  simp only [Bool.or_eq_false_iff, decide_eq_false_iff_not, Bool.not_eq_false'] at he
  obtain ⟨⟨⟨⟨hf, h1⟩, h2⟩, h3⟩, h4⟩ := he
  have h1' : ¬ (300 : Int) < (s.length : Int) := by omega
  go_enter Try.func7, Try.ntmps7
  go_wp2_with fail
  refine (small_c w).mono ?_
  rintro e w1 ⟨rfl, hb1⟩
  go_wp2_with fail
  refine (few_c _ l w1 (H.out.on hb1).toIn).mono ?_
  rintro e w2 ⟨rfl, h2⟩
  rw [h2, hf]
  clear h2
  go_wp2_with fail
  refine (played_c _ l w1 (H.out.on hb1)).mono ?_
  rintro e w2 ⟨d, rfl, hd2, hb2⟩
  have s1 := hb1.size
  replace hd2 := hd2.mono (T := fun k => w.heap.size ≤ k) (fun k _ e => Nat.le_trans s1 e)
  replace hb2 := hb1.trans (hb2.mono s1)
  have s2 := hb2.size
  clear hb1
  go_wp2_with fail
  refine (armIn_c d _ _ 0 (by omega) (.slice none 0 0) [] w2 hd2 (nil_src w2) (by simp) (by simp)).mono ?_
  rintro e w3 ⟨rfl, hd3, hk3⟩
  replace hd3 := hd3.up s2
  have hb3 := hb2.trans (hk3.toBelow s2 (fun _ e => e))
  have s3 := hb3.size
  clear hd2 hb2 hk3
  obtain ⟨X, hX⟩ : ∃ X, X = (playM l).arm 0 [] := ⟨_, rfl⟩
  have hXd : X.down = (playM l).down := by rw [hX]; rfl
  have hXl : X.left = 0 := by rw [hX]; rfl
  rw [← hX] at hd3
  rw [← hXd] at hb
  have HXW := Lib.hid (write_bad hXl f at' s hb)
  have HW := Lib.hid (write_c d _ _ f at' s hf64 ha64 hs w3 hd3)
  have HB := Lib.hid hb3
  have key : ∀ (Q : Ending → World → Prop), (∀ w', Below w.heap.size w w' → Q (.returned (.int .i64 9)) w') → (∀ w', Below w.heap.size w w' → Q (.returned (.int .i64 1)) w') →
      Calls Try.prog 29 #[.pointer (some ⟨d, 0, none⟩), .int .i64 f, .int .i64 at', .string ⟨s.toArray⟩] w3 Q := by
    intro Q q1 q2
    refine HW.out.mono ?_
    rintro e w4 ⟨rfl, _, hk4⟩
    have hb4 := HB.out.trans (hk4.toBelow s3 (fun _ e => e))
    rcases HXW.out with e | e
    · rw [e]; exact q1 w4 hb4
    · rw [e]; exact q2 w4 hb4
  have KEY := Lib.hid key
  clear key hb3 hX hXl hXd
  go_wp2_with fail
  refine (down_c d _ _ w3 hd3).mono ?_
  rintro e w4 ⟨rfl, h4'⟩
  rw [h4']
  clear h4' hd3
  cases hd : X.down with
  | true =>
    go_wp2_with fail
    refine KEY.out _ (fun w4 hb4 => ?_) (fun w4 hb4 => ?_)
    · go_wp2_with fail
      go_ret
      exact ⟨rfl, hb4⟩
    · go_wp2_with fail
      go_ret
      exact ⟨rfl, hb4⟩
  | false =>
    rw [hd] at hb
    by_cases hf0 : f < 0
    · go_wp2_with fail
      refine KEY.out _ (fun w4 hb4 => ?_) (fun w4 hb4 => ?_)
      · go_wp2_with fail
        go_ret
        exact ⟨rfl, hb4⟩
      · go_wp2_with fail
        go_ret
        exact ⟨rfl, hb4⟩
    · have hf15 : 15 < f := by
        have : ok f = false := by simpa using hb
        unfold ok at this
        rw [decide_eq_false_iff_not] at this
        omega
      go_wp2_with fail
      refine KEY.out _ (fun w4 hb4 => ?_) (fun w4 hb4 => ?_)
      · go_wp2_with fail
        go_ret
        exact ⟨rfl, hb4⟩
      · go_wp2_with fail
        go_ret
        exact ⟨rfl, hb4⟩
end Go.Proofs.Ythibikdnoogfoaa
