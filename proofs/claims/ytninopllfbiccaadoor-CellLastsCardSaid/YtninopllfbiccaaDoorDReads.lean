/-
  DiskReads returns true, for every list of acts, file, offset, string and size; of what was there nothing has turned.
-/
import Derived.Test.YtninopllfbiccaaDoorDPlay
namespace Go.Proofs.YtninopllfbiccaaDoor
set_option maxRecDepth 100000
open Go Go.RowKit Go.Maps Dk

theorem ba_size' (l : List UInt8) : (⟨l.toArray⟩ : ByteArray).size = l.length := by show l.toArray.size = _; simp
theorem ba_extract' (q : List UInt8) (i j : Nat) : (⟨q.toArray⟩ : ByteArray).extract i j = ⟨((q.take j).drop i).toArray⟩ := by
  apply ByteArray.ext
  rw [ByteArray.data_extract]
  simp [List.drop_take]
theorem slice_str (l : List UInt8) (i j : Nat) (h1 : i ≤ j) (h2 : j ≤ l.length) (wx : World) : (Instr.slice 9 (.string ⟨l.toArray⟩) (some (.int .i64 (i : Int))) (some (.int .i64 (j : Int))) none).run Tryd.prog wx = .ok (.string ⟨((l.take j).drop i).toArray⟩) wx := by
  rw [run_slice_string wx 9 ⟨l.toArray⟩ .i64 .i64 i j Tryd.underlying9 (by omega) (by omega) (by rw [ba_size']; omega)]
  simp only [Int.toNat_natCast]
  rw [ba_extract']
theorem slice_str_h (l : List UInt8) (j : Nat) (h2 : j ≤ l.length) (wx : World) : (Instr.slice 9 (.string ⟨l.toArray⟩) none (some (.int .i64 (j : Int))) none).run Tryd.prog wx = .ok (.string ⟨(l.take j).toArray⟩) wx := by
  rw [run_slice_string_h wx 9 ⟨l.toArray⟩ Tryd.underlying9 .i64 j (by omega) (by rw [ba_size']; omega)]
  simp only [Int.toNat_natCast]
  rw [ba_extract']
  rfl

/-! ### What the model says -/
theorem strike_zero {X : D} (h : X.left = 0) : X.strike = (X, false) := by unfold D.strike; rw [if_pos h]
theorem saveAll_nil : ∀ (q : List (Nat × Nat)) (i : Nat) (g : Nat → F), saveAll [] q i g = g
  | [], _, _ => rfl
  | p :: q, i, g => by
    have e : surv [] i = false := rfl
    show saveAll [] q (i + 1) (if surv [] i then saveAt g p else g) = g
    rw [e]
    exact saveAll_nil q (i + 1) g
theorem ok_nat {i : Nat} (h : i < 16) : ok (i : Int) = true := by simp [ok]; omega
theorem write_good {X : D} (hd : X.down = false) (hl : X.left = 0) {i a : Nat} {s : List UInt8} (hi : i < 16) (ha : a + s.length ≤ 16777216) :
    X.write (i : Int) (a : Int) s = ({ X with file := upd X.file i ((X.file i).write a s), queue := X.queue ++ ((X.file i).added a s).map fun n => (i, n) }, 0) := by
  have hput : X.put (i : Int) (a : Int) s = ({ X with file := upd X.file i ((X.file i).write a s), queue := X.queue ++ ((X.file i).added a s).map fun n => (i, n) }, 0) := by
    unfold D.put
    have e2 : decide (0 ≤ (a : Int)) = true := by simp
    rw [ok_nat hi, e2, if_pos (by rfl), if_pos (by omega)]
    simp only [Int.toNat_natCast]
  unfold D.write
  rw [if_neg (by rw [hd]; simp), hput]
  dsimp only
  rw [strike_zero (by exact hl)]
  rfl
theorem read_good {X : D} (hd : X.down = false) {i a n : Nat} (hi : i < 16) : X.read (i : Int) (a : Int) (n : Int) = (((X.file i).now.drop a).take n, 0) := by
  unfold D.read
  have e1 : decide (0 ≤ (a : Int)) = true := by simp
  have e2 : decide (0 ≤ (n : Int)) = true := by simp
  rw [if_neg (by rw [hd]; simp), ok_nat hi, e1, e2, if_pos (by rfl)]
  simp only [Int.toNat_natCast]
theorem size_good {X : D} {i : Nat} (hi : i < 16) : X.size (i : Int) = (X.file i).now.length := by
  unfold D.size
  rw [ok_nat hi, if_pos rfl]
  simp only [Int.toNat_natCast]
theorem put_read (b s : List UInt8) (a : Nat) : ((put b a s).drop a).take s.length = s := by
  unfold put
  have h : ((b ++ List.replicate (a - b.length) 0).take a).length = a := by simp; omega
  rw [List.drop_append, h, List.drop_of_length_le (by omega), List.nil_append, Nat.sub_self, List.drop_zero, List.take_left]
theorem trunc_good {X : D} (hd : X.down = false) (hl : X.left = 0) {i n : Nat} (hi : i < 16) (hn : n ≤ (X.file i).now.length) :
    X.trunc (i : Int) (n : Int) = ({ X.settle i with file := upd (X.settle i).file i (((X.settle i).file i).cut n) }, 0) := by
  unfold D.trunc
  rw [if_neg (by rw [hd]; simp), strike_zero hl]
  dsimp only
  have e1 : decide (0 ≤ (n : Int)) = true := by simp
  have e2 : decide ((n : Int) ≤ ((X.file (i : Int).toNat).now.length : Int)) = true := by rw [decide_eq_true_eq]; simp only [Int.toNat_natCast]; omega
  rw [if_neg (by simp), ok_nat hi, e1, e2, if_pos (by rfl)]
  simp only [Int.toNat_natCast]
theorem crash_none {X : D} (hd : X.down = false) : X.crash [] = ⟨fun f => (X.file f).revert, [], true, X.lost, 0, []⟩ := by
  unfold D.crash
  rw [if_neg (by rw [hd]; simp)]
  simp only [saveAll_nil]

def readsEarly (l : List Act) (at' : Int) (s : List UInt8) (size : Int) : Bool := !fewM l || decide (300 < s.length) || decide (at' < 0) || decide (3000 < at') || decide (size < 0)

theorem write_bad {X : D} (hl : X.left = 0) (f a : Int) (s : List UInt8) (h : (X.down || !ok f) = true) : (X.write f a s).2 = 9 ∨ (X.write f a s).2 = 1 := by
  unfold D.write
  cases hd : X.down with
  | true => exact Or.inl rfl
  | false =>
    rw [hd] at h
    have hf : ok f = false := by simpa using h
    have hp : X.put f a s = (X, 1) := by
      unfold D.put
      rw [hf, if_neg (by simp)]
    rw [if_neg (by simp), hp]
    dsimp only
    rw [strike_zero hl]
    exact Or.inr rfl
theorem mid_eq (q : List UInt8) (a z fr m : Nat) (h1 : fr = min a q.length) (h2 : m = min z (q.length - fr)) : (q.drop a).take z = (q.take (fr + m)).drop fr := by
  rw [List.drop_take, Nat.add_sub_cancel_left]
  subst h1 h2
  by_cases h : a ≤ q.length
  · rw [Nat.min_eq_left h]
    by_cases hz : z ≤ q.length - a
    · rw [Nat.min_eq_left hz]
    · rw [Nat.min_eq_right (by omega), List.take_of_length_le (by simp; omega), List.take_of_length_le (by simp)]
  · have e : min a q.length = q.length := by omega
    rw [e, List.drop_of_length_le (by omega), List.drop_of_length_le (Nat.le_refl _)]
    simp
theorem nil_src (w : World) : SrcV w 1 (.slice none 0 0) 0 (intsV []) := ⟨none, 0, rfl, rfl, fun _ => rfl, fun ad e => by cases e⟩
theorem nil_keep (w : World) (T : Nat → Prop) : KeepAt w (.slice none 0 0) [] T := ⟨none, 0, rfl, fun h => absurd rfl h⟩
theorem DiskIn.inv {w : World} {d : Nat} {S : Nat → Prop} {X : D} (h : DiskIn w d S X) : X.Inv := by
  obtain ⟨bm, blk, own, qv, kv, h, _⟩ := h
  exact h.inv

end Go.Proofs.YtninopllfbiccaaDoor
