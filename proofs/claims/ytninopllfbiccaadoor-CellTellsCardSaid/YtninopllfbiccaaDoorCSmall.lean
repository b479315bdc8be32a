/-
  The examples of the chapter hold.
-/
import Derived.Test.YtninopllfbiccaaDoorCRel
namespace Go.Proofs.YtninopllfbiccaaDoor
set_option maxRecDepth 100000
open Go Go.RowKit Go.Maps Dk

/-- Nothing is scheduled, no sync will be lost. -/
structure Still (X : D) : Prop where
  down : X.down = false
  left : X.left = 0
  lost : X.lost = 0
theorem sync_still {X : D} (h : Still X) {i : Nat} (hi : i < 16) : X.sync (i : Int) = (X.settle i, 0) := by
  unfold D.sync
  rw [if_neg (by rw [h.down]; simp), strike_zero h.left]
  dsimp only
  rw [if_neg (by simp), if_pos (ok_nat hi), if_neg (by rw [h.lost]; omega)]
  simp only [Int.toNat_natCast]
theorem set_still {X : D} (h : Still X) {i : Nat} (hi : i < 16) {c : Ck.C} (hc : c.sure = true ∨ c.slot = 0) {s : List UInt8} (hl : s.length ≤ 65536) :
    ∃ Y, Ck.setM X i c s = (Y, ⟨Ck.other c.slot, s, true⟩, 0) ∧ Still Y ∧ (Y.file i).now = put (if s = [] then (X.file i).now else put (X.file i).now (Ck.start (Ck.other c.slot)) s) 0 (Ck.header (Ck.other c.slot) s.length) := by
  obtain ⟨k, hk⟩ : ∃ k, k = Ck.other c.slot := ⟨_, rfl⟩
  rw [← hk]
  have hst := Ck.start_le k
  have n00 : ¬ (0 : Int) ≠ 0 := fun h => h rfl
  obtain ⟨A, hA⟩ : ∃ A : D, A = { X with file := upd X.file i ((X.file i).write (Ck.start k) s), queue := X.queue ++ ((X.file i).added (Ck.start k) s).map fun n => (i, n) } := ⟨_, rfl⟩
  have hw1 : X.write (i : Int) (Ck.start k : Nat) s = (A, 0) := by rw [hA]; exact write_good h.down h.left hi (by omega)
  have sA : Still A := by rw [hA]; exact ⟨h.down, h.left, h.lost⟩
  have nA : (A.file i).now = if s = [] then (X.file i).now else put (X.file i).now (Ck.start k) s := by
    rw [hA]
    show (upd X.file i ((X.file i).write (Ck.start k) s) i).now = _
    rw [upd_same]
    exact Ck.fwrite_now
  have hs1 := sync_still sA hi
  have sB : Still (A.settle i) := ⟨sA.down, sA.left, sA.lost⟩
  have nB : ((A.settle i).file i).now = if s = [] then (X.file i).now else put (X.file i).now (Ck.start k) s := by
    show (upd A.file i (A.file i).settle i).now = _
    rw [upd_same]
    exact nA
  obtain ⟨E, hE⟩ : ∃ E : D, E = { A.settle i with file := upd (A.settle i).file i (((A.settle i).file i).write 0 (Ck.header k s.length)), queue := (A.settle i).queue ++ (((A.settle i).file i).added 0 (Ck.header k s.length)).map fun n => (i, n) } := ⟨_, rfl⟩
  have hw2 : (A.settle i).write (i : Int) 0 (Ck.header k s.length) = (E, 0) := by rw [hE]; exact write_good (a := 0) sB.down sB.left hi (by rw [Ck.header_length]; omega)
  have sE : Still E := by rw [hE]; exact ⟨sB.down, sB.left, sB.lost⟩
  have nE : (E.file i).now = put (if s = [] then (X.file i).now else put (X.file i).now (Ck.start k) s) 0 (Ck.header k s.length) := by
    rw [hE]
    show (upd (A.settle i).file i (((A.settle i).file i).write 0 (Ck.header k s.length)) i).now = _
    rw [upd_same]
    rw [Ck.fwrite_now, if_neg (by unfold Ck.header; simp), nB]
  have hs2 := sync_still sE hi
  refine ⟨E.settle i, ?_, ⟨sE.down, sE.left, sE.lost⟩, ?_⟩
  · unfold Ck.setM
    rw [if_neg (by omega), if_neg (by
      rintro ⟨e1, e2⟩
      rcases hc with e | e
      · rw [e] at e1; cases e1
      · exact e2 e)]
    unfold Ck.setB
    dsimp only
    rw [← hk, hw1, if_neg n00]
    dsimp only
    rw [hs1, if_neg n00]
    dsimp only
    rw [hw2, if_neg n00]
    dsimp only
    rw [hs2]
    rfl
  · show (upd E.file i (E.file i).settle i).now = _
    rw [upd_same]
    exact nE
theorem part_eq {N L : List UInt8} {a n : Nat} (hl : L.length = min n (N.length - a)) (h : ∀ i, i < L.length → bt N (a + i) = bt L i) : (N.drop a).take n = L := by
  have h1 : ((N.drop a).take n).length = L.length := by simp; omega
  refine bt_ext h1 fun i hi => ?_
  rw [h1] at hi
  rw [bt_take, if_pos (by omega), bt_drop, h i hi]

/-- The states of the example. -/
theorem ex_states : ∃ X1 X2 : D, Ck.setM D.new 3 ⟨0, [], false⟩ [97] = (X1, ⟨1, [97], true⟩, 0) ∧ Ck.setM X1 3 ⟨1, [97], true⟩ [98, 99] = (X2, ⟨2, [98, 99], true⟩, 0) ∧
    X2.read 3 0 6 = ([2, 2, 0, 0, 0, 0], 0) ∧ X2.read 3 64 1 = ([97], 0) ∧ X2.read 3 131072 9 = ([98, 99], 0) := by
  obtain ⟨X1, e1, s1, n1⟩ := set_still (X := D.new) ⟨rfl, rfl, rfl⟩ (i := 3) (by omega) (c := ⟨0, [], false⟩) (Or.inr rfl) (s := [97]) (by decide)
  obtain ⟨X2, e2, s2, n2⟩ := set_still s1 (i := 3) (by omega) (c := ⟨1, [97], true⟩) (Or.inl rfl) (s := [98, 99]) (by decide)
  have n1' : (X1.file 3).now = put (put [] 64 [97]) 0 [1, 1, 0, 0, 0] := n1
  have n2' : (X2.file 3).now = put (put (X1.file 3).now 131072 [98, 99]) 0 [2, 2, 0, 0, 0] := n2
  rw [n1'] at n2'
  have hlen : (X2.file 3).now.length = 131074 := by rw [n2']; simp only [put_length, List.length_cons, List.length_nil]; omega
  have hbt : ∀ i, bt (X2.file 3).now i = if i < 5 then bt [2, 2, 0, 0, 0] i else if 131072 ≤ i ∧ i < 131074 then bt [98, 99] (i - 131072) else if i = 64 then 97 else 0 := fun i => by
    rw [n2', put_bt, put_bt, put_bt, put_bt]
    simp only [List.length_cons, List.length_nil, Nat.zero_le, true_and, Nat.zero_add, Nat.sub_zero]
    by_cases h1 : i < 5
    · simp only [h1, if_true]
    · by_cases h2 : 131072 ≤ i ∧ i < 131074
      · have h2' : 131072 ≤ i ∧ i < 131072 + (1 + 1) := h2
        simp only [h1, h2', if_true, if_false, and_self]
      · have h2' : ¬ (131072 ≤ i ∧ i < 131072 + (1 + 1)) := h2
        simp only [h1, h2', if_false]
        by_cases h3 : i = 64
        · subst h3; rfl
        · have h3' : ¬ (64 ≤ i ∧ i < 64 + 1) := by omega
          simp only [h3, h3', if_false]
          exact bt_ge (by simp)
  refine ⟨X1, X2, e1, e2, ?_, ?_, ?_⟩
  · have := read_good (n := 6) (a := 0) s2.down (i := 3) (by omega)
    refine this.trans (congrArg (·, (0 : Int)) (part_eq (by rw [hlen]; rfl) fun i hi => ?_))
    rw [hbt]
    have hi' : i < 6 := hi
    have : i = 0 ∨ i = 1 ∨ i = 2 ∨ i = 3 ∨ i = 4 ∨ i = 5 := by omega
    rcases this with rfl | rfl | rfl | rfl | rfl | rfl <;> rfl
  · have := read_good (n := 1) (a := 64) s2.down (i := 3) (by omega)
    refine this.trans (congrArg (·, (0 : Int)) (part_eq (by rw [hlen]; rfl) fun i hi => ?_))
    rw [hbt]
    have hi' : i < 1 := hi
    obtain rfl : i = 0 := by omega
    rfl
  · have := read_good (n := 9) (a := 131072) s2.down (i := 3) (by omega)
    refine this.trans (congrArg (·, (0 : Int)) (part_eq (by rw [hlen]; rfl) fun i hi => ?_))
    rw [hbt]
    have hi' : i < 2 := hi
    rw [if_neg (by omega), if_pos (by omega), show 131072 + i - 131072 = i by omega]

theorem in3 : -9223372036854775808 ≤ (3 : Int) ∧ (3 : Int) ≤ 9223372036854775807 := by omega
theorem cd_read {w0 w : World} {d b : Nat} {f : Int} {X : D} {c : Ck.C} (h : CD w0 w d b f X c) (g : Int) (hg : -9223372036854775808 ≤ g ∧ g ≤ 9223372036854775807) (a n : Int) (ha : a ≤ 9223372036854775807) (hn : n ≤ 9223372036854775807) :
    Calls Tryd.prog 28 #[.pointer (some ⟨d, 0, none⟩), .int .i64 g, .int .i64 a, .int .i64 n] w fun e w' => e = .returned (.tuple #[.string ⟨(X.read g a n).1.toArray⟩, .int .i64 (X.read g a n).2]) ∧ w' = w := by
  obtain ⟨S, h1, _⟩ := h
  exact read_c d S X g a n hg ha hn w h1

set_option maxHeartbeats 1000000 in
set_option maxRecDepth 100000 in
theorem cSmall_c (w : World) (ht : Tab w) : Calls Tryd.prog 8 #[] w fun e w' => e = .returned (.bool true) ∧ Below w.heap.size w w' := by
  obtain ⟨X1, X2, e1, e2, r1, r2, r3⟩ := ex_states
  go_enter Tryd.func8, Tryd.ntmps8
  go_wp2_with fail
  refine (dd_new (Below.refl _ w)).mono ?_
  rintro e w1 ⟨d, rfl, h1⟩
  go_wp2_with fail
  refine (dd_open ht h1 3 in3 (c := ⟨0, [], false⟩) (Ck.St.new (i := 3)).1).mono ?_
  rintro e w2 ⟨b, rfl, h2⟩
  clear h1
  go_wp2_with fail
  refine (cd_get h2).mono ?_
  rintro e w3 ⟨rfl, hb⟩
  have h3 := Lib.hid (CD.below h2 hb)
  clear h2 hb
  go_wp2_with fail
  refine (cd_set ht h3.out in3 [97]).mono ?_
  rw [e1]
  rintro e w4 ⟨rfl, h4⟩
  clear h3
  go_wp2_with fail
  refine (cd_set ht h4.out in3 [98, 99]).mono ?_
  rw [e2]
  rintro e w5 ⟨rfl, h5⟩
  clear h4
  go_wp2_with fail
  refine (cd_get h5.out).mono ?_
  rintro e w6 ⟨rfl, hb⟩
  have h6 := Lib.hid (CD.below h5.out hb)
  clear h5 hb
  go_wp2_with fail
  refine (cd_read h6.out 3 in3 0 6 (by omega) (by omega)).mono ?_
  rw [r1]
  rintro e w7 ⟨rfl, hw⟩
  rw [hw]
  clear hw
  go_wp2_with fail
  refine (cd_read h6.out 3 in3 64 1 (by omega) (by omega)).mono ?_
  rw [r2]
  rintro e w7 ⟨rfl, hw⟩
  rw [hw]
  clear hw
  go_wp2_with fail
  refine (cd_read h6.out 3 in3 131072 9 (by omega) (by omega)).mono ?_
  rw [r3]
  rintro e w7 ⟨rfl, hw⟩
  rw [hw]
  clear hw
  go_wp2_with fail
  go_ret
  exact ⟨rfl, h6.out.base⟩
end Go.Proofs.YtninopllfbiccaaDoor
