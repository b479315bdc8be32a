/-
  DiskReads where the machine is up and the file is one: what was written is read.
-/
import Derived.Test.YthibikdnoogfoaaDReads
namespace Go.Proofs.Ythibikdnoogfoaa
open Go Go.RowKit Go.Maps Dk

/-- After the write: the bytes of the file. -/
theorem write_now (f : F) (a : Nat) (s : List UInt8) : (((f.write a s).now.drop a).take s.length) = s := by
  unfold F.write
  split
  · next h => subst h; simp
  · exact put_read _ _ _
theorem cut_back (f : F) (n : Nat) : ((f.settle.cut n).revert).now = f.now.take n := rfl

set_option maxHeartbeats 4000000 in
set_option maxRecDepth 100000 in
theorem reads_good (v : Value) (l : List Act) (i a z : Nat) (s : List UInt8) (hz64 : z ≤ 9223372036854775807) (w : World) (h : ActsAt w v l) (he : readsEarly l (a : Int) s (z : Int) = false)
    (hb : (playM l).down = false) (hi : i < 16) :
    Calls Try.prog 7 #[v, .int .i64 (i : Int), .int .i64 (a : Int), .string ⟨s.toArray⟩, .int .i64 (z : Int)] w fun e w' => e = .returned (.bool true) ∧ Below w.heap.size w w' := by
  have h0 := h
  obtain ⟨_, va, vc, rfl, _⟩ := h0
  have H := Lib.hid h
  clear h
  unfold readsEarly at he
  simp only [Bool.or_eq_false_iff, decide_eq_false_iff_not, Bool.not_eq_false'] at he
  obtain ⟨⟨⟨⟨hf, h1⟩, h2⟩, h3⟩, h4⟩ := he
  have h1' : ¬ (300 : Int) < (s.length : Int) := by omega
  have ha3 : a ≤ 3000 := by omega
  go_enter Try.func7, Try.ntmps7
  go_wp2_with fail
  refine (small_c w).mono ?_
  rintro e w1 ⟨rfl, hb1⟩
  go_wp2_with fail
  refine (few_c _ l w1 (H.out.on hb1).toIn).mono ?_
  rintro e w2 ⟨rfl, h2⟩
  rw [h2, hf]
  clear h2
  go_wp2_with fail
  refine (played_c _ l w1 (H.out.on hb1)).mono ?_
  rintro e w2 ⟨d, rfl, hd2, hb2⟩
  have s1 := hb1.size
  replace hd2 := hd2.mono (T := fun k => w.heap.size ≤ k) (fun k _ e => Nat.le_trans s1 e)
  replace hb2 := hb1.trans (hb2.mono s1)
  have s2 := hb2.size
  clear hb1
  go_wp2_with fail
  refine (armIn_c d _ _ 0 (by omega) (.slice none 0 0) [] w2 hd2 (nil_src w2) (by simp) (by simp)).mono ?_
  rintro e w3 ⟨rfl, hd3, hk3⟩
  replace hd3 := hd3.up s2
  have hb3 := hb2.trans (hk3.toBelow s2 (fun _ e => e))
  have s3 := hb3.size
  clear hd2 hb2 hk3
  obtain ⟨X, hX⟩ : ∃ X, X = (playM l).arm 0 [] := ⟨_, rfl⟩
  have hXd : X.down = false := by rw [hX]; exact hb
  have hXl : X.left = 0 := by rw [hX]; rfl
  rw [← hX] at hd3
  clear hX
  have hi64 : -9223372036854775808 ≤ (i : Int) ∧ (i : Int) ≤ 9223372036854775807 := by omega
  have ha64 : -9223372036854775808 ≤ (a : Int) ∧ (a : Int) ≤ 9223372036854775807 := by omega
  go_wp2_with fail
  refine (down_c d _ _ w3 hd3).mono ?_
  rw [hXd]
  rintro e w4 ⟨rfl, h4'⟩
  rw [h4']
  clear h4'
  have hi0 : ¬ (i : Int) < 0 := by omega
  have hi15 : ¬ (15 : Int) < (i : Int) := by omega
  go_wp2_with fail
  obtain ⟨Y, hY⟩ : ∃ Y : D, Y = { X with file := upd X.file i ((X.file i).write a s), queue := X.queue ++ ((X.file i).added a s).map fun n => (i, n) } := ⟨_, rfl⟩
  have hw := write_good hXd hXl (a := a) (s := s) hi (by omega)
  rw [← hY] at hw
  have hYd : Y.down = false := by rw [hY]; exact hXd
  have hYl : Y.left = 0 := by rw [hY]; exact hXl
  have hYf : Y.file i = (X.file i).write a s := by rw [hY]; exact upd_same _ _ _
  clear hY
  refine (write_c d _ _ (i : Int) (a : Int) s hi64 ha64 (by omega) w3 hd3).mono ?_
  rw [hw]
  rintro e w4 ⟨rfl, hd4, hk4⟩
  replace hd4 := hd4.up s3
  have hb4 := hb3.trans (hk4.toBelow s3 (fun _ e => e))
  have s4 := hb4.size
  clear hd3 hb3 hk4 hw
  obtain ⟨q, hq⟩ : ∃ q, q = (Y.file i).now := ⟨_, rfl⟩
  have hqs : (q.drop a).take s.length = s := by rw [hq, hYf]; exact write_now _ _ _
  have hN : q.length ≤ 16777216 := by rw [hq]; exact (hd4.inv.file i hi).small
  have r1 : Y.read (i : Int) (a : Int) ((s.length : Nat) : Int) = (s, 0) := by rw [read_good hYd hi, ← hq, hqs]
  have r2 : Y.size (i : Int) = q.length := by rw [size_good hi, hq]
  have r3 : Y.read (i : Int) 0 ((q.length : Nat) : Int) = (q, 0) := by
    have := read_good (a := 0) (n := q.length) hYd hi
    rw [← hq, List.drop_zero, List.take_length] at this
    exact this
  have r4 : Y.read (i : Int) (a : Int) (z : Int) = ((q.drop a).take z, 0) := by rw [read_good hYd hi, ← hq]
  obtain ⟨fr, hfr⟩ : ∃ fr, fr = min a q.length := ⟨_, rfl⟩
  obtain ⟨m, hm⟩ : ∃ m, m = min z (q.length - fr) := ⟨_, rfl⟩
  obtain ⟨en, hen⟩ : ∃ en, en = fr + m := ⟨_, rfl⟩
  have hmid := mid_eq q a z fr m hfr hm
  rw [hmid, ← hen] at r4
  have ht := trunc_good hYd hYl (n := fr) hi (by rw [← hq]; omega)
  obtain ⟨Z, hZ⟩ : ∃ Z : D, Z = { Y.settle i with file := upd (Y.settle i).file i (((Y.settle i).file i).cut fr) } := ⟨_, rfl⟩
  rw [← hZ] at ht
  have hZd : Z.down = false := by rw [hZ]; exact hYd
  have hZf : (Z.file i).revert.now = q.take fr := by
    rw [hZ]
    show (upd (Y.settle i).file i (((Y.settle i).file i).cut fr) i).revert.now = _
    rw [upd_same]
    show (((upd Y.file i (Y.file i).settle) i).cut fr).revert.now = _
    rw [upd_same, cut_back, hq]
  clear hZ
  have hC := crash_none hZd
  obtain ⟨C, hCe⟩ : ∃ C : D, C = D.start ⟨fun f => (Z.file f).revert, [], true, Z.lost, 0, []⟩ := ⟨_, rfl⟩
  have hCd : C.down = false := by rw [hCe]; rfl
  have hCf : (C.file i).now = q.take fr := by rw [hCe]; exact hZf
  have r5 : C.read (i : Int) 0 16777216 = (q.take fr, 0) := by
    have := read_good (a := 0) (n := 16777216) hCd hi
    rw [hCf, List.drop_zero, List.take_of_length_le (by simp; omega)] at this
    exact this
  have hfrN : fr ≤ q.length := by omega
  have henN : en ≤ q.length := by omega
  have sl1 := slice_str q fr en (by omega) henN
  have sl2 := slice_str_h q fr hfrN
  have hm1 : (if q.length < a then (q.length : Int) else (a : Int)) = (fr : Int) := by split <;> omega
  have hm2 : (if (q.length : Int) - (fr : Int) < (z : Int) then (q.length : Int) - (fr : Int) else (z : Int)) = (m : Int) := by split <;> omega
  have hm3 : (fr : Int) + (m : Int) = (en : Int) := by omega
  have hme : m ≤ 16777216 := by omega
  have hene : en ≤ 16777216 := by omega
  clear hfr hm hen hmid hYf hq hZf
  go_wp2_with fail
  refine (read_c d _ _ (i : Int) (a : Int) (s.length : Int) hi64 ha64.2 (by omega) w4 hd4).mono ?_
  rw [r1]
  rintro e w5 ⟨rfl, h5⟩
  rw [h5]
  clear h5
  go_wp2_with fail
  refine (size_c d _ _ (i : Int) hi64 w4 hd4).mono ?_
  rw [r2]
  rintro e w5 ⟨rfl, h5⟩
  rw [h5]
  clear h5
  go_wp2_with fail
  refine (read_c d _ _ (i : Int) 0 (q.length : Int) hi64 (by omega) (by omega) w4 hd4).mono ?_
  rw [r3]
  rintro e w5 ⟨rfl, h5⟩
  rw [h5]
  clear h5
  go_wp2_with fail
  refine (read_c d _ _ (i : Int) (a : Int) (z : Int) hi64 ha64.2 (by omega) w4 hd4).mono ?_
  rw [r4]
  rintro e w5 ⟨rfl, h5⟩
  rw [h5]
  clear h5 r1 r3 r4
  go_wp2_with fail
  refine (size_c d _ _ (i : Int) hi64 w4 hd4).mono ?_
  rw [r2]
  rintro e w5 ⟨rfl, h5⟩
  rw [h5]
  clear h5 r2
  go_wp2_with fail
  refine (trunc_c d _ _ (i : Int) (fr : Int) hi64 (by omega) w4 hd4).mono ?_
  rw [ht]
  rintro e w5 ⟨rfl, hd5, hk5⟩
  replace hd5 := hd5.up s4
  have hb5 := hb4.trans (hk5.toBelow s4 (fun _ e => e))
  have s5 := hb5.size
  clear hd4 hb4 hk5 ht
  go_wp2_with fail
  refine (crash_c d _ _ (.slice none 0 0) [] w5 hd5 (nil_keep w5 _) (by simp) (by simp)).mono ?_
  rw [hC]
  rintro e w6 ⟨rfl, hd6, hk6⟩
  replace hd6 := hd6.up s5
  have hb6 := hb5.trans (hk6.toBelow s5 (fun _ e => e))
  have s6 := hb6.size
  clear hd5 hb5 hk6 hC
  go_wp2_with fail
  refine (start_c d _ _ w6 hd6).mono ?_
  rw [← hCe]
  rintro e w7 ⟨rfl, hd7, hk7⟩
  have hb7 := hb6.trans (hk7.toBelow s6 (fun _ e => e))
  clear hd6 hb6 hk7 hCe
  go_wp2_with fail
  refine (read_c d _ _ (i : Int) 0 16777216 hi64 (by omega) (by omega) w7 hd7).mono ?_
  rw [r5]
  rintro e w8 ⟨rfl, h8⟩
  rw [h8]
  clear h8 r5 hd7
  go_wp2_with fail
  go_ret
  exact ⟨rfl, hb7⟩

theorem early_few {l : List Act} {at' : Int} {s : List UInt8} {size : Int} (he : readsEarly l at' s size = false) : fewM l = true := by
  unfold readsEarly at he
  cases hf : fewM l with
  | true => rfl
  | false => rw [hf] at he; simp at he

theorem reads_law (v : Value) (l : List Act) (f at' size : Int) (s : List UInt8) (hf : In64 f) (ha : In64 at') (hz : In64 size) (hs : s.length ≤ 9223372036854775807) (w : World) (h : ActsIn w v l) :
    Calls Try.prog 7 #[v, .int .i64 f, .int .i64 at', .string ⟨s.toArray⟩, .int .i64 size] w fun e w' => e = .returned (.bool true) ∧ Below w.heap.size w w' := by
  cases he : readsEarly l at' s size with
  | true => exact reads_out v l f at' size s hs w h he
  | false =>
    have h' := h.few (early_few he)
    cases hb : ((playM l).down || !ok f) with
    | true => exact reads_bad v l f at' size s hf ha hs w h' he hb
    | false =>
      rw [Bool.or_eq_false_iff, Bool.not_eq_false'] at hb
      have hok := hb.2
      unfold ok at hok
      rw [decide_eq_true_eq] at hok
      have he' := he
      unfold readsEarly at he'
      simp only [Bool.or_eq_false_iff, decide_eq_false_iff_not, Bool.not_eq_false'] at he'
      obtain ⟨⟨⟨_, h2⟩, h3⟩, h4⟩ := he'
      have hz2 := hz.2
      obtain ⟨i, rfl⟩ := Int.eq_ofNat_of_zero_le hok.1
      obtain ⟨a, rfl⟩ := Int.eq_ofNat_of_zero_le (show 0 ≤ at' by omega)
      obtain ⟨z, rfl⟩ := Int.eq_ofNat_of_zero_le (show 0 ≤ size by omega)
      exact reads_good v l i a z s (by omega) w h' he hb.1 (by omega)
end Go.Proofs.Ythibikdnoogfoaa
