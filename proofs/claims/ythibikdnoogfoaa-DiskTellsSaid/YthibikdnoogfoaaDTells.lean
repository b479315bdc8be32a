/-
  DiskTells: the walk.
-/
import Derived.Test.YthibikdnoogfoaaDTellsA
import Derived.Test.YthibikdnoogfoaaDArms2
import Derived.Deep.RegionHeld3
namespace Go.Proofs.Ythibikdnoogfoaa
open Go Go.RowKit Go.Maps Dk

set_option maxHeartbeats 1000000 in
set_option maxRecDepth 100000 in
theorem tells_out (v : Value) (l : List Act) (f a n : Int) (w : World) (h : ActsIn w v l) (he : fewM l = false) :
    Calls Try.prog 3 #[v, .int .i64 f, .int .i64 a, .int .i64 n] w fun e w' => e = .returned (.bool true) ∧ Below w.heap.size w w' := by
  have h0 := h
  obtain ⟨_, va, vc, rfl, _⟩ := h0
  have H := Lib.hid h
  clear h
  go_enter Try.func3, Try.ntmps3
  go_wp2_with fail
  refine (small_c w).mono ?_
  rintro e w1 ⟨rfl, hb1⟩
  go_wp2_with fail
  refine (few_c _ l w1 (H.out.on hb1)).mono ?_
  rintro e w2 ⟨rfl, h2⟩
  rw [h2, he]
  clear h2
  go_wp2_with fail
  go_ret
  exact ⟨rfl, hb1⟩
theorem ActCellsAt.on {w w' : World} {b o : Nat} {x : Act} {ya : Option Addr} {yc : Nat} (h : ActCellsAt w b o x ya yc) (hb : Below w.heap.size w w') : ActCellsAt w' b o x ya yc := by
  obtain ⟨g0, g1, g2, g3, g4⟩ := h
  have hkc : ∀ {p : Addr} {v : Value}, w.cell? p = some v → w'.cell? p = some v := fun hp => (Kept.below (S := fun _ => False) hb).cell hp (fun e => e)
  exact ⟨hkc g0, hkc g1, hkc g2, hkc g3, hkc g4⟩

set_option maxHeartbeats 16000000 in
set_option maxRecDepth 100000 in
theorem tells_good (v : Value) (l : List Act) (f a n : Int) (hf : In64 f) (ha : In64 a) (hn : In64 n) (w : World) (h : ActsAt w v l) (he : fewM l = true) :
    Calls Try.prog 3 #[v, .int .i64 f, .int .i64 a, .int .i64 n] w fun e w' => e = .returned (.bool true) ∧ Below w.heap.size w w' := by
  have h0 := h
  obtain ⟨hlen, va, vc, rfl, hcell⟩ := h0
  have H := Lib.hid h
  have HC := Lib.hid hcell
  clear h hcell hlen
  obtain ⟨L, hL⟩ : ∃ L, L = l.length := ⟨_, rfl⟩
  have hL40 : L ≤ 40 := by
    have he' := he
    unfold fewM at he'
    rw [Bool.and_eq_true, decide_eq_true_eq] at he'
    omega
  have HS300 := Lib.hid (show ∀ x ∈ l, x.s.length ≤ 300 from fun x hx => by
    have he' := he
    unfold fewM at he'
    rw [Bool.and_eq_true, List.all_eq_true] at he'
    have := he'.1 x hx
    unfold fine at this
    simp only [Bool.not_eq_true', Bool.or_eq_false_iff, decide_eq_false_iff_not] at this
    omega)
  rw [← hL]
  have HL := Lib.hid hL
  obtain ⟨nh, hnh⟩ : ∃ nh, nh = L / 2 := ⟨_, rfl⟩
  have hq1 : (L : Int).tdiv 2 = (nh : Int) := by rw [Int.tdiv_eq_ediv_of_nonneg (by omega)]; omega
  have hq2 : (L : Int) / 2 = (nh : Int) := by omega
  clear hL hnh
  go_enter Try.func3, Try.ntmps3
  go_wp2_with fail
  refine (small_c w).mono ?_
  rintro e w1 ⟨rfl, hb1⟩
  go_wp2_with fail
  have hfew := few_c _ l w1 (H.out.on hb1).toIn
  rw [← HL.out] at hfew
  refine hfew.mono ?_
  clear hfew
  rintro e w2 ⟨rfl, h2'⟩
  rw [h2', he]
  clear h2'
  go_wp2_with fail
  refine (new_c w1).mono ?_
  rintro e w2 ⟨d, rfl, hd2, hb2⟩
  have s1 := hb1.size
  replace hd2 := hd2.mono (T := fun k => w.heap.size ≤ k ∧ k < w2.heap.size) (fun k hk e => ⟨Nat.le_trans s1 e, hk⟩)
  replace hb2 := hb1.trans (hb2.mono s1)
  have s2 := hb2.size
  clear hb1
  go_wp2_with fail
  refine (rnew_c w2).mono ?_
  rintro e w3 ⟨r, rfl, hr, hR3, hb3⟩
  have s23 := hb3.size
  have hD3 : Duo w w3 d r D.new ⟨[], [], 0, false, 0, []⟩ := ⟨fun k => w.heap.size ≤ k ∧ k < w2.heap.size, fun k => w2.heap.size ≤ k ∧ k < w3.heap.size, hd2.on hb3, ⟨_, _, _, hR3, fun k hin => by
    have hlt := hR3.lt hin
    rcases hin with e | e | e | e
    · omega
    · cases e
    · cases e
    · cases e⟩, fun k h1 h2 => by omega, fun k h1 => by omega, fun k h1 => by omega⟩
  have hB3 := hb2.trans (hb3.mono s2)
  have HD3 := Lib.hid hD3
  have HB3 := Lib.hid hB3
  clear hd2 hb2 hR3 hb3 hD3 hB3 s1 s2 s23 hr
  go_wp2_with fail
  go_loopw [10, 12, 13] (fun v10 v12 _ wr => ∃ (k d : Nat) (Y : D) (X : R), k ≤ L ∧ v12 = .int .i64 (k : Int) ∧ v10 = .pointer (some ⟨d, 0, none⟩) ∧ Hid (Duo w wr d r Y X) ∧ Hid (Sim X Y) ∧ Below w.heap.size w wr) (fun _ v12 _ _ => L - (intOf v12).toNat)
  case atStart => exact ⟨0, d, _, _, Nat.zero_le _, rfl, rfl, HD3, Lib.hid sim_new, HB3.out⟩
  case round =>
    obtain ⟨k, d, Y, X, hk, rfl, rfl, HD, HSI, hb⟩ := hrel
    clear HD3 HB3
    by_cases hkl : k < L
    · have hkl' : (k : Int) < (L : Int) := by omega
      have hk0 : (0 : Int) ≤ (k : Int) := by omega
      obtain ⟨x, hx⟩ : ∃ x, l[k]? = some x := ⟨l[k]'(by have := HL.out; omega), List.getElem?_eq_getElem _⟩
      obtain ⟨b, off, ya, yc, rfl, hcs, hsrc, hok⟩ := HC.out k x hx
      have hcw : ActCellsAt w b (off + k * 5) x ya yc := hcs
      have CE := Lib.hid (fun (wx : World) (hbx : Below w.heap.size w wx) => hcw.on hbx)
      have HOK := Lib.hid hok
      have HS := Lib.hid hsrc
      have hbd : Below w.heap.size w wr.drew := Below.drew hb
      have hact := HSI.out.act x hok
      obtain ⟨z, hz⟩ : ∃ z, z = (doM Y x).2 := ⟨_, rfl⟩
      obtain ⟨Y1, hY1⟩ : ∃ Y1, Y1 = (doM Y x).1 := ⟨_, rfl⟩
      obtain ⟨X1, hX1⟩ : ∃ X1, X1 = (tellM X x).1 := ⟨_, rfl⟩
      rw [← hz, ← hY1, ← hX1] at hact
      have HSI1 := Lib.hid hact.1
      have QD := Lib.hid (show Calls Try.prog 12 #[.pointer (some ⟨d, 0, none⟩), .agg #[.int .i64 x.op, .int .i64 x.f, .int .i64 x.n, .string ⟨x.s.toArray⟩, .slice ya x.keep.length yc]] wr.drew fun e w' => e = .returned (.int .i64 z) ∧ ActCellsAt w' b (off + k * 5) x ya yc ∧ Hid (Duo w w' d r Y1 X) ∧ Hid (Below w.heap.size w w') from by
        refine (duo_do x hok ya yc d r Y X w wr.drew (HD.out.on (Below.drew (Below.refl _ wr))) hbd hsrc).mono ?_
        rintro e w' ⟨rfl, h1, h2⟩
        exact ⟨by rw [hz], CE.out w' h2, by rw [hY1]; exact Lib.hid h1, Lib.hid h2⟩)
      have QT := Lib.hid (show ∀ w2, Hid (Duo w w2 d r Y1 X) → Hid (Below w.heap.size w w2) → Calls Try.prog 13 #[.pointer (some ⟨r, 0, none⟩), .agg #[.int .i64 x.op, .int .i64 x.f, .int .i64 x.n, .string ⟨x.s.toArray⟩, .slice ya x.keep.length yc]] w2 fun e w' => e = .returned (.int .i64 z) ∧ ActCellsAt w' b (off + k * 5) x ya yc ∧ Hid (Duo w w' d r Y1 X1) ∧ Hid (Below w.heap.size w w') from fun w2 h2 hb2 => by
        refine (duo_tell x hok ya yc d r Y1 X (HSI.out.tellOk x (by have := HS300.out x (List.mem_of_getElem? hx); omega)) w w2 h2.out hb2.out hsrc).mono ?_
        rintro e w' ⟨rfl, h1, h2⟩
        exact ⟨by rw [hact.2], CE.out w' h2, by rw [hX1]; exact Lib.hid h1, Lib.hid h2⟩)
      obtain ⟨dn, hdn⟩ : ∃ dn, dn = Y1.down := ⟨_, rfl⟩
      obtain ⟨sz, hsz⟩ : ∃ sz, sz = Y1.size f := ⟨_, rfl⟩
      have QDD := Lib.hid (show ∀ w2, Hid (Duo w w2 d r Y1 X1) → Calls Try.prog 14 #[.pointer (some ⟨d, 0, none⟩)] w2 fun e w' => e = .returned (.bool dn) ∧ w' = w2 from fun w2 h2 => by rw [hdn]; exact duo_down d r Y1 X1 w w2 h2.out)
      have QRD := Lib.hid (show ∀ w2, Hid (Duo w w2 d r Y1 X1) → Calls Try.prog 15 #[.pointer (some ⟨r, 0, none⟩)] w2 fun e w' => e = .returned (.bool dn) ∧ w' = w2 from fun w2 h2 => by rw [hdn]; exact duo_rdown d r Y1 X1 w w2 h2.out HSI1.out)
      have QDS := Lib.hid (show ∀ w2, Hid (Duo w w2 d r Y1 X1) → Calls Try.prog 16 #[.pointer (some ⟨d, 0, none⟩), .int .i64 f] w2 fun e w' => e = .returned (.int .i64 (sz : Int)) ∧ w' = w2 from fun w2 h2 => by rw [hsz]; exact duo_size d r Y1 X1 f hf w w2 h2.out)
      have QRS := Lib.hid (show ∀ w2, Hid (Duo w w2 d r Y1 X1) → Hid (Below w.heap.size w w2) → Calls Try.prog 17 #[.pointer (some ⟨r, 0, none⟩), .int .i64 f] w2 fun e w' => e = .returned (.int .i64 (sz : Int)) ∧ ActCellsAt w' b (off + k * 5) x ya yc ∧ Hid (Duo w w' d r Y1 X1) ∧ Hid (Below w.heap.size w w') from fun w2 h2 hb2 => by
        refine (duo_rsize d r Y1 X1 f w w2 h2.out HSI1.out).mono ?_
        rintro e w' ⟨rfl, h1⟩
        have hbw := hb2.out.trans (h1.mono hb2.out.size)
        exact ⟨by rw [hsz], CE.out w' hbw, Lib.hid (h2.out.on h1), Lib.hid hbw⟩)
      obtain ⟨c0, c1, c2, c3, c4⟩ := CE.out wr hb
      have HX := Lib.hid hx
      clear hx hcs hcw hsrc hok hb hbd hact hz hY1 hX1 hdn hsz
      go_upto_region 11 with fail
      go_region_held3 (fun w' => w'.cell? ⟨b, off + k * 5, none⟩ = some (.int .i64 x.op) ∧ w'.cell? ⟨b, off + k * 5 + 1, none⟩ = some (.int .i64 x.f) ∧ w'.cell? ⟨b, off + k * 5 + 2, none⟩ = some (.int .i64 x.n) ∧ w'.cell? ⟨b, off + k * 5 + 3, none⟩ = some (.string ⟨x.s.toArray⟩) ∧ w'.cell? ⟨b, off + k * 5 + 4, none⟩ = some (.slice ya x.keep.length yc))
        (first | exact hac | exact had | exact hae | go_keep)
        ((first
          | (go_at_call 12; refine QD.out.mono ?_; rintro e w2 ⟨rfl, hac, HD2, HB2⟩)
          | (go_at_call 13; refine (QT.out _ HD2 HB2).mono ?_; rintro e w3 ⟨rfl, had, HD3, HB3⟩)
          | (go_at_call 14; refine (QDD.out _ HD3).mono ?_; rintro e w4 ⟨rfl, h4⟩; rw [h4]; clear h4)
          | (go_at_call 15; refine (QRD.out _ HD3).mono ?_; rintro e w4 ⟨rfl, h4⟩; rw [h4]; clear h4)
          | (go_at_call 16; refine (QDS.out _ HD3).mono ?_; rintro e w4 ⟨rfl, h4⟩; rw [h4]; clear h4)
          | (go_at_call 17; refine (QRS.out _ HD3 HB3).mono ?_; rintro e w5 ⟨rfl, hae, HD5, HB5⟩)))
      clear QD QT QDD QRD QDS QRS hac had hae c0 c1 c2 c3 c4
      by_cases hkn : k = nh
      · have hkn' : (k : Int) = (nh : Int) := by omega
        obtain ⟨x0, hx0⟩ : ∃ x, l[0]? = some x := ⟨l[0]'(by have := HL.out; omega), List.getElem?_eq_getElem _⟩
        obtain ⟨b2, off2, y2, c2, e2, hcs0, hsrc0, hok0⟩ := HC.out 0 x0 hx0
        injection e2 with e2
        injection e2 with e2 e3
        subst e2 e3
        have hcw0 : ActCellsAt w b off x0 y2 c2 := by
          have := hcs0
          simp only [Nat.zero_mul, Nat.add_zero] at this
          exact this
        have CE0 := Lib.hid (fun (wx : World) (hbx : Below w.heap.size w wx) => hcw0.on hbx)
        have QC := Lib.hid (show Calls Try.prog 18 #[.pointer (some ⟨d, 0, none⟩)] w5 fun e w' => ∃ c, e = .returned (.pointer (some ⟨c, 0, none⟩)) ∧ ActCellsAt w' b off x0 y2 c2 ∧ Hid (Trio w w' c d r Y1 Y1 X1) ∧ Hid (Below w.heap.size w w') from by
          refine (duo_copy d r Y1 X1 w w5 HD5.out HB5.out).mono ?_
          rintro e w' ⟨c, rfl, h1, h2⟩
          exact ⟨c, rfl, CE0.out w' h2, Lib.hid h1, Lib.hid h2⟩)
        obtain ⟨z0, hz0⟩ : ∃ z0, z0 = (doM Y1 x0).2 := ⟨_, rfl⟩
        obtain ⟨Y2, hY2⟩ : ∃ Y2, Y2 = (doM Y1 x0).1 := ⟨_, rfl⟩
        obtain ⟨z2, hz2⟩ : ∃ z2, z2 = (Y2.sync f).2 := ⟨_, rfl⟩
        have QO := Lib.hid (show ∀ w6 c, Hid (Trio w w6 c d r Y1 Y1 X1) → Hid (Below w.heap.size w w6) → Calls Try.prog 12 #[.pointer (some ⟨d, 0, none⟩), .agg #[.int .i64 x0.op, .int .i64 x0.f, .int .i64 x0.n, .string ⟨x0.s.toArray⟩, .slice y2 x0.keep.length c2]] w6 fun e w' => e = .returned (.int .i64 z0) ∧ Hid (Trio w w' c d r Y1 Y2 X1) ∧ Hid (Below w.heap.size w w') from fun w6 c h6 hb6 => by
          refine (trio_do x0 hok0 y2 c2 c d r Y1 Y1 X1 w w6 h6.out hb6.out hsrc0).mono ?_
          rintro e w' ⟨rfl, h1, h2⟩
          exact ⟨by rw [hz0], by rw [hY2]; exact Lib.hid h1, Lib.hid h2⟩)
        have QS := Lib.hid (show ∀ w7 c, Hid (Trio w w7 c d r Y1 Y2 X1) → Hid (Below w.heap.size w w7) → Calls Try.prog 19 #[.pointer (some ⟨d, 0, none⟩), .int .i64 f] w7 fun e w' => e = .returned (.int .i64 z2) ∧ Hid (Duo w w' c r Y1 X1) ∧ Hid (Below w.heap.size w w') from fun w7 c h7 hb7 => by
          refine (trio_sync f hf c d r Y1 Y2 X1 w w7 h7.out hb7.out).mono ?_
          rintro e w' ⟨rfl, h1, h2⟩
          exact ⟨by rw [hz2], Lib.hid h1, Lib.hid h2⟩)
        clear hx0 hcs0 hsrc0 hok0 hcw0 hz0 hY2 hz2
        go_wp2_with (first
          | (go_at_call 18; refine QC.out.mono ?_; rintro e w6 ⟨c, rfl, ⟨e0, e1, e2, e3, e4⟩, HT6, HB6⟩)
          | (go_at_call 12; refine (QO.out _ _ HT6 HB6).mono ?_; rintro e w7 ⟨rfl, HT7, HB7⟩)
          | (go_at_call 19; refine (QS.out _ _ HT7 HB7).mono ?_; rintro e w8 ⟨rfl, HD8, HB8⟩))
        go_roundw
        case rel => exact ⟨k + 1, c, Y1, X1, hkl, by go_num, rfl, HD8, HSI1, HB8.out⟩
        case measure => simp [intOf]; omega
      · have hkn' : ¬ (k : Int) = (nh : Int) := by omega
        go_wp2_with fail
        go_roundw
        case rel => exact ⟨k + 1, d, Y1, X1, hkl, by go_num, rfl, HD5, HSI1, HB5.out⟩
        case measure => simp [intOf]; omega
    · have hkl' : ¬ (k : Int) < (L : Int) := by omega
      have hr1 := HSI.out.read f a n
      obtain ⟨q, z, hqz⟩ : ∃ q z, Y.read f a n = (q, z) := ⟨_, _, rfl⟩
      have QR1 := Lib.hid (show Calls Try.prog 20 #[.pointer (some ⟨d, 0, none⟩), .int .i64 f, .int .i64 a, .int .i64 n] wr fun e w' => e = .returned (.tuple #[.string ⟨q.toArray⟩, .int .i64 z]) ∧ w' = wr from by
        have := duo_read d r Y X f a n hf ha hn w wr HD.out
        rw [hqz] at this
        exact this)
      have QR2 := Lib.hid (show Calls Try.prog 21 #[.pointer (some ⟨r, 0, none⟩), .int .i64 f, .int .i64 a, .int .i64 n] wr fun e w' => e = .returned (.tuple #[.string ⟨q.toArray⟩, .int .i64 z]) ∧ Below wr.heap.size wr w' from by
        have := duo_rread d r Y X f a n hn w wr HD.out HSI.out
        rw [hqz] at this
        exact this)
      have HB := Lib.hid hb
      clear hb hr1 hqz
      go_wp2_with (first | (go_at_call 20; refine QR1.out.mono ?_; rintro e w4 ⟨rfl, h4⟩; rw [h4]; clear h4) | (go_at_call 21; refine QR2.out.mono ?_; rintro e w5 ⟨rfl, hb5⟩))
      go_ret
      exact ⟨rfl, HB.out.trans (hb5.mono HB.out.size)⟩

theorem tells_law (v : Value) (l : List Act) (f a n : Int) (hf : In64 f) (ha : In64 a) (hn : In64 n) (w : World) (h : ActsIn w v l) :
    Calls Try.prog 3 #[v, .int .i64 f, .int .i64 a, .int .i64 n] w fun e w' => e = .returned (.bool true) ∧ Below w.heap.size w w' := by
  cases he : fewM l with
  | false => exact tells_out v l f a n w h he
  | true => exact tells_good v l f a n hf ha hn w (h.few he) he
end Go.Proofs.Ythibikdnoogfoaa
