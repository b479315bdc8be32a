/-
  The reference of layer 3: Right, All, RightRow, Compare, CompareRows, Same: each returns what chapter 3 says; of what was there nothing has turned.
-/
import Derived.Test.YthibikdnoogfoaaGreatDoorVArg
namespace Go.Proofs.YthibikdnoogfoaaGreatDoor
open Go Go.RowKit Go.Sort Wire Txt Vl

set_option maxRecDepth 100000 in
theorem refRight_c (k n : Int) (s : List UInt8) (w : World) : Calls Tryz.prog 17 #[.agg #[.int .i64 k, .int .i64 n, .string ⟨s.toArray⟩]] w fun e w' => e = .returned (.bool (rightV ⟨k, n, s⟩)) ∧ Below w.heap.size w w' := by
  have ha : Below w.heap.size w (w.alloc (.cells #[.int .i64 k, .int .i64 n, .string ⟨s.toArray⟩] 31)) := (Below.refl _ _).alloc (Nat.le_refl _) _
  by_cases h0 : k = 0
  · subst h0
    have HR := Lib.hid (show rightV ⟨0, n, s⟩ = s.isEmpty by cases s <;> simp [rightV])
    go_enter Tryz.func17, Tryz.ntmps17
    go_wp2_with fail
    go_ret
    exact ⟨ret_bool (by rw [HR.out]), ha⟩
  · by_cases h1 : k = 1
    · subst h1
      by_cases hn : n = 0
      · subst hn
        have HR := Lib.hid (show rightV ⟨1, 0, s⟩ = decide (s.length ≤ 200) by simp [rightV])
        go_enter Tryz.func17, Tryz.ntmps17
        go_wp2_with fail
        go_ret
        exact ⟨ret_bool (by rw [HR.out]; first | rfl | (congr 1; apply propext; omega)), ha⟩
      · have HR := Lib.hid (show rightV ⟨1, n, s⟩ = false by simp [rightV, hn])
        have hq : (n == 0) = false := by simpa using hn
        go_enter Tryz.func17, Tryz.ntmps17
        go_wp2_with fail
        go_ret
        exact ⟨ret_bool (by rw [HR.out]), ha⟩
    · by_cases h2 : k = 2
      · subst h2
        by_cases hn : n = 0
        · subst hn
          have HR := Lib.hid (show rightV ⟨2, 0, s⟩ = s.isEmpty by cases s <;> simp [rightV])
          go_enter Tryz.func17, Tryz.ntmps17
          go_wp2_with fail
          go_ret
          exact ⟨ret_bool (by rw [HR.out]), ha⟩
        · have hq : (n == 0) = false := by simpa using hn
          by_cases hm : n = 1
          · subst hm
            have HR := Lib.hid (show rightV ⟨2, 1, s⟩ = s.isEmpty by cases s <;> simp [rightV])
            go_enter Tryz.func17, Tryz.ntmps17
            go_wp2_with fail
            go_ret
            exact ⟨ret_bool (by rw [HR.out]), ha⟩
          · have hq2 : (n == 1) = false := by simpa using hm
            have HR := Lib.hid (show rightV ⟨2, n, s⟩ = false by simp [rightV, hn, hm])
            go_enter Tryz.func17, Tryz.ntmps17
            go_wp2_with fail
            go_ret
            exact ⟨ret_bool (by rw [HR.out]), ha⟩
      · have HR := Lib.hid (show rightV ⟨k, n, s⟩ = false by simp [rightV, h0, h1, h2])
        have hq : (k == 2) = false := by simpa using h2
        go_enter Tryz.func17, Tryz.ntmps17
        go_wp2_with fail
        go_ret
        exact ⟨ret_bool (by rw [HR.out]), ha⟩
set_option maxHeartbeats 1000000 in
set_option maxRecDepth 100000 in
theorem refAll_c (l : List V) (x : Value) (w : World) (hx : RowV w x l) :
    Calls Tryz.prog 37 #[x] w fun e w' => e = .returned (.bool (l.all rightV)) ∧ Below w.heap.size w w' := by
  obtain ⟨la, ax, ca, rfl, hca⟩ := hx
  have HA := Lib.hid hca
  clear hca
  go_enter Tryz.func37, Tryz.ntmps37
  go_wp2_with fail
  go_loopw [3] (fun i wr => ∃ k : Nat, k ≤ l.length ∧ (l.take k).all rightV = true ∧ i = .int .i64 k ∧ Below w.heap.size w wr) (fun i _ => l.length - (intOf i).toNat)
  case atStart => exact ⟨0, Nat.zero_le _, rfl, rfl, Below.refl _ _⟩
  case round =>
    obtain ⟨k, hk, ht, rfl, hbk⟩ := hrel
    have HT := Lib.hid ht
    clear ht
    by_cases hlt : k < l.length
    · obtain ⟨u, hu⟩ : ∃ u, l[k]? = some u := ⟨l[k], List.getElem?_eq_getElem hlt⟩
      obtain ⟨bx, ox, rfl, hc⟩ := HA.out (ne_of_lt hlt)
      obtain ⟨u0, u1, u2⟩ := (hc k u hu).on hbk (Nat.le_refl _)
      have HU := Lib.hid hu
      clear hu hc
      cases hr : rightV u with
      | true =>
        go_wp2_with fail
        refine (refRight_c _ _ _ _).mono ?_
        rw [show (⟨u.k, u.n, u.s⟩ : V) = u from rfl, hr]
        rintro e w2 ⟨rfl, hb2⟩
        go_wp2_with fail
        go_roundw
        case rel => exact ⟨k + 1, by omega, all_take_next HT.out HU.out hr, by go_num, hbk.trans (hb2.mono hbk.size)⟩
        case measure => simp [intOf]; omega
      | false =>
        have HN := Lib.hid (all_no HU.out hr)
        go_wp2_with fail
        refine (refRight_c _ _ _ _).mono ?_
        rw [show (⟨u.k, u.n, u.s⟩ : V) = u from rfl, hr]
        rintro e w2 ⟨rfl, hb2⟩
        go_wp2_with fail
        go_ret
        exact ⟨ret_bool HN.out.symm, hbk.trans (hb2.mono hbk.size)⟩
    · have HN := Lib.hid (show l.all rightV = true by have := HT.out; rw [List.take_of_length_le (by omega)] at this; exact this)
      go_wp2_with fail
      go_ret
      exact ⟨ret_bool HN.out.symm, hbk⟩
theorem refRightRow_c (l : List V) (x : Value) (w : World) (hx : RowV w x l) :
    Calls Tryz.prog 7 #[x] w fun e w' => e = .returned (.bool (rightR l)) ∧ Below w.heap.size w w' := by
  have HC := Lib.hid (refAll_c l x w hx)
  obtain ⟨la, ax, ca, rfl, _⟩ := hx
  by_cases h12 : l.length ≤ 12
  · have HR := Lib.hid (show rightR l = l.all rightV by unfold rightR; simp [h12])
    go_enter Tryz.func7, Tryz.ntmps7
    go_wp2_with fail
    refine HC.out.mono ?_
    rintro e w1 ⟨rfl, hb⟩
    go_wp2_with fail
    go_ret
    exact ⟨ret_bool (by rw [HR.out]), hb⟩
  · have HR := Lib.hid (show rightR l = false by unfold rightR; simp [h12])
    go_enter Tryz.func7, Tryz.ntmps7
    go_wp2_with fail
    go_ret
    exact ⟨ret_bool (by rw [HR.out]), Below.refl _ _⟩

theorem cmp_lt {a b : Int} (h : a < b) : Lib.compareInt a b = -1 := by unfold Lib.compareInt; rw [if_pos h]
theorem cmp_gt {a b : Int} (h : b < a) : Lib.compareInt a b = 1 := by unfold Lib.compareInt; rw [if_neg (by omega), if_pos h]
theorem bytes_gt (a b : List UInt8) : Go.Op.bytesLess b a = decide (0 < Lib.compareBytes a b) := by
  rw [bytes_less, tot_bytes.anti a b]
  congr 1
  apply propext
  omega
theorem gtr_str (s t : List UInt8) (wx : World) : (binOp .gtr 9 (.string ⟨s.toArray⟩) (.string ⟨t.toArray⟩)).run Tryz.prog wx = .ok (.bool (!(Go.Op.bytesLess s t || s == t))) wx := by
  have e : binOp .gtr 9 (.string ⟨s.toArray⟩) (.string ⟨t.toArray⟩) = pure (.bool (!(Go.Op.bytesLess (⟨s.toArray⟩ : ByteArray).toList (⟨t.toArray⟩ : ByteArray).toList || (⟨s.toArray⟩ : ByteArray).toList == (⟨t.toArray⟩ : ByteArray).toList))) := by simp [binOp, Op.stringOp]
  rw [e, ByteArray.toList_eq, ByteArray.toList_eq]
  simp
set_option maxRecDepth 100000 in
theorem refCompare_c (a b : V) (w : World) : Calls Tryz.prog 23 #[.agg #[.int .i64 a.k, .int .i64 a.n, .string ⟨a.s.toArray⟩], .agg #[.int .i64 b.k, .int .i64 b.n, .string ⟨b.s.toArray⟩]] w fun e w' => e = .returned (.int .i64 (cmpV a b)) ∧ Below w.heap.size w w' := by
  obtain ⟨k, n, s⟩ := a
  obtain ⟨k', n', s'⟩ := b
  simp only
  by_cases hk : k = k'
  · subst hk
    by_cases hn : n = n'
    · subst hn
      have HV := Lib.hid (cmpV_s (a := ⟨k, n, s⟩) (b := ⟨k, n, s'⟩) rfl rfl)
      rcases tot_bytes.lo s s' with h | h | h
      · have h1 : Go.Op.bytesLess s s' = true := by rw [bytes_less, h]; rfl
        have HC := Lib.hid h
        clear h
        go_enter Tryz.func23, Tryz.ntmps23
        go_wp2_with fail
        go_ret
        exact ⟨ret_int (by rw [HV.out]; exact HC.out.symm), by go_grown⟩
      · have h1 : Go.Op.bytesLess s s' = false := by rw [bytes_less, h]; rfl
        have h2 : Go.Op.bytesLess s' s = false := by rw [bytes_gt, h]; rfl
        have h3 : s = s' := (tot_bytes.eq s s').1 h
        have h4 : (s == s') = true := by rw [h3]; simp
        have hgt := gtr_str s s'
        have HC := Lib.hid h
        clear h h3
        go_enter Tryz.func23, Tryz.ntmps23
        go_wp2_with fail
        go_ret
        exact ⟨ret_int (by rw [HV.out]; exact HC.out.symm), by go_grown⟩
      · have h1 : Go.Op.bytesLess s s' = false := by rw [bytes_less, h]; rfl
        have h2 : Go.Op.bytesLess s' s = true := by rw [bytes_gt, h]; rfl
        have h3 : s ≠ s' := fun e => by rw [(tot_bytes.eq s s').2 e] at h; cases h
        have h4 : (s == s') = false := by simpa using h3
        have hgt := gtr_str s s'
        have HC := Lib.hid h
        clear h h3
        go_enter Tryz.func23, Tryz.ntmps23
        go_wp2_with fail
        go_ret
        exact ⟨ret_int (by rw [HV.out]; exact HC.out.symm), by go_grown⟩
    · have HV := Lib.hid (cmpV_n (a := ⟨k, n, s⟩) (b := ⟨k, n', s'⟩) rfl hn)
      by_cases hl : n < n'
      · have HC := Lib.hid (cmp_lt hl)
        go_enter Tryz.func23, Tryz.ntmps23
        go_wp2_with fail
        go_ret
        exact ⟨ret_int (by rw [HV.out]; exact HC.out.symm), by go_grown⟩
      · have hg : n' < n := by omega
        have HC := Lib.hid (cmp_gt hg)
        go_enter Tryz.func23, Tryz.ntmps23
        go_wp2_with fail
        go_ret
        exact ⟨ret_int (by rw [HV.out]; exact HC.out.symm), by go_grown⟩
  · have HV := Lib.hid (cmpV_k (a := ⟨k, n, s⟩) (b := ⟨k', n', s'⟩) hk)
    by_cases hl : k < k'
    · have HC := Lib.hid (cmp_lt hl)
      go_enter Tryz.func23, Tryz.ntmps23
      go_wp2_with fail
      go_ret
      exact ⟨ret_int (by rw [HV.out]; exact HC.out.symm), by go_grown⟩
    · have hg : k' < k := by omega
      have HC := Lib.hid (cmp_gt hg)
      go_enter Tryz.func23, Tryz.ntmps23
      go_wp2_with fail
      go_ret
      exact ⟨ret_int (by rw [HV.out]; exact HC.out.symm), by go_grown⟩
set_option maxHeartbeats 1000000 in
set_option maxRecDepth 100000 in
theorem refCompareRows_c (a b : List V) (x y : Value) (w : World) (ha : RowV w x a) (hb : RowV w y b) :
    Calls Tryz.prog 9 #[x, y] w fun e w' => e = .returned (.int .i64 (cmpR a b)) ∧ Below w.heap.size w w' := by
  obtain ⟨la, ax, ca, rfl, hca⟩ := ha
  obtain ⟨lb, ay, cb, rfl, hcb⟩ := hb
  have HA := Lib.hid hca
  have HB := Lib.hid hcb
  clear hca hcb
  go_enter Tryz.func9, Tryz.ntmps9
  go_wp2_with fail
  go_loopw [5] (fun i wr => ∃ k : Nat, k ≤ a.length ∧ k ≤ b.length ∧ Hid (a.take k = b.take k) ∧ i = .int .i64 k ∧ Below w.heap.size w wr) (fun i _ => a.length - (intOf i).toNat)
  case atStart => exact ⟨0, Nat.zero_le _, Nat.zero_le _, Lib.hid rfl, rfl, Below.refl _ _⟩
  case round =>
    obtain ⟨k, hk, hkb, HT, rfl, hbk⟩ := hrel
    by_cases hlt : k < a.length
    · by_cases hlb : k < b.length
      · obtain ⟨u, hu⟩ : ∃ u, a[k]? = some u := ⟨a[k], List.getElem?_eq_getElem hlt⟩
        obtain ⟨bx, ox, rfl, hc⟩ := HA.out (ne_of_lt hlt)
        have hcu := (hc k u hu).on hbk (Nat.le_refl _)
        obtain ⟨v, hv⟩ : ∃ v, b[k]? = some v := ⟨b[k], List.getElem?_eq_getElem hlb⟩
        obtain ⟨byy, oy, rfl, hd⟩ := HB.out (ne_of_lt hlb)
        have hcv := (hd k v hv).on hbk (Nat.le_refl _)
        have HU := Lib.hid hu
        have HV := Lib.hid hv
        obtain ⟨o, ho⟩ : ∃ o, cmpV u v = o := ⟨_, rfl⟩
        have HO := Lib.hid ho
        have k0 := cell_regrown hcu.1
        have k1 := cell_regrown hcu.2.1
        have k2 := cell_regrown hcu.2.2
        have k3 := cell_regrown hcv.1
        have k4 := cell_regrown hcv.2.1
        have k5 := cell_regrown hcv.2.2
        have q1 : ∀ d os, Calls Tryz.prog 23 #[.agg #[.int .i64 u.k, .int .i64 u.n, .string ⟨u.s.toArray⟩], .agg #[.int .i64 v.k, .int .i64 v.n, .string ⟨v.s.toArray⟩]] (grow (redrawn wr d) os) fun e w'' => e = .returned (.int .i64 o) ∧ ∃ p : Regrown, w'' = grow (redrawn wr p.d) p.os := fun d os => Calls.regrown_of (by rw [← HO.out]; exact refCompare_c u v _)
        have Q1 := Lib.hid q1
        clear q1 hu hv ho hc hd
        go_wp2_with fail
        refine wp_region_quiet_below (by kernel_rfl) (by kernel_rfl) ?_
        repeat (quiet_step (with_reducible exact Q1.out _ _))
        refine wpQuiet_nil ?_
        intro _ hw'
        obtain ⟨⟨dq, osq⟩, hw''⟩ := hw'
        subst hw''
        have hbe := chain hbk (below_regrown wr dq osq)
        generalize grow (redrawn wr dq) osq = we at hbe ⊢
        clear k0 k1 k2 k3 k4 k5 Q1 hcu hcv hbk
        by_cases hz : o = 0
        · have hq : (o != 0) = false := by rw [hz]; rfl
          go_wp2_with fail
          go_roundw
          case rel => exact ⟨k + 1, by omega, by omega, Lib.hid (take_next HT.out HU.out HV.out (HO.out.trans hz)), by go_num, hbe⟩
          case measure => simp [intOf]; omega
        · have hq : (o != 0) = true := by simpa using hz
          have HR := Lib.hid (cmpR_diff HT.out HU.out HV.out (by rw [HO.out]; exact hz))
          go_wp2_with fail
          go_ret
          exact ⟨ret_int (by rw [HR.out, HO.out]), hbe⟩
      · have HR := Lib.hid (cmpR_long HT.out hlt (by omega))
        have h1 : ¬ a.length < b.length := by omega
        have h2 : b.length < a.length := by omega
        go_wp2_with fail
        go_ret
        exact ⟨ret_int (by rw [HR.out]), hbk⟩
    · by_cases hab : a.length < b.length
      · have HR := Lib.hid (cmpR_less HT.out (by omega) hab)
        go_wp2_with fail
        go_ret
        exact ⟨ret_int (by rw [HR.out]), hbk⟩
      · have HR := Lib.hid (cmpR_same HT.out (by omega) hab hkb)
        have h2 : ¬ b.length < a.length := by omega
        go_wp2_with fail
        go_ret
        exact ⟨ret_int (by rw [HR.out]), hbk⟩
theorem refSame_c (a b : List V) (x y : Value) (w : World) (ha : RowV w x a) (hb : RowV w y b) :
    Calls Tryz.prog 11 #[x, y] w fun e w' => e = .returned (.bool (decide (a = b))) ∧ Below w.heap.size w w' := by
  have HC := Lib.hid (refCompareRows_c a b x y w ha hb)
  have HE := Lib.hid (show (cmpR a b == 0) = decide (a = b) by rw [Bool.eq_iff_iff, beq_iff_eq, decide_eq_true_eq]; exact tot_r.eq a b)
  obtain ⟨la, ax, ca, rfl, _⟩ := ha
  obtain ⟨lb, ay, cb, rfl, _⟩ := hb
  go_enter Tryz.func11, Tryz.ntmps11
  go_wp2_with fail
  refine HC.out.mono ?_
  rintro e w1 ⟨rfl, hb⟩
  go_wp2_with fail
  go_ret
  exact ⟨ret_bool HE.out, hb⟩
end Go.Proofs.YthibikdnoogfoaaGreatDoor
