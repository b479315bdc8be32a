/-
  The reference of layer 3: Bytes, RowBytes, Show, ShowRow: each returns what chapter 3 says; of what was there nothing has turned.
-/
import Derived.Test.YthibikdnoogfoaaGreatDoorVRef
import Derived.Test.YthibikdnoogfoaaGreatDoorRefEnc
import Derived.Test.YthibikdnoogfoaaGreatDoorTRefC
namespace Go.Proofs.YthibikdnoogfoaaGreatDoor
open Go Go.RowKit Go.Sort Wire Txt Vl

set_option maxRecDepth 100000 in
theorem refBytes_c (v : V) (w : World) (hf : Fits v) (hs : v.s.length ≤ 1000000000000) : Calls Tryz.prog 19 #[.agg #[.int .i64 v.k, .int .i64 v.n, .string ⟨v.s.toArray⟩]] w fun e w' => e = .returned (.string ⟨(vbytes v).toArray⟩) ∧ Below w.heap.size w w' := by
  have l1 := itoa_len v.k hf.1
  have l2 := itoa_len v.n hf.2.1
  have l3 := itoa_len v.s.length hf.2.2
  have e1 : (eInt v.k).length ≤ 21 := by unfold eInt; simp; omega
  have e2 : (eInt v.n).length ≤ 21 := by unfold eInt; simp; omega
  have e3 : (eText v.s).length ≤ 1000000000064 := by unfold eText; simp; omega
  have o1 : ¬ 9223372036854775807 < (eInt v.k).length + (eInt v.n).length := by omega
  have o2 : ¬ 9223372036854775807 < (eInt v.k).length + (eInt v.n).length + (eText v.s).length := by omega
  clear l1 l2 l3
  obtain ⟨w1, hw, p0, p1, p2, hb⟩ := box_out w v
  have k0 := cell_regrown p0
  have k1 := cell_regrown p1
  have k2 := cell_regrown p2
  have q1 : ∀ d os, Calls Tryz.prog 47 #[.int .i64 v.k] (grow (redrawn w1 d) os) fun e w'' => e = .returned (.string ⟨(eInt v.k).toArray⟩) ∧ ∃ p : Regrown, w'' = grow (redrawn w1 p.d) p.os := fun d os => Calls.regrown_of (cInt_c v.k hf.1 _)
  have q2 : ∀ d os, Calls Tryz.prog 47 #[.int .i64 v.n] (grow (redrawn w1 d) os) fun e w'' => e = .returned (.string ⟨(eInt v.n).toArray⟩) ∧ ∃ p : Regrown, w'' = grow (redrawn w1 p.d) p.os := fun d os => Calls.regrown_of (cInt_c v.n hf.2.1 _)
  have q3 : ∀ d os, Calls Tryz.prog 48 #[.string ⟨v.s.toArray⟩] (grow (redrawn w1 d) os) fun e w'' => e = .returned (.string ⟨(eText v.s).toArray⟩) ∧ ∃ p : Regrown, w'' = grow (redrawn w1 p.d) p.os := fun d os => Calls.regrown_of (cText_c v.s hs _)
  have Q1 := Lib.hid q1
  have Q2 := Lib.hid q2
  have Q3 := Lib.hid q3
  clear q1 q2 q3
  go_enter Tryz.func19, Tryz.ntmps19
  go_wp2_with fail
  clear p0 p1 p2
  refine wp_region_quiet_below (by kernel_rfl) (by kernel_rfl) ?_
  repeat (quiet_step (first | (with_reducible exact Q1.out _ _) | (with_reducible exact Q2.out _ _) | (with_reducible exact Q3.out _ _)))
  refine wpQuiet_nil ?_
  intro _ hw'
  obtain ⟨⟨dq, osq⟩, hw''⟩ := hw'
  subst hw''
  go_wp2_with fail
  go_ret
  exact ⟨ret_str (by rw [str_add, str_add]; rfl), chain hb (below_regrown w1 dq osq)⟩
set_option maxHeartbeats 1000000 in
set_option maxRecDepth 100000 in
theorem refRowBytes_c (l : List V) (x : Value) (w : World) (hf : ∀ v ∈ l, Fits v ∧ v.s.length ≤ 1000000) (hn : l.length ≤ 1000) (hx : RowV w x l) :
    Calls Tryz.prog 13 #[x] w fun e w' => e = .returned (.string ⟨(rbytes l).toArray⟩) ∧ Below w.heap.size w w' := by
  obtain ⟨la, ax, ca, rfl, hca⟩ := hx
  have hlin : InR (l.length : Int) := by unfold InR; omega
  have hfl := flatMap_bound vbytes 1000064 l (fun v hv => by
    have h1 := vbytes_len v (hf v hv).1
    have h2 := (hf v hv).2
    omega)
  have hil := itoa_len l.length hlin
  have hin : (eNum l.length).length ≤ 21 := by unfold eNum eInt; split <;> simp <;> omega
  have HE := Lib.hid (rbytes_eq l)
  have HC := Lib.hid hca
  have HF := Lib.hid hf
  clear hca hil hf
  go_enter Tryz.func13, Tryz.ntmps13
  go_wp2_with fail
  refine (cNum_c l.length hlin _).mono ?_
  rintro e w1 ⟨rfl, hb1⟩
  go_wp2_with fail
  go_loopw [3, 4] (fun s3 i wr => ∃ (k : Nat) (S : List UInt8), k ≤ l.length ∧ i = .int .i64 k ∧ s3 = .string ⟨S.toArray⟩ ∧ Hid (S = eNum l.length ++ (l.take k).flatMap vbytes) ∧ S.length ≤ 2000000000 ∧ Below w.heap.size w wr) (fun _ i _ => l.length - (intOf i).toNat)
  case atStart => exact ⟨0, _, Nat.zero_le _, rfl, rfl, Lib.hid (by simp), by omega, hb1⟩
  case round =>
    obtain ⟨k, S, hk, rfl, rfl, HS, hsl, hbk⟩ := hrel
    clear hb1
    by_cases hlt : k < l.length
    · obtain ⟨u, hu⟩ : ∃ u, l[k]? = some u := ⟨l[k], List.getElem?_eq_getElem hlt⟩
      obtain ⟨bx, ox, rfl, hc⟩ := HC.out (ne_of_lt hlt)
      obtain ⟨u0, u1, u2⟩ := (hc k u hu).on hbk (Nat.le_refl _)
      obtain ⟨huf, hul⟩ := HF.out u (List.mem_of_getElem? hu)
      have hle := flatMap_take_le vbytes l (k + 1)
      have HT := Lib.hid (flatMap_take_succ vbytes l k u hu)
      have hvl := vbytes_len u huf
      have hnew : (S ++ vbytes u).length ≤ 2000000000 := by
        rw [HS.out, List.append_assoc, ← HT.out, List.length_append]
        omega
      rw [List.length_append] at hnew
      clear hu hc hle
      go_wp2_with fail
      refine (refBytes_c u _ huf (by omega)).mono ?_
      rintro e w4 ⟨rfl, hb4⟩
      go_wp2_with fail
      rw [str_add]
      go_roundw
      case rel => exact ⟨k + 1, S ++ vbytes u, by omega, by go_num, rfl, Lib.hid (by rw [HT.out, HS.out, List.append_assoc]), by rw [List.length_append]; exact hnew, chain hbk hb4⟩
      case measure => simp [intOf]; omega
    · have HZ := Lib.hid (show S = rbytes l by rw [HS.out, List.take_of_length_le (by omega), HE.out])
      go_wp2_with fail
      go_ret
      exact ⟨ret_str (by rw [HZ.out]), hbk⟩

theorem refShow_wrong (v : V) (hr : rightV v = false) (w : World) : Calls Tryz.prog 21 #[.agg #[.int .i64 v.k, .int .i64 v.n, .string ⟨v.s.toArray⟩]] w fun e w' => e = .returned (.string ⟨#[]⟩) ∧ Below w.heap.size w w' := by
  obtain ⟨w1, e1, p0, p1, p2, hb⟩ := box_out w v
  go_enter Tryz.func21, Tryz.ntmps21
  go_wp2_with fail
  refine (refRight_c _ _ _ _).mono ?_
  rw [show (⟨v.k, v.n, v.s⟩ : V) = v from rfl, hr]
  rintro e w2 ⟨rfl, hb2⟩
  go_wp2_with fail
  go_ret
  exact ⟨rfl, chain hb hb2⟩
theorem refShow_int (n : Int) (hn : InR n) (w : World) : Calls Tryz.prog 21 #[.agg #[.int .i64 0, .int .i64 n, .string ⟨#[]⟩]] w fun e w' => e = .returned (.string ⟨(Lib.itoa n).toArray⟩) ∧ Below w.heap.size w w' := by
  obtain ⟨w1, e1, p0, p1, p2, hb⟩ := box_out w ⟨0, n, []⟩
  simp only at e1 p0 p1 p2
  go_enter Tryz.func21, Tryz.ntmps21
  go_wp2_with fail
  refine (refRight_c 0 n [] _).mono ?_
  rw [show rightV ⟨0, n, []⟩ = true by simp [rightV]]
  rintro e w2 ⟨rfl, hb2⟩
  have y0 := keep_cell hb2 p0
  have y1 := keep_cell hb2 p1
  go_wp2_with fail
  refine (decimalR_c n hn _).mono ?_
  rintro e w3 ⟨rfl, hb3⟩
  go_wp2_with fail
  go_ret
  exact ⟨rfl, chain hb (chain hb2 hb3)⟩
theorem refShow_text (s : List UInt8) (hs : s.length ≤ 200) (w : World) : Calls Tryz.prog 21 #[.agg #[.int .i64 1, .int .i64 0, .string ⟨s.toArray⟩]] w fun e w' => e = .returned (.string ⟨(quote s).toArray⟩) ∧ Below w.heap.size w w' := by
  obtain ⟨w1, e1, p0, p1, p2, hb⟩ := box_out w ⟨1, 0, s⟩
  simp only at e1 p0 p1 p2
  go_enter Tryz.func21, Tryz.ntmps21
  go_wp2_with fail
  refine (refRight_c 1 0 s _).mono ?_
  rw [show rightV ⟨1, 0, s⟩ = true by simp [rightV, hs]]
  rintro e w2 ⟨rfl, hb2⟩
  have y0 := keep_cell hb2 p0
  have y2 := keep_cell hb2 p2
  go_wp2_with fail
  refine (quoteR_c s (by omega) _).mono ?_
  rintro e w3 ⟨rfl, hb3⟩
  go_wp2_with fail
  go_ret
  exact ⟨rfl, chain hb (chain hb2 hb3)⟩
theorem refShow_bool (n : Int) (h : n = 0 ∨ n = 1) (w : World) : Calls Tryz.prog 21 #[.agg #[.int .i64 2, .int .i64 n, .string ⟨#[]⟩]] w fun e w' => e = .returned (.string ⟨(if n = 1 then tTrue else tFalse).toArray⟩) ∧ Below w.heap.size w w' := by
  rcases h with rfl | rfl
  · obtain ⟨w1, e1, p0, p1, p2, hb⟩ := box_out w ⟨2, 0, []⟩
    simp only at e1 p0 p1 p2
    go_enter Tryz.func21, Tryz.ntmps21
    go_wp2_with fail
    refine (refRight_c 2 0 [] _).mono ?_
    rw [show rightV ⟨2, 0, []⟩ = true by simp [rightV]]
    rintro e w2 ⟨rfl, hb2⟩
    have y0 := keep_cell hb2 p0
    have y1 := keep_cell hb2 p1
    go_wp2_with fail
    go_ret
    exact ⟨rfl, chain hb hb2⟩
  · obtain ⟨w1, e1, p0, p1, p2, hb⟩ := box_out w ⟨2, 1, []⟩
    simp only at e1 p0 p1 p2
    go_enter Tryz.func21, Tryz.ntmps21
    go_wp2_with fail
    refine (refRight_c 2 1 [] _).mono ?_
    rw [show rightV ⟨2, 1, []⟩ = true by simp [rightV]]
    rintro e w2 ⟨rfl, hb2⟩
    have y0 := keep_cell hb2 p0
    have y1 := keep_cell hb2 p1
    go_wp2_with fail
    go_ret
    exact ⟨rfl, chain hb hb2⟩
theorem refShow_c (v : V) (hn : InR v.n) (w : World) : Calls Tryz.prog 21 #[.agg #[.int .i64 v.k, .int .i64 v.n, .string ⟨v.s.toArray⟩]] w fun e w' => e = .returned (.string ⟨(showV v).toArray⟩) ∧ Below w.heap.size w w' := by
  cases hr : rightV v with
  | false => exact (refShow_wrong v hr w).mono fun e w' ⟨he, hb⟩ => ⟨by rw [he, showV_wrong hr], hb⟩
  | true =>
    obtain ⟨k, n, s⟩ := v
    have e : showV ⟨k, n, s⟩ = if k = 0 then Lib.itoa n else if k = 1 then quote s else if n = 1 then tTrue else tFalse := by unfold showV; rw [if_pos hr]
    rcases (rightV_iff _).1 hr with ⟨h1, h2⟩ | ⟨h1, h2, h3⟩ | ⟨h1, h2, h3⟩
    · simp only at h1 h2
      subst h1 h2
      exact (refShow_int n hn w).mono fun e' w' ⟨he, hb⟩ => ⟨by rw [he, e]; rfl, hb⟩
    · simp only at h1 h2 h3
      subst h1 h2
      exact (refShow_text s h3 w).mono fun e' w' ⟨he, hb⟩ => ⟨by rw [he, e]; rfl, hb⟩
    · simp only at h1 h2 h3
      subst h1 h2
      exact (refShow_bool n h3 w).mono fun e' w' ⟨he, hb⟩ => ⟨by rw [he, e]; rfl, hb⟩
set_option maxHeartbeats 1000000 in
set_option maxRecDepth 100000 in
theorem refShowRow_c (l : List V) (x : Value) (w : World) (hf : ∀ v ∈ l, InR v.n) (hn : l.length ≤ 1000) (hx : RowV w x l) :
    Calls Tryz.prog 15 #[x] w fun e w' => e = .returned (.string ⟨(showR l).toArray⟩) ∧ Below w.heap.size w w' := by
  have HA := Lib.hid (refAll_c l x w hx)
  obtain ⟨la, ax, ca, rfl, hca⟩ := hx
  have HC := Lib.hid hca
  have HF := Lib.hid hf
  clear hca hf
  cases hall : l.all rightV with
  | false =>
    have HN := Lib.hid (show showR l = [] by unfold showR; rw [if_neg (by simp [hall])])
    go_enter Tryz.func15, Tryz.ntmps15
    go_wp2_with fail
    refine HA.out.mono ?_
    rw [hall]
    rintro e w1 ⟨rfl, hb1⟩
    go_wp2_with fail
    go_ret
    exact ⟨ret_str (by rw [HN.out]), hb1⟩
  | true =>
    have HN := Lib.hid (show showR l = 40 :: (body l ++ [41]) from showR_all (fun v hv => List.all_eq_true.1 hall v hv))
    have hbl : ∀ k, (body (l.take k)).length ≤ 804000 := fun k => by
      have h1 := body_len (l.take k) (fun v hv => HF.out v (List.mem_of_mem_take hv))
      have h2 : (l.take k).length ≤ 1000 := by rw [List.length_take]; omega
      omega
    have HB := Lib.hid hbl
    clear hbl
    go_enter Tryz.func15, Tryz.ntmps15
    go_wp2_with fail
    refine HA.out.mono ?_
    rw [hall]
    rintro e w1 ⟨rfl, hb1⟩
    clear hall
    go_wp2_with fail
    go_loopw [3, 4] (fun s3 i wr => ∃ (k : Nat) (S : List UInt8), k ≤ l.length ∧ i = .int .i64 k ∧ s3 = .string ⟨S.toArray⟩ ∧ Hid (S = 40 :: body (l.take k)) ∧ S.length ≤ 804001 ∧ Below w.heap.size w wr) (fun _ i _ => l.length - (intOf i).toNat)
    case atStart => exact ⟨0, [40], Nat.zero_le _, rfl, rfl, Lib.hid (by simp [body_nil]), by simp, hb1⟩
    case round =>
      obtain ⟨k, S, hk, rfl, rfl, HS, hsl, hbk⟩ := hrel
      clear hb1
      by_cases hlt : k < l.length
      · obtain ⟨u, hu⟩ : ∃ u, l[k]? = some u := ⟨l[k], List.getElem?_eq_getElem hlt⟩
        obtain ⟨bx, ox, rfl, hc⟩ := HC.out (ne_of_lt hlt)
        obtain ⟨u0, u1, u2⟩ := (hc k u hu).on hbk (Nat.le_refl _)
        have hun := HF.out u (List.mem_of_getElem? hu)
        have hshl := showV_len u hun
        have HT := Lib.hid (show body (l.take (k + 1)) = body (l.take k) ++ ((if l.take k = [] then [] else sep) ++ showV u) by rw [List.take_add_one, hu]; exact body_snoc _ _)
        clear hu hc
        by_cases hk0 : k = 0
        · subst hk0
          have HT0 := Lib.hid (show 40 :: body (l.take 1) = S ++ showV u by
            have := HT.out
            rw [Nat.zero_add] at this
            rw [this, HS.out]
            simp [body_nil])
          simp only [Nat.zero_mul, Nat.add_zero] at u0 u1 u2
          go_wp2_with fail
          refine (refShow_c u hun _).mono ?_
          rintro e w4 ⟨rfl, hb4⟩
          go_wp2_with fail
          rw [str_add]
          go_roundw
          case rel => exact ⟨0 + 1, S ++ showV u, by omega, by go_num, rfl, Lib.hid HT0.out.symm, by rw [← HT0.out]; have := HB.out 1; show (body (l.take 1)).length + 1 ≤ 804001; omega, chain hbk hb4⟩
          case measure => simp [intOf]; omega
        · have HT0 := Lib.hid (show 40 :: body (l.take (k + 1)) = S ++ [44, 32] ++ showV u by
            have hne : l.take k ≠ [] := by
              intro h
              have h1 : (l.take k).length = 0 := by rw [h]; rfl
              rw [List.length_take] at h1
              omega
            rw [HT.out, if_neg hne, HS.out]
            simp [sep])
          have hpos : 0 < k := by omega
          go_wp2_with fail
          refine (refShow_c u hun _).mono ?_
          rintro e w4 ⟨rfl, hb4⟩
          go_wp2_with fail
          rw [str_add, str_add]
          go_roundw
          case rel => exact ⟨k + 1, S ++ [44, 32] ++ showV u, by omega, by go_num, rfl, Lib.hid HT0.out.symm, by rw [← HT0.out]; have := HB.out (k + 1); show (body (l.take (k + 1))).length + 1 ≤ 804001; omega, chain hbk hb4⟩
          case measure => simp [intOf]; omega
      · have HZ := Lib.hid (show S = 40 :: body l by rw [HS.out, List.take_of_length_le (by omega)])
        go_wp2_with fail
        go_ret
        exact ⟨ret_str (by rw [HN.out, str_add, HZ.out]; simp), hbk⟩
end Go.Proofs.YthibikdnoogfoaaGreatDoor
