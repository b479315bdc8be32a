/-
  RowBytes, Show and ShowRow of package value: each returns what chapter 3 says, for values whose parts are ints of Go; of what was there nothing has turned.
-/
import Derived.Test.YthibikdnoogfoaaGreatDoorVRow
import Derived.Test.YthibikdnoogfoaaGreatDoorTQuote
import Derived.Deep.OwnRows
namespace Go.Proofs.YthibikdnoogfoaaGreatDoor
open Go Go.RowKit Go.Sort Wire Txt Vl

theorem rbytes_eq (l : List V) : rbytes l = eNum l.length ++ l.flatMap vbytes := by
  unfold rbytes eNum
  rw [if_neg (by omega)]
set_option maxHeartbeats 1000000 in
set_option maxRecDepth 100000 in
theorem rowBytes_c (l : List V) (x : Value) (w : World) (hg : Good w) (hf : ∀ v ∈ l, Fits v ∧ v.s.length ≤ 1000000) (hn : l.length ≤ 1000) (hx : RowV w x l) :
    Calls Tryz.prog 12 #[x] w fun e w' => e = .returned (.string ⟨(rbytes l).toArray⟩) ∧ Below w.heap.size w w' := by
  obtain ⟨la, ax, ca, rfl, hca⟩ := hx
  have hlin : InR (l.length : Int) := by unfold InR; omega
  have hfl := flatMap_bound vbytes 1000064 l (fun v hv => by
    have h1 := vbytes_len v (hf v hv).1
    have h2 := (hf v hv).2
    omega)
  have hil := itoa_len l.length hlin
  have hin : (eNum l.length).length ≤ 21 := by unfold eNum eInt; split <;> simp <;> omega
  have HE := Lib.hid (rbytes_eq l)
  have hst := Lib.fresh_isBuilder 47 5 w
  have hgA : Good (w.alloc (.cells #[.pointer none, .slice none 0 0] 47)) := hg.on ((Below.refl _ _).alloc (Nat.le_refl _) _)
  have hbA : Built w.heap.size w.heap.size [] w (w.alloc (.cells #[.pointer none, .slice none 0 0] 47)) := ⟨hst, (Below.refl _ _).alloc (Nat.le_refl _) _⟩
  have HC := Lib.hid hca
  have HF := Lib.hid hf
  clear hst hca hil hf
  go_enter Tryz.func12, Tryz.ntmps12
  go_wp2_with fail
  refine (wNum_c l.length hlin _ hgA).mono ?_
  rintro e w1 ⟨rfl, hb1⟩
  have hB1 : Built w.heap.size w.heap.size [] w w1 := hbA.on hb1 (by simp)
  have hz1 : w.heap.size ≤ w1.heap.size := hB1.2.size
  clear hgA hbA hb1
  go_wp2_with fail
  refine (writeString_c _ _ _ _ _ _ hB1 (by simp; omega) hz1).mono ?_
  rintro e w2 ⟨⟨n2, rfl⟩, hB2, hz2⟩
  clear hB1 hz1
  rw [List.nil_append] at hB2
  go_wp2_with fail
  go_loopw [12] (fun i wr => ∃ k : Nat, k ≤ l.length ∧ i = .int .i64 k ∧ Built w.heap.size w.heap.size (eNum l.length ++ (l.take k).flatMap vbytes) w wr ∧ w.heap.size ≤ wr.heap.size) (fun i _ => l.length - (intOf i).toNat)
  case atStart => exact ⟨0, Nat.zero_le _, rfl, by simpa using hB2, hz2⟩
  case round =>
    obtain ⟨k, hk, rfl, hBk, hzk⟩ := hrel
    clear hB2
    by_cases hlt : k < l.length
    · obtain ⟨u, hu⟩ : ∃ u, l[k]? = some u := ⟨l[k], List.getElem?_eq_getElem hlt⟩
      obtain ⟨bx, ox, rfl, hc⟩ := HC.out (ne_of_lt hlt)
      obtain ⟨u0, u1, u2⟩ := (hc k u hu).on hBk.2 (Nat.le_refl _)
      obtain ⟨huf, hul⟩ := HF.out u (List.mem_of_getElem? hu)
      have hle := flatMap_take_le vbytes l (k + 1)
      have hsu := flatMap_take_succ vbytes l k u hu
      rw [hsu, List.length_append] at hle
      have HS := Lib.hid hsu
      clear hsu hc hu
      obtain ⟨w3, e3, p0, p1, p2, hb3⟩ := box_out wr u
      have hB3 := hBk.on hb3 hzk
      have hz3 := Nat.le_trans hzk hb3.size
      have hg3 : Good w3 := hg.on hB3.2
      go_wp2_with fail
      refine (bytes_c u _ hg3 huf (by omega)).mono ?_
      rintro e w4 ⟨rfl, hb4⟩
      have hB4 := hB3.on hb4 hz3
      have hz4 := Nat.le_trans hz3 hb4.size
      clear hb4 hB3 hz3 hb3
      go_wp2_with fail
      refine (writeString_c _ _ _ _ _ _ hB4 (by simp only [List.length_append]; omega) hz4).mono ?_
      rintro e w5 ⟨⟨n5, rfl⟩, hB5, hz5⟩
      go_wp2_with fail
      go_roundw
      case rel => exact ⟨k + 1, by omega, by go_num, by rw [HS.out, ← List.append_assoc]; exact hB5, hz5⟩
      case measure => simp [intOf]; omega
    · obtain rfl : k = l.length := by omega
      go_wp2_with fail
      refine (builderString_c _ _ _ _ _ hBk hzk).mono ?_
      rintro e w7 ⟨rfl, hb7⟩
      go_wp2_with fail
      go_ret
      exact ⟨ret_str (by rw [HE.out]), hb7⟩

theorem show_wrong (v : V) (hr : rightV v = false) (w : World) : Calls Tryz.prog 20 #[.agg #[.int .i64 v.k, .int .i64 v.n, .string ⟨v.s.toArray⟩]] w fun e w' => e = .returned (.string ⟨#[]⟩) ∧ Below w.heap.size w w' := by
  obtain ⟨w1, e1, p0, p1, p2, hb⟩ := box_out w v
  go_enter Tryz.func20, Tryz.ntmps20
  go_wp2_with fail
  refine (right_c _ _ _ _).mono ?_
  rw [show (⟨v.k, v.n, v.s⟩ : V) = v from rfl, hr]
  rintro e w2 ⟨rfl, hb2⟩
  go_wp2_with fail
  go_ret
  exact ⟨rfl, chain hb hb2⟩
theorem show_int (n : Int) (hn : InR n) (w : World) (hg : Good w) : Calls Tryz.prog 20 #[.agg #[.int .i64 0, .int .i64 n, .string ⟨#[]⟩]] w fun e w' => e = .returned (.string ⟨(Lib.itoa n).toArray⟩) ∧ Below w.heap.size w w' := by
  obtain ⟨w1, e1, p0, p1, p2, hb⟩ := box_out w ⟨0, n, []⟩
  simp only at e1 p0 p1 p2
  go_enter Tryz.func20, Tryz.ntmps20
  go_wp2_with fail
  refine (right_c 0 n [] _).mono ?_
  rw [show rightV ⟨0, n, []⟩ = true by simp [rightV]]
  rintro e w2 ⟨rfl, hb2⟩
  have y0 := keep_cell hb2 p0
  have y1 := keep_cell hb2 p1
  have hg2 := hg.on (chain hb hb2)
  go_wp2_with fail
  refine (decimal_c n hn _ hg2).mono ?_
  rintro e w3 ⟨rfl, hb3⟩
  go_wp2_with fail
  go_ret
  exact ⟨rfl, chain hb (chain hb2 hb3)⟩
theorem show_text (s : List UInt8) (hs : s.length ≤ 200) (w : World) : Calls Tryz.prog 20 #[.agg #[.int .i64 1, .int .i64 0, .string ⟨s.toArray⟩]] w fun e w' => e = .returned (.string ⟨(quote s).toArray⟩) ∧ Below w.heap.size w w' := by
  obtain ⟨w1, e1, p0, p1, p2, hb⟩ := box_out w ⟨1, 0, s⟩
  simp only at e1 p0 p1 p2
  go_enter Tryz.func20, Tryz.ntmps20
  go_wp2_with fail
  refine (right_c 1 0 s _).mono ?_
  rw [show rightV ⟨1, 0, s⟩ = true by simp [rightV, hs]]
  rintro e w2 ⟨rfl, hb2⟩
  have y0 := keep_cell hb2 p0
  have y2 := keep_cell hb2 p2
  go_wp2_with fail
  refine (quote_c s (by omega) _).mono ?_
  rintro e w3 ⟨rfl, hb3⟩
  go_wp2_with fail
  go_ret
  exact ⟨rfl, chain hb (chain hb2 hb3)⟩
set_option maxRecDepth 100000 in
theorem show_true (w : World) : Calls Tryz.prog 20 #[.agg #[.int .i64 2, .int .i64 1, .string ⟨#[]⟩]] w fun e w' => e = .returned (.string ⟨#[116, 114, 117, 101]⟩) ∧ Below w.heap.size w w' := by
  obtain ⟨w1, e1, p0, p1, p2, hb⟩ := box_out w ⟨2, 1, []⟩
  simp only at e1 p0 p1 p2
  go_enter Tryz.func20, Tryz.ntmps20
  go_wp2_with fail
  refine (right_c 2 1 [] _).mono ?_
  rw [show rightV ⟨2, 1, []⟩ = true by simp [rightV]]
  rintro e w2 ⟨rfl, hb2⟩
  have y0 := keep_cell hb2 p0
  have y1 := keep_cell hb2 p1
  have y2 := keep_cell hb2 p2
  have k0 := cell_regrown y0
  have k1 := cell_regrown y1
  have k2 := cell_regrown y2
  have q1 : ∀ d os, Calls Tryz.prog 34 #[.bool true] (grow (redrawn w2 d) os) fun e w'' => e = .returned (.agg #[.int .i64 2, .int .i64 1, .string ⟨#[]⟩]) ∧ ∃ p : Regrown, w'' = grow (redrawn w2 p.d) p.os := fun d os => Calls.regrown_of (vBool_c true _)
  have Q1 := Lib.hid q1
  clear q1
  go_wp2_with fail
  clear y0 y1 y2
  refine wp_region_quiet_below (by kernel_rfl) (by kernel_rfl) ?_
  repeat (quiet_step (exact Q1.out _ _))
  refine wpQuiet_nil ?_
  intro _ hw'
  obtain ⟨⟨dq, osq⟩, hw''⟩ := hw'
  subst hw''
  go_wp2_with fail
  go_ret
  exact ⟨rfl, chain hb (chain hb2 (below_regrown w2 dq osq))⟩
set_option maxRecDepth 100000 in
theorem show_false (w : World) : Calls Tryz.prog 20 #[.agg #[.int .i64 2, .int .i64 0, .string ⟨#[]⟩]] w fun e w' => e = .returned (.string ⟨#[102, 97, 108, 115, 101]⟩) ∧ Below w.heap.size w w' := by
  obtain ⟨w1, e1, p0, p1, p2, hb⟩ := box_out w ⟨2, 0, []⟩
  simp only at e1 p0 p1 p2
  go_enter Tryz.func20, Tryz.ntmps20
  go_wp2_with fail
  refine (right_c 2 0 [] _).mono ?_
  rw [show rightV ⟨2, 0, []⟩ = true by simp [rightV]]
  rintro e w2 ⟨rfl, hb2⟩
  have y0 := keep_cell hb2 p0
  have y1 := keep_cell hb2 p1
  have y2 := keep_cell hb2 p2
  have k0 := cell_regrown y0
  have k1 := cell_regrown y1
  have k2 := cell_regrown y2
  have q1 : ∀ d os, Calls Tryz.prog 34 #[.bool true] (grow (redrawn w2 d) os) fun e w'' => e = .returned (.agg #[.int .i64 2, .int .i64 1, .string ⟨#[]⟩]) ∧ ∃ p : Regrown, w'' = grow (redrawn w2 p.d) p.os := fun d os => Calls.regrown_of (vBool_c true _)
  have Q1 := Lib.hid q1
  clear q1
  go_wp2_with fail
  clear y0 y1 y2
  refine wp_region_quiet_below (by kernel_rfl) (by kernel_rfl) ?_
  repeat (quiet_step (exact Q1.out _ _))
  refine wpQuiet_nil ?_
  intro _ hw'
  obtain ⟨⟨dq, osq⟩, hw''⟩ := hw'
  subst hw''
  go_wp2_with fail
  go_ret
  exact ⟨rfl, chain hb (chain hb2 (below_regrown w2 dq osq))⟩
theorem show_c (v : V) (hn : InR v.n) (w : World) (hg : Good w) : Calls Tryz.prog 20 #[.agg #[.int .i64 v.k, .int .i64 v.n, .string ⟨v.s.toArray⟩]] w fun e w' => e = .returned (.string ⟨(showV v).toArray⟩) ∧ Below w.heap.size w w' := by
  cases hr : rightV v with
  | false => exact (show_wrong v hr w).mono fun e w' ⟨he, hb⟩ => ⟨by rw [he, showV_wrong hr], hb⟩
  | true =>
    obtain ⟨k, n, s⟩ := v
    have e : showV ⟨k, n, s⟩ = if k = 0 then Lib.itoa n else if k = 1 then quote s else if n = 1 then tTrue else tFalse := by unfold showV; rw [if_pos hr]
    rcases (rightV_iff _).1 hr with ⟨h1, h2⟩ | ⟨h1, h2, h3⟩ | ⟨h1, h2, h3⟩
    · simp only at h1 h2
      subst h1 h2
      exact (show_int n hn w hg).mono fun e' w' ⟨he, hb⟩ => ⟨by rw [he, e]; rfl, hb⟩
    · simp only at h1 h2 h3
      subst h1 h2
      exact (show_text s h3 w).mono fun e' w' ⟨he, hb⟩ => ⟨by rw [he, e]; rfl, hb⟩
    · simp only at h1 h2 h3
      subst h1 h2
      rcases h3 with rfl | rfl
      · exact (show_false w).mono fun e' w' ⟨he, hb⟩ => ⟨by rw [he, e]; rfl, hb⟩
      · exact (show_true w).mono fun e' w' ⟨he, hb⟩ => ⟨by rw [he, e]; rfl, hb⟩
end Go.Proofs.YthibikdnoogfoaaGreatDoor
