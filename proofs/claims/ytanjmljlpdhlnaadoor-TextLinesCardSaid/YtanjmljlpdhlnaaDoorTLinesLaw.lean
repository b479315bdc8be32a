/-
  TextLines returns true, for every list of strings and every string; of what was there nothing has turned.
-/
import Derived.Test.YtanjmljlpdhlnaaDoorTLinesLem
import Derived.Deep.LoopGhost
import Derived.Deep.DeepCutAuto
namespace Go.Proofs.YtanjmljlpdhlnaaDoor
open Go Go.RowKit Go.Sort Wire Txt

set_option maxHeartbeats 4000000 in
set_option maxRecDepth 100000 in
theorem linesLaw_c (q : List (List UInt8)) (s : List UInt8) (hs : s.length ≤ 9223372036854775807) (v : Value) (w : World) (hg : Good w) (hv : RowAt w v (strs q)) :
    Calls Tryd.prog 4 #[v, .string ⟨s.toArray⟩] w fun e w' => e = .returned (.bool true) ∧ Below w.heap.size w w' := by
  have hql : q.length ≤ 9223372036854775807 := by have := hv.1; simpa [strs] using this
  obtain ⟨A, cap, rfl⟩ := row_any hv
  have HV := Lib.hid hv
  clear hv
  by_cases h1 : 30 < q.length
  · go_enter Tryd.func4, Tryd.ntmps4
    go_wp2_with fail
    refine (small_c _ hg).mono ?_
    rintro e w1 ⟨rfl, hb1⟩
    go_wp2_with fail
    go_ret
    exact ⟨rfl, hb1⟩
  · by_cases h2 : 300 < s.length
    · go_enter Tryd.func4, Tryd.ntmps4
      go_wp2_with fail
      refine (small_c _ hg).mono ?_
      rintro e w1 ⟨rfl, hb1⟩
      go_wp2_with fail
      go_ret
      exact ⟨rfl, hb1⟩
    · clear hql hs
      go_enter Tryd.func4, Tryd.ntmps4
      go_wp2_with fail
      refine (small_c _ hg).mono ?_
      rintro e w1 ⟨rfl, hb1⟩
      have HV1 := Lib.hid (HV.out.on hb1 (Nat.le_refl _))
      go_wp2_with fail
      go_loopg [6, 7] (q.length) (fun g P i wr => ∃ k : Nat, k ≤ q.length ∧ g = q.length - k ∧ i = .int .i64 k ∧ P = .bool ((q.take k).all noLf) ∧ Hid (∀ x ∈ q.take k, x.length ≤ 100) ∧ w1 = wr)
      case atStart => exact ⟨0, Nat.zero_le _, rfl, rfl, rfl, Lib.hid (by intro x hx; simp at hx), rfl⟩
      case round =>
        obtain ⟨k, hk, rfl, rfl, rfl, H100, rfl⟩ := hrel
        by_cases hlt : k < q.length
        · obtain ⟨x, hx⟩ : ∃ x, q[k]? = some x := ⟨q[k], List.getElem?_eq_getElem hlt⟩
          obtain ⟨b, off, rfl, hcell⟩ := row_at HV1.out hx
          have HA := Lib.hid (all_next noLf q k x hx)
          have HX := Lib.hid hx
          clear hx
          by_cases h100 : 100 < x.length
          · go_wp2_with fail
            go_ret
            exact ⟨rfl, hb1⟩
          · have H101 := Lib.hid (show ∀ y ∈ q.take (k + 1), y.length ≤ 100 by
              intro y hy
              rw [List.take_add_one, HX.out] at hy
              rcases List.mem_append.1 hy with hy | hy
              · exact H100.out y hy
              · simp at hy; subst hy; omega)
            obtain ⟨P, hP⟩ : ∃ P, P = (q.take k).all noLf := ⟨_, rfl⟩
            rw [← hP] at HA ⊢
            have HP := Lib.hid hP
            clear hP
            have HN := Lib.hid (fun j c (h : x[j]? = some c) => noLf_next x j c h)
            go_wp2_with fail
            go_loopg [6, 8] x.length (fun g Z i wx => ∃ j : Nat, j ≤ x.length ∧ g = x.length - j ∧ i = .int .i64 j ∧ Z = .bool (P && noLf (x.take j)) ∧ w1 = wx)
            case atStart => exact ⟨0, Nat.zero_le _, rfl, rfl, by simp [noLf], rfl⟩
            case round =>
              obtain ⟨j, hj, rfl, rfl, rfl, rfl⟩ := hrel
              by_cases hjl : j < x.length
              · obtain ⟨c, hc⟩ : ∃ c, x[j]? = some c := ⟨x[j], List.getElem?_eq_getElem hjl⟩
                have ei := at_k x j c hc (by rw [ba_size]; exact hjl)
                have HJ := Lib.hid (HN.out j c hc)
                clear hc
                obtain ⟨Z, hZ⟩ : ∃ Z, Z = (P && noLf (x.take j)) := ⟨_, rfl⟩
                rw [← hZ]
                have HZ := Lib.hid hZ
                clear hZ
                cases Z with
                | false =>
                  go_wp2_with fail
                  go_roundg (x.length - (j + 1))
                  case measure => omega
                  case rel => exact ⟨j + 1, by omega, rfl, by go_num, by rw [HJ.out, ← Bool.and_assoc, ← HZ.out]; rfl, rfl⟩
                | true =>
                  by_cases h10 : c.toNat = 10
                  · have b10 : ((c.toNat : Int) == 10) = true := by rw [h10]; rfl
                    have H10 := Lib.hid h10
                    clear h10
                    go_wp2_with fail
                    go_roundg (x.length - (j + 1))
                    case measure => omega
                    case rel => exact ⟨j + 1, by omega, rfl, by go_num, by rw [HJ.out, ← Bool.and_assoc, ← HZ.out, H10.out]; rfl, rfl⟩
                  · have b10 : ((c.toNat : Int) != 10) = true := by rw [bne_iff_ne]; omega
                    have H10 := Lib.hid (show (c.toNat != 10) = true by simpa using h10)
                    clear h10
                    go_wp2_with fail
                    go_roundg (x.length - (j + 1))
                    case measure => omega
                    case rel => exact ⟨j + 1, by omega, rfl, by go_num, by rw [HJ.out, ← Bool.and_assoc, ← HZ.out, H10.out]; rfl, rfl⟩
              · obtain rfl : j = x.length := by omega
                go_wp2_with fail
                go_roundg (q.length - (k + 1))
                case measure => omega
                case rel => exact ⟨k + 1, by omega, rfl, by go_num, by rw [HA.out, List.take_length], H101, rfl⟩
        · obtain rfl : k = q.length := by omega
          have HQ := Lib.hid (show ∀ x ∈ q, x.length ≤ 100 by have := H100.out; rw [List.take_length] at this; exact this)
          have HU := Lib.hid (unlines_small q HQ.out)
          have HP := Lib.hid (show ((q.take q.length).all noLf) = q.all noLf by rw [List.take_length])
          obtain ⟨P, hP⟩ : ∃ P, P = (q.take q.length).all noLf := ⟨_, rfl⟩
          rw [← hP]
          have HPP := Lib.hid (hP.trans HP.out)
          clear hP
          have HLU := Lib.hid (lines_unlines q)
          go_upto_region 14 with (fail)
          go_cut [67] (fun t67 wx => t67 = .bool false ∧ Below w.heap.size w wx)
          case first =>
            cases P with
            | false =>
              go_wp2_with fail
              go_meet
              exact ⟨rfl, hb1⟩
            | true =>
              have HLN := Lib.hid (HLU.out (fun x hx => (noLf_iff x).1 (List.all_eq_true.1 HPP.out.symm x hx)))
              have hu : (unlines q).length ≤ 1000000 := by have := HU.out; omega
              go_wp2_with fail
              refine (unlines_c q _ (by omega) _ HV1.out).mono ?_
              rintro e w2 ⟨rfl, hb2⟩
              go_wp2_with fail
              refine (lines_c (unlines q) hu _ ((hg.on hb1).on hb2)).mono ?_
              rw [HLN.out]
              rintro e w3 ⟨v3, rfl, hr3, hb3⟩
              go_wp2_with fail
              refine (same_c q q _ _ _ hr3 ((HV1.out.on hb2 (Nat.le_refl _)).on hb3 (Nat.le_refl _)) (by omega)).mono ?_
              rintro e w4 ⟨rfl, hb4⟩
              go_wp2_with fail
              go_meet
              exact ⟨by simp, chain (chain (chain hb1 hb2) hb3) hb4⟩
          case rest =>
            obtain ⟨rfl, hcut⟩ := hcut
            have hgc := hg.on hcut
            go_wp2_with fail
            refine (lines_c s (by omega) _ hgc).mono ?_
            rintro e w5 ⟨v5, rfl, hr5, hb5⟩
            have hb05 := chain hcut hb5
            have hlc := lines_count s
            have HF := Lib.hid (fields_lines s)
            have hfl := fields_length s
            obtain ⟨A5, cap5, rfl⟩ := row_any hr5
            have HR5 := Lib.hid hr5
            clear hr5 hcut hgc hb5 hb1
            go_upto_region 18 with (fail)
            go_cut [80] (fun t80 wx => (∃ b : Bool, t80 = .bool b ∧ Hid (ended s = if b then s ++ [10] else s)) ∧ w5 = wx)
            case first =>
              by_cases hse : s = []
              · have HE := Lib.hid (show ended s = if false then s ++ [10] else s by unfold ended; rw [if_pos (Or.inl hse)]; rfl)
                have hq : (s == []) = true := by rw [hse]; rfl
                clear hse
                go_wp2_with fail
                go_meet
                exact ⟨⟨false, rfl, HE⟩, rfl⟩
              · have hq : (s == []) = false := by simpa using hse
                have hsl : 1 ≤ s.length := List.length_pos_iff.2 hse
                obtain ⟨d, hd⟩ : ∃ d, s.getLast? = some d := ⟨s.getLast hse, List.getLast?_eq_some_getLast hse⟩
                have el := last_at s d hd (by rw [ba_size]; omega)
                by_cases h10 : d.toNat = 10
                · have HE := Lib.hid (show ended s = if false then s ++ [10] else s by unfold ended; rw [if_pos (Or.inr (by rw [hd, byte_of d 10 h10]; rfl))]; rfl)
                  have b10 : ((d.toNat : Int) != 10) = false := by rw [h10]; rfl
                  clear h10 hd hse
                  go_wp2_with fail
                  go_meet
                  exact ⟨⟨false, rfl, HE⟩, rfl⟩
                · have HE := Lib.hid (show ended s = if true then s ++ [10] else s by unfold ended; rw [if_neg (by rintro (h | h); exact hse h; rw [hd] at h; injection h with h; subst h; exact h10 rfl)]; rfl)
                  have b10 : ((d.toNat : Int) != 10) = true := by rw [bne_iff_ne]; omega
                  clear h10 hd hse
                  go_wp2_with fail
                  go_meet
                  exact ⟨⟨true, rfl, HE⟩, rfl⟩
            case rest =>
              obtain ⟨⟨b, rfl, HE⟩, rfl⟩ := hcut
              go_upto_if 80 with (fail)
              go_cut [10] (fun s10 wx => s10 = .string ⟨(ended s).toArray⟩ ∧ w5 = wx)
              case first =>
                cases b with
                | false =>
                  go_wp2_with fail
                  go_meet
                  exact ⟨by rw [HE.out]; rfl, rfl⟩
                | true =>
                  have a1 := str_add s [10]
                  go_wp2_with fail
                  go_meet
                  exact ⟨by rw [HE.out]; rfl, rfl⟩
              case rest =>
                obtain ⟨rfl, rfl⟩ := hcut
                go_wp2_with fail
                have HCL := Lib.hid (lines_clean s)
                have HLL := Lib.hid (line_len s)
                have hlq : (lines s).length ≤ 301 := by omega
                have hz5 := hb05.size
                obtain ⟨i0, hi, hz0, hz1, hz2⟩ := info_parts infoString
                go_loopg [11, 12] (lines s).length (fun g v i wr => ∃ k : Nat, k ≤ (lines s).length ∧ g = (lines s).length - k ∧ i = .int .i64 k ∧ OwnStrs w5.heap.size v (((lines s).take k).flatMap fields) wr ∧ Below w5.heap.size w5 wr)
                case atStart => exact ⟨0, Nat.zero_le _, rfl, rfl, OwnStrs.nil _ _, Below.refl _ _⟩
                case round =>
                  obtain ⟨k, hk, rfl, rfl, hown, hbr⟩ := hrel
                  obtain ⟨wo, rfl⟩ : ∃ wo : World, wo = wr := ⟨_, rfl⟩
                  obtain ⟨acc, hacc⟩ : ∃ acc, acc = ((lines s).take k).flatMap fields := ⟨_, rfl⟩
                  rw [← hacc] at hown
                  by_cases hlt : k < (lines s).length
                  · obtain ⟨x, hx⟩ : ∃ x, (lines s)[k]? = some x := ⟨(lines s)[k], List.getElem?_eq_getElem hlt⟩
                    have hxl := HLL.out x (List.mem_of_getElem? hx)
                    have HXC := Lib.hid (HCL.out x (List.mem_of_getElem? hx))
                    obtain ⟨b5, o5, rfl, c5⟩ := row_at HR5.out hx
                    have hcell : wo.cell? ⟨b5, o5 + k, none⟩ = some (.string ⟨x.toArray⟩) := by rw [hbr.cell (lt_of_cell c5)]; exact c5
                    have HX := Lib.hid hx
                    have HFN := Lib.hid (show ((lines s).take (k + 1)).flatMap fields = acc ++ fields x by rw [hacc]; exact flat_take_next fields (lines s) k x hx)
                    have hfk := flat_take_le fields (lines s) (k + 1)
                    rw [HFN.out, List.length_append, ← HF.out] at hfk
                    clear hx c5 hacc
                    go_wp2_with fail
                    go_loopg [13] x.length (fun g i wx => ∃ j : Nat, j ≤ x.length ∧ g = x.length - j ∧ i = .int .i64 j ∧ wo = wx)
                    case atStart => exact ⟨0, Nat.zero_le _, rfl, rfl, rfl⟩
                    case round =>
                      obtain ⟨j, hj, rfl, rfl, rfl⟩ := hrel
                      by_cases hjl : j < x.length
                      · obtain ⟨c, hc⟩ : ∃ c, x[j]? = some c := ⟨x[j], List.getElem?_eq_getElem hjl⟩
                        have ei := at_k x j c hc (by rw [ba_size]; exact hjl)
                        have hne : c.toNat ≠ 10 := by
                          intro e
                          have e2 := byte_of c 10 e
                          subst e2
                          exact HXC.out (List.mem_of_getElem? hc)
                        have b10 : ((c.toNat : Int) == 10) = false := beq_no (by omega)
                        clear hc hne
                        go_wp2_with fail
                        go_roundg (x.length - (j + 1))
                        case measure => omega
                        case rel => exact ⟨j + 1, by omega, rfl, by go_num, rfl⟩
                      · obtain rfl : j = x.length := by omega
                        go_wp2_with fail
                        refine (fields_c x (by omega) _).mono ?_
                        rintro e w6 ⟨v6, rfl, hown6, hb6⟩
                        have hownA := hown.on hb6
                        have hbr6 := hbr.trans (hb6.mono hbr.size)
                        have hz6 := hbr6.size
                        have HNN := Lib.hid HFN.out
                        rcases own_cases hown6 with ⟨rfl, h0⟩ | ⟨g6, cap6, rfl, hc6⟩
                        · have HO := Lib.hid h0
                          clear h0
                          go_wp2_with (at_builtin; refine wpList_append_own_none rfl _ _ 30 rfl w5.heap.size 9 i0 1 Tryd.underlying30 hi _ _ _ rfl hownA rfl ?_)
                          go_wp2_with fail
                          go_roundg ((lines s).length - (k + 1))
                          case measure => omega
                          case rel => exact ⟨k + 1, by omega, rfl, by go_num, by rw [HNN.out, HO.out, List.append_nil]; exact hownA, hbr6⟩
                        · have HC6 := Lib.hid hc6
                          clear hc6
                          go_wp2_with (at_builtin; refine wpList_append_own _ rfl _ _ 30 rfl w5.heap.size 9 i0 (.string ⟨#[]⟩) 1 16 Tryd.underlying30 hi hz0 hz1 hz2 rfl (by decide) _ _ _ rfl hownA ⟨g6, 0, none⟩ (fields x).length cap6 (strs (fields x)) rfl (by simp [strs]) HC6.out (strs_one _) ?c3 ?c4 ?c5 ?_)
                          case c3 => unfold maxLen; omega
                          case c4 => omega
                          case c5 => exact hz6
                          intro v7 w7 hown7 hgrow7 _
                          have hb7 : Below w5.heap.size w5 w7 := hbr6.grown hgrow7 hz6 (fun k hk => (hownA.lt k hk).1)
                          go_wp2_with fail
                          go_roundg ((lines s).length - (k + 1))
                          case measure => omega
                          case rel => exact ⟨k + 1, by omega, rfl, by go_num, by rw [HNN.out]; unfold OwnStrs; rw [List.length_append, strs_append]; exact hown7, hb7⟩
                  · obtain rfl : k = (lines s).length := by omega
                    have hff : acc = fields s := by rw [hacc, List.take_length]; exact HF.out.symm
                    subst hff
                    clear hacc
                    have hrow := hown.row
                    obtain ⟨a6, cap6, rfl⟩ := row_any hrow
                    have HR6 := Lib.hid hrow
                    have HFC := Lib.hid (fields_clean s)
                    have hfs : ∀ x ∈ fields s, x.length ≤ 9223372036854775807 := by
                      intro x hx
                      have h1 := (fields_sub s x hx)
                      omega
                    have HFS := Lib.hid hfs
                    clear hrow hown hfs
                    go_wp2_with fail
                    go_loopg [14] (fields s).length (fun g i wx => ∃ k : Nat, k ≤ (fields s).length ∧ g = (fields s).length - k ∧ i = .int .i64 k ∧ wo = wx)
                    case atStart => exact ⟨0, Nat.zero_le _, rfl, rfl, rfl⟩
                    case round =>
                      obtain ⟨k, hk, rfl, rfl, rfl⟩ := hrel
                      by_cases hlt : k < (fields s).length
                      · obtain ⟨x, hx⟩ : ∃ x, (fields s)[k]? = some x := ⟨(fields s)[k], List.getElem?_eq_getElem hlt⟩
                        have hxl := HFS.out x (List.mem_of_getElem? hx)
                        have HXC := Lib.hid (HFC.out x (List.mem_of_getElem? hx))
                        obtain ⟨b6, o6, rfl, hcell⟩ := row_at HR6.out hx
                        clear hx
                        have hxe : (x == []) = false := by have := HXC.out.1; simpa using this
                        go_wp2_with fail
                        go_loopg [15] x.length (fun g i wx => ∃ j : Nat, j ≤ x.length ∧ g = x.length - j ∧ i = .int .i64 j ∧ wo = wx)
                        case atStart => exact ⟨0, Nat.zero_le _, rfl, rfl, rfl⟩
                        case round =>
                          obtain ⟨j, hj, rfl, rfl, rfl⟩ := hrel
                          by_cases hjl : j < x.length
                          · obtain ⟨c, hc⟩ : ∃ c, x[j]? = some c := ⟨x[j], List.getElem?_eq_getElem hjl⟩
                            have ei := at_k x j c hc (by rw [ba_size]; exact hjl)
                            have hw := HXC.out.2 c (List.mem_of_getElem? hc)
                            simp only [white, Bool.or_eq_false_iff, beq_eq_false_iff_ne] at hw
                            have b32 : ((c.toNat : Int) == 32) = false := beq_no (by omega)
                            have b9 : ((c.toNat : Int) == 9) = false := beq_no (by omega)
                            have b10 : ((c.toNat : Int) == 10) = false := beq_no (by omega)
                            clear hc hw
                            go_wp2_with fail
                            go_roundg (x.length - (j + 1))
                            case measure => omega
                            case rel => exact ⟨j + 1, by omega, rfl, by go_num, rfl⟩
                          · obtain rfl : j = x.length := by omega
                            go_wp2_with fail
                            go_roundg ((fields s).length - (k + 1))
                            case measure => omega
                            case rel => exact ⟨k + 1, by omega, rfl, by go_num, rfl⟩
                      · obtain rfl : k = (fields s).length := by omega
                        have HUL := Lib.hid (unlines_lines s)
                        have hul := lines_sum s
                        go_wp2_with fail
                        refine (unlines_c (lines s) _ (by omega) _ (HR5.out.on hbr (Nat.le_refl _))).mono ?_
                        rw [HUL.out]
                        rintro e w8 ⟨rfl, hb8⟩
                        go_wp2_with fail
                        refine (fields_c s (by omega) _).mono ?_
                        rintro e w9 ⟨v9, rfl, hown9, hb9⟩
                        go_wp2_with fail
                        refine (same_c (fields s) (fields s) _ _ _ hown9.row ((HR6.out.on hb8 (Nat.le_refl _)).on hb9 (Nat.le_refl _)) (by omega)).mono ?_
                        rintro e w10 ⟨rfl, hb10⟩
                        go_wp2_with fail
                        go_ret
                        exact ⟨ret_bool (by simp), chain (chain (chain (chain hb05 hbr) hb8) hb9) hb10⟩
end Go.Proofs.YtanjmljlpdhlnaaDoor
