/-
  The statements' examples: small returns true, and of what was there nothing has turned.
-/
import Derived.Test.YthibikdnoogfoaaGreatDoorVShowR
import Derived.Test.YthibikdnoogfoaaGreatDoorVParseR
namespace Go.Proofs.YthibikdnoogfoaaGreatDoor
open Go Go.RowKit Go.Sort Wire Txt Vl

def exR : List V := [⟨0, -3, []⟩, ⟨1, 0, [97, 34, 98]⟩, ⟨2, 1, []⟩]
def exS : List UInt8 := [40, 45, 51, 44, 32, 34, 97, 92, 34, 98, 34, 44, 32, 116, 114, 117, 101, 41]
theorem ex_itoa : Lib.itoa (-3) = [45, 51] := by
  rw [itoa_neg _ (by omega), show (-3 : Int).natAbs = 3 from rfl, Lib.decDigits_one (by omega)]
  rfl
theorem ex_rt : ∀ v ∈ exR, Rt v := by
  intro v hv
  simp only [exR, List.mem_cons, List.not_mem_nil, or_false] at hv
  rcases hv with rfl | rfl | rfl
  · exact ⟨by decide, by unfold InR; simp⟩
  · exact ⟨by decide, by unfold InR; simp⟩
  · exact ⟨by decide, by unfold InR; simp⟩
theorem ex_show : showR exR = exS := by
  rw [showR_all (fun v hv => (ex_rt v hv).1)]
  have e : body exR = (showV ⟨0, -3, []⟩ ++ (sep ++ showV ⟨1, 0, [97, 34, 98]⟩)) ++ (sep ++ showV ⟨2, 1, []⟩) := by
    have h1 : exR = [⟨0, -3, []⟩, ⟨1, 0, [97, 34, 98]⟩] ++ [⟨2, 1, []⟩] := rfl
    have h2 : ([⟨0, -3, []⟩, ⟨1, 0, [97, 34, 98]⟩] : List V) = [⟨0, -3, []⟩] ++ [⟨1, 0, [97, 34, 98]⟩] := rfl
    have h3 : ([⟨0, -3, []⟩] : List V) = [] ++ [⟨0, -3, []⟩] := rfl
    rw [h1, body_snoc, h2, body_snoc]
    conv => lhs; rw [h3, body_snoc]
    simp [body_nil]
  have s1 : showV ⟨0, -3, []⟩ = [45, 51] := by
    unfold showV
    rw [if_pos (by decide), if_pos rfl]
    exact ex_itoa
  rw [e, s1]
  decide
theorem ex_text : RowText exS exR := ⟨ex_rt, ex_show⟩
theorem ex_nil : RowText [40, 41] [] := ⟨by simp, rfl⟩
theorem row_one {w : World} {b cap : Nat} {v : V} {l : List V} {n : Nat} (h : RowV w (.slice (some ⟨b, 0, none⟩) n cap) (v :: l)) : RowV w (.slice (some ⟨b, 0, none⟩) 1 cap) [v] := by
  obtain ⟨h0, a, c, he, hc⟩ := h
  obtain ⟨b', off, hb, hx⟩ := hc (by simp)
  injection he with e1 _ e3
  refine ⟨by simp, some ⟨b, 0, none⟩, cap, rfl, fun _ => ⟨b', off, by rw [e1]; exact hb, fun i u hu => ?_⟩⟩
  cases i with
  | zero => exact hx 0 u (by simpa using hu)
  | succ i => simp at hu
theorem row_nil (w : World) : RowV w (.slice none 0 0) [] := ⟨by simp, none, 0, rfl, fun h => absurd rfl h⟩
theorem row_ex (w : World) : ∃ w2, w.alloc (.cells #[.int .i64 0, .int .i64 (-3), .string ⟨#[]⟩, .int .i64 1, .int .i64 0, .string ⟨#[97, 34, 98]⟩, .int .i64 2, .int .i64 1, .string ⟨#[]⟩] 31) = w2 ∧ RowV w2 (.slice (some ⟨w.heap.size, 0, none⟩) 3 3) exR ∧ Below w.heap.size w w2 := by
  refine ⟨_, rfl, ⟨by simp [exR], some ⟨w.heap.size, 0, none⟩, 3, rfl, fun _ => ⟨w.heap.size, 0, rfl, fun i v hv => ?_⟩⟩, (Below.refl _ _).alloc (Nat.le_refl _) _⟩
  have hc := fun j => Lib.cell_of_heap (heap_alloc_new w (.cells #[.int .i64 0, .int .i64 (-3), .string ⟨#[]⟩, .int .i64 1, .int .i64 0, .string ⟨#[97, 34, 98]⟩, .int .i64 2, .int .i64 1, .string ⟨#[]⟩] 31)) j
  match i, hv with
  | 0, hv => injection hv with hv; subst hv; exact ⟨by rw [hc]; rfl, by rw [hc]; rfl, by rw [hc]; rfl⟩
  | 1, hv => injection hv with hv; subst hv; exact ⟨by rw [hc]; rfl, by rw [hc]; rfl, by rw [hc]; rfl⟩
  | 2, hv => injection hv with hv; subst hv; exact ⟨by rw [hc]; rfl, by rw [hc]; rfl, by rw [hc]; rfl⟩
  | i + 3, hv => simp [exR] at hv
theorem parse_yes {s : List UInt8} {L : List V} (h : RowText s L) {w w' : World} {e : Ending} (hp : ParsePost s w e w') (hs : s.length < 9999999) : ∃ sv, e = .returned (.tuple #[sv, .bool true]) ∧ RowV w' sv L ∧ Below w.heap.size w w' := by
  obtain ⟨h1 | h1, hb⟩ := hp
  · obtain ⟨sv, l, he, hl, hll, hown⟩ := h1
    obtain rfl := rowText_inj h hl
    exact ⟨sv, he, row_of_own hown (by omega), hb⟩
  · exact absurd h (h1.2 L)

set_option maxHeartbeats 1000000 in
set_option maxRecDepth 100000 in
theorem vsmall_c (w : World) (hg : Good w) : Calls Tryz.prog 4 #[] w fun e w' => e = .returned (.bool true) ∧ Below w.heap.size w w' := by
  have HS := Lib.hid ex_show
  have hcmp : cmpV ⟨0, 5, []⟩ ⟨1, 0, [97]⟩ = -1 := by decide
  have hcmr : cmpR [⟨0, -3, []⟩] exR = -1 := by decide
  have hrr : rightR exR = true := by decide
  have HE := Lib.hid (show showR [] = [40, 41] from rfl)
  go_enter Tryz.func4, Tryz.ntmps4
  go_wp2_with fail
  refine (vInt_c (-3) _).mono ?_
  rintro e w1 ⟨rfl, hb1⟩
  go_wp2_with fail
  refine (vText_c [97, 34, 98] _).mono ?_
  rintro e w2 ⟨rfl, hb2⟩
  go_wp2_with fail
  refine (vBool_c true _).mono ?_
  rintro e w3 ⟨rfl, hb3⟩
  obtain ⟨w4, e4, hr4, hb4⟩ := row_ex w3
  have hb := chain hb1 (chain hb2 (chain hb3 hb4))
  have hg4 := hg.on hb
  clear hb1 hb2 hb3 hb4
  go_wp2_with fail
  refine (showRow_c exR _ _ hg4 (fun v hv => (ex_rt v hv).2) (by decide) hr4).mono ?_
  rw [HS.out]
  rintro e w5 ⟨rfl, hb5⟩
  have hr5 := hr4.on hb5 (Nat.le_refl _)
  have hg5 := hg4.on hb5
  have hbb5 := chain hb hb5
  clear hr4 hg4 hb5 hb
  go_wp2_with fail
  refine (parseRow_c exS (by decide) _ hg5).mono ?_
  intro e w6 hpp
  obtain ⟨sv, rfl, hp6, hb6⟩ := parse_yes ex_text hpp (by decide)
  clear hpp
  have hr6 := hr5.on hb6 (Nat.le_refl _)
  have hg6 := hg5.on hb6
  have hbb6 := chain hbb5 hb6
  clear hr5 hg5 hb6 hbb5
  go_wp2_with fail
  refine (parseRow_c [40, 41] (by decide) _ hg6).mono ?_
  intro e w7 hpp
  obtain ⟨sn, rfl, hp7, hb7⟩ := parse_yes ex_nil hpp (by decide)
  clear hpp hp7
  have hr7 := hr6.on hb7 (Nat.le_refl _)
  have hs7 := hp6.on hb7 (Nat.le_refl _)
  have hg7 := hg6.on hb7
  have hbb7 := chain hbb6 hb7
  have hx : (exS == [40, 45, 51, 44, 32, 34, 97, 92, 34, 98, 34, 44, 32, 116, 114, 117, 101, 41]) = true := by decide
  clear hr6 hp6 hg6 hb7 hbb6
  go_wp2_with fail
  refine (sameRows_c exR exR _ _ _ hs7 hr7).mono ?_
  rw [show decide (exR = exR) = true by simp]
  rintro e w8 ⟨rfl, hb8⟩
  have hr8 := hr7.on hb8 (Nat.le_refl _)
  have hg8 := hg7.on hb8
  have hbb8 := chain hbb7 hb8
  clear hr7 hs7 hg7 hb8 hbb7
  go_wp2_with fail
  refine (showRow_c [] _ _ hg8 (by simp) (by simp) (row_nil _)).mono ?_
  rw [HE.out]
  rintro e w9 ⟨rfl, hb9⟩
  have hr9 := hr8.on hb9 (Nat.le_refl _)
  have hbb9 := chain hbb8 hb9
  clear hr8 hg8 hb9 hbb8
  go_wp2_with fail
  refine (vInt_c 5 _).mono ?_
  rintro e wa ⟨rfl, hba⟩
  have hra := hr9.on hba (Nat.le_refl _)
  have hbba := chain hbb9 hba
  clear hr9 hba hbb9
  go_wp2_with fail
  refine (vText_c [97] _).mono ?_
  rintro e wb ⟨rfl, hbb⟩
  have hrb := hra.on hbb (Nat.le_refl _)
  have hbbb := chain hbba hbb
  clear hra hbb hbba
  go_wp2_with fail
  refine (compare_c ⟨0, 5, []⟩ ⟨1, 0, [97]⟩ _).mono ?_
  rw [hcmp]
  rintro e wc ⟨rfl, hbc⟩
  have hrc := hrb.on hbc (Nat.le_refl _)
  have hbbc := chain hbbb hbc
  clear hrb hbc hbbb
  go_wp2_with fail
  refine (compareRows_c [⟨0, -3, []⟩] exR _ _ _ (row_one hrc) hrc).mono ?_
  rw [hcmr]
  rintro e wd ⟨rfl, hbd⟩
  have hrd := hrc.on hbd (Nat.le_refl _)
  have hbbd := chain hbbc hbd
  clear hrc hbd hbbc
  go_wp2_with fail
  refine (rightRow_c exR _ _ hrd).mono ?_
  rw [hrr]
  rintro e we ⟨rfl, hbe⟩
  go_wp2_with fail
  go_ret
  exact ⟨rfl, chain hbbd hbe⟩
end Go.Proofs.YthibikdnoogfoaaGreatDoor
