/-
  Quote and Escape of package text: each returns what chapter 2 says; of what was there nothing has turned.
-/
import Derived.Test.YthibikdnoogfoaaGreatDoorTSize
namespace Go.Proofs.YthibikdnoogfoaaGreatDoor
open Go Go.RowKit Go.Sort Wire Txt

theorem at_k (l : List UInt8) (k : Nat) (c : UInt8) (h : l[k]? = some c) (hk : k < (⟨l.toArray⟩ : ByteArray).size) : (⟨l.toArray⟩ : ByteArray)[k] = c := by
  show l.toArray[k]'hk = c
  rw [List.getElem_toArray]
  exact (List.getElem?_eq_some_iff.1 h).2
theorem dig_at : ∀ (k : Nat) (hk : k < 16), (⟨#[48, 49, 50, 51, 52, 53, 54, 55, 56, 57, 97, 98, 99, 100, 101, 102]⟩ : ByteArray)[k]'hk = hexd k := by decide +kernel
theorem take_flat (f : UInt8 → List UInt8) (l : List UInt8) (k : Nat) (c : UInt8) (h : l[k]? = some c) : (l.take (k + 1)).flatMap f = (l.take k).flatMap f ++ f c := flatMap_take_succ f l k c h

set_option maxHeartbeats 1000000 in
set_option maxRecDepth 100000 in
theorem quote_c (l : List UInt8) (hl : l.length ≤ 1000000000) (w : World) :
    Calls Tryz.prog 50 #[.string ⟨l.toArray⟩] w fun e w' => e = .returned (.string ⟨(quote l).toArray⟩) ∧ Below w.heap.size w w' := by
  have hst := Lib.fresh_isBuilder 47 5 w
  have hbA : Built w.heap.size w.heap.size [] w (w.alloc (.cells #[.pointer none, .slice none 0 0] 47)) := ⟨hst, (Below.refl _ _).alloc (Nat.le_refl _) _⟩
  clear hst
  go_enter Tryz.func50, Tryz.ntmps50
  go_wp2_with fail
  refine (writeByte_c _ _ _ 34 34 rfl _ _ hbA (by simp) (by simp)).mono ?_
  rintro e w2 ⟨rfl, hB2, hz2⟩
  clear hbA
  rw [List.nil_append] at hB2
  go_wp2_with fail
  go_loopw [9] (fun i wr => ∃ k : Nat, k ≤ l.length ∧ i = .int .i64 k ∧ Built w.heap.size w.heap.size ([34] ++ (l.take k).flatMap qb) w wr ∧ w.heap.size ≤ wr.heap.size) (fun i _ => l.length - (intOf i).toNat)
  case atStart => exact ⟨0, Nat.zero_le _, rfl, by simpa using hB2, hz2⟩
  case round =>
    obtain ⟨k, hk, rfl, hBk, hzk⟩ := hrel
    clear hB2 hz2
    have hle := flatMap_len qb 4 (fun c => (qb_len c).2) (l.take k)
    have hlt' : (l.take k).length ≤ l.length := by rw [List.length_take]; omega
    by_cases hlt : k < l.length
    · obtain ⟨c, hc⟩ : ∃ c, l[k]? = some c := ⟨l[k], List.getElem?_eq_getElem hlt⟩
      have ei := at_k l k c hc (by rw [ba_size]; exact hlt)
      have HT := Lib.hid (take_flat qb l k c hc)
      clear hc
      have hcl := c.toNat_lt
      by_cases h1 : c.toNat = 34 ∨ c.toNat = 92
      · have HQ := Lib.hid (show qb c = [92, c] by unfold qb; rw [if_pos h1])
        rcases h1 with h | h
        · have b34 : ((c.toNat : Int) == 34) = true := by rw [h]; rfl
          clear h
          go_wp2_with fail
          refine (writeByte_c _ _ _ 92 92 rfl _ _ hBk (by first | omega | (simp only [List.length_append, List.length_cons, List.length_nil]; omega)) hzk).mono ?_
          rintro e w4 ⟨rfl, hB4, hz4⟩
          go_wp2_with fail
          refine (writeByte_c _ _ _ c _ rfl _ _ hB4 (by first | omega | (simp only [List.length_append, List.length_cons, List.length_nil]; omega)) hz4).mono ?_
          rintro e w5 ⟨rfl, hB5, hz5⟩
          go_wp2_with fail
          go_roundw
          case rel => exact ⟨k + 1, by omega, by go_num, by rw [HT.out, HQ.out]; simpa using hB5, hz5⟩
          case measure => simp [intOf]; omega
        · have b34 : ((c.toNat : Int) == 34) = false := beq_no (by omega)
          have b92 : ((c.toNat : Int) == 92) = true := by rw [h]; rfl
          clear h
          go_wp2_with fail
          refine (writeByte_c _ _ _ 92 92 rfl _ _ hBk (by first | omega | (simp only [List.length_append, List.length_cons, List.length_nil]; omega)) hzk).mono ?_
          rintro e w4 ⟨rfl, hB4, hz4⟩
          go_wp2_with fail
          refine (writeByte_c _ _ _ c _ rfl _ _ hB4 (by first | omega | (simp only [List.length_append, List.length_cons, List.length_nil]; omega)) hz4).mono ?_
          rintro e w5 ⟨rfl, hB5, hz5⟩
          go_wp2_with fail
          go_roundw
          case rel => exact ⟨k + 1, by omega, by go_num, by rw [HT.out, HQ.out]; simpa using hB5, hz5⟩
          case measure => simp [intOf]; omega
      · have b34 : ((c.toNat : Int) == 34) = false := beq_no (by omega)
        have b92 : ((c.toNat : Int) == 92) = false := beq_no (by omega)
        by_cases h2 : c.toNat = 10
        · have HQ := Lib.hid (show qb c = [92, 110] by unfold qb; rw [if_neg h1, if_pos h2])
          have b10 : ((c.toNat : Int) == 10) = true := by rw [h2]; rfl
          clear h1 h2
          go_wp2_with fail
          refine (writeString_c _ _ _ [92, 110] _ _ hBk (by first | omega | (simp only [List.length_append, List.length_cons, List.length_nil]; omega)) hzk).mono ?_
          rintro e w4 ⟨⟨n4, rfl⟩, hB4, hz4⟩
          go_wp2_with fail
          go_roundw
          case rel => exact ⟨k + 1, by omega, by go_num, by rw [HT.out, HQ.out]; simpa using hB4, hz4⟩
          case measure => simp [intOf]; omega
        · have b10 : ((c.toNat : Int) == 10) = false := beq_no (by omega)
          by_cases h3 : c.toNat < 32 ∨ 126 < c.toNat
          · have HQ := Lib.hid (show qb c = [92, 120, hexd (c.toNat / 16), hexd (c.toNat % 16)] by unfold qb; rw [if_neg h1, if_neg h2, if_pos h3])
            clear h1 h2
            rcases h3 with h3 | h3
            · go_wp2_with fail
              refine (writeString_c _ _ _ [92, 120] _ _ hBk (by first | omega | (simp only [List.length_append, List.length_cons, List.length_nil]; omega)) hzk).mono ?_
              rintro e w4 ⟨⟨n4, rfl⟩, hB4, hz4⟩
              go_wp2_with fail
              refine (writeByte_c _ _ _ (hexd (c.toNat / 16)) _ (by rw [dig_at]) _ _ hB4 (by first | omega | (simp only [List.length_append, List.length_cons, List.length_nil]; omega)) hz4).mono ?_
              rintro e w5 ⟨rfl, hB5, hz5⟩
              go_wp2_with fail
              refine (writeByte_c _ _ _ (hexd (c.toNat % 16)) _ (by rw [dig_at]) _ _ hB5 (by first | omega | (simp only [List.length_append, List.length_cons, List.length_nil]; omega)) hz5).mono ?_
              rintro e w6 ⟨rfl, hB6, hz6⟩
              go_wp2_with fail
              go_roundw
              case rel => exact ⟨k + 1, by omega, by go_num, by rw [HT.out, HQ.out]; simpa using hB6, hz6⟩
              case measure => simp [intOf]; omega
            · have h32 : ¬ c.toNat < 32 := by omega
              go_wp2_with fail
              refine (writeString_c _ _ _ [92, 120] _ _ hBk (by first | omega | (simp only [List.length_append, List.length_cons, List.length_nil]; omega)) hzk).mono ?_
              rintro e w4 ⟨⟨n4, rfl⟩, hB4, hz4⟩
              go_wp2_with fail
              refine (writeByte_c _ _ _ (hexd (c.toNat / 16)) _ (by rw [dig_at]) _ _ hB4 (by first | omega | (simp only [List.length_append, List.length_cons, List.length_nil]; omega)) hz4).mono ?_
              rintro e w5 ⟨rfl, hB5, hz5⟩
              go_wp2_with fail
              refine (writeByte_c _ _ _ (hexd (c.toNat % 16)) _ (by rw [dig_at]) _ _ hB5 (by first | omega | (simp only [List.length_append, List.length_cons, List.length_nil]; omega)) hz5).mono ?_
              rintro e w6 ⟨rfl, hB6, hz6⟩
              go_wp2_with fail
              go_roundw
              case rel => exact ⟨k + 1, by omega, by go_num, by rw [HT.out, HQ.out]; simpa using hB6, hz6⟩
              case measure => simp [intOf]; omega
          · have HQ := Lib.hid (show qb c = [c] by unfold qb; rw [if_neg h1, if_neg h2, if_neg h3])
            have h32 : ¬ c.toNat < 32 := by omega
            have h126 : ¬ 126 < c.toNat := by omega
            clear h1 h2 h3
            go_wp2_with fail
            refine (writeByte_c _ _ _ c _ rfl _ _ hBk (by first | omega | (simp only [List.length_append, List.length_cons, List.length_nil]; omega)) hzk).mono ?_
            rintro e w4 ⟨rfl, hB4, hz4⟩
            go_wp2_with fail
            go_roundw
            case rel => exact ⟨k + 1, by omega, by go_num, by rw [HT.out, HQ.out]; simpa using hB4, hz4⟩
            case measure => simp [intOf]; omega
    · obtain rfl : k = l.length := by omega
      go_wp2_with fail
      refine (writeByte_c _ _ _ 34 34 rfl _ _ hBk (by simp only [List.length_append, List.length_singleton]; omega) hzk).mono ?_
      rintro e w6 ⟨rfl, hB6, hz6⟩
      go_wp2_with fail
      refine (builderString_c _ _ _ _ _ hB6 hz6).mono ?_
      rintro e w7 ⟨rfl, hb7⟩
      go_wp2_with fail
      go_ret
      exact ⟨ret_str (by unfold quote; simp), hb7⟩

end Go.Proofs.YthibikdnoogfoaaGreatDoor
