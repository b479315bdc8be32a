/-
  The reference's fits, Magic and Plain: each returns what chapter 2 says; of what was there nothing has turned.
-/
import Derived.Test.YtanjmljlpdhlnaaGreatDoorTRefG
import Derived.Deep.QuietTactic
import Derived.BigQuiet
namespace Go.Proofs.YtanjmljlpdhlnaaGreatDoor
open Go Go.RowKit Go.Sort Wire Txt

set_option maxHeartbeats 1000000 in
set_option maxRecDepth 100000 in
theorem fitsR_k (kd : Nat) (b : UInt8) (S X : List UInt8) (nt : Bool) (c : UInt8) (hS : S.length ≤ 1000000000) (w : World) :
    Calls Tryz.prog 42 #[.agg #[.int .i64 kd, .int .u8 b.toNat, .string ⟨S.toArray⟩, .bool nt, .string ⟨X.toArray⟩], .int .u8 c.toNat] w fun e w' => e = .returned (.bool (if kd = 2 then true else if kd = 3 then (within c S != nt) else decide (b = c))) ∧ Below w.heap.size w w' := by
  by_cases h2 : kd = 2
  · subst h2
    go_enter Tryz.func42, Tryz.ntmps42
    go_wp2_with fail
    go_ret
    exact ⟨rfl, (Below.refl _ _).alloc (Nat.le_refl _) _⟩
  · by_cases h3 : kd = 3
    · subst h3
      clear h2
      go_enter Tryz.func42, Tryz.ntmps42
      go_wp2_with fail
      go_quiet ((go_at_call 56; exact Calls.quiet_of_same (inR_c S c hS _)))
      go_wp2_with fail
      go_ret
      exact ⟨rfl, below_drew ((Below.refl _ _).alloc (Nat.le_refl _) _) _⟩
    · have b2 : ((kd : Int) == 2) = false := beq_no (by omega)
      have b3 : ((kd : Int) == 3) = false := beq_no (by omega)
      have hbc := byte_beq b c
      rw [if_neg h2, if_neg h3]
      obtain ⟨R, hR⟩ : ∃ R, R = decide (b = c) := ⟨_, rfl⟩
      rw [← hR] at hbc ⊢
      clear h2 h3 hR
      go_enter Tryz.func42, Tryz.ntmps42
      go_wp2_with fail
      go_ret
      exact ⟨rfl, (Below.refl _ _).alloc (Nat.le_refl _) _⟩
theorem fits_kd (x : List UInt8) (c : UInt8) (hx : x ≠ []) (hs : x ≠ [42]) : (if kindOf x = 2 then true else if kindOf x = 3 then (within c (setOf x) != notOf x) else decide (byteP x = c)) = Txt.fits x c := by
  unfold kindOf Txt.fits
  rw [if_neg hs]
  by_cases h63 : x = [63]
  · rw [if_pos h63, if_pos rfl, if_pos h63]
  · rw [if_neg h63, if_neg h63]
    by_cases hl : x.length ≤ 2
    · rw [if_pos hl, if_pos hl, if_neg (by decide), if_neg (by decide)]
      unfold byteP
      rw [if_neg (by omega)]
      cases hlast : x.getLast? with
      | none => exact absurd (List.getLast?_eq_none_iff.1 hlast) hx
      | some d => simp
    · rw [if_neg hl, if_neg hl, if_neg (by decide), if_pos rfl]
      unfold setOf
      rw [if_neg hl]
      by_cases hn : x[1]? = some 33 ∧ 3 < x.length
      · have : notOf x = true := by unfold notOf; exact decide_eq_true hn
        rw [if_pos hn, this, if_pos rfl]
        simp
      · have : notOf x = false := by unfold notOf; exact decide_eq_false hn
        rw [if_neg hn, this, if_neg (by simp)]
        simp
theorem setOf_len (x : List UInt8) : (setOf x).length ≤ x.length := by
  unfold setOf
  split
  · simp
  · split
    · rw [List.length_take, List.length_drop]; omega
    · rw [List.length_take, List.length_drop]; omega
theorem kindOf_lt (x : List UInt8) : kindOf x ≤ 3 := by unfold kindOf; split; omega; split; omega; split <;> omega

/-- The slice (A, length of l, cap) reads as what the reference keeps of these parts. -/
structure PRow (w : World) (A : Option Addr) (cap : Nat) (l : List (List UInt8)) : Prop where
  le : l.length ≤ cap
  big : cap ≤ 9223372036854775807
  cell : ∀ (k : Nat) (x : List UInt8), l[k]? = some x → ∃ g, A = some ⟨g, 0, none⟩ ∧ ∀ (f : Nat) (u : Value), (cellsP x)[f]? = some u → w.cell? ⟨g, k * 5 + f, none⟩ = some u
theorem PRow.on {w w' : World} {A : Option Addr} {cap : Nat} {l : List (List UInt8)} (h : PRow w A cap l) (hb : Below w.heap.size w w') : PRow w' A cap l := by
  refine ⟨h.le, h.big, fun k x hx => ?_⟩
  obtain ⟨g, hA, hc⟩ := h.cell k x hx
  refine ⟨g, hA, fun f u hu => ?_⟩
  have := hc f u hu
  rw [hb.cell (lt_of_cell this)]
  exact this
theorem cellsP_len (x : List UInt8) : (cellsP x).length = 5 := rfl
theorem flat_at (l : List (List UInt8)) (k : Nat) (x : List UInt8) (hx : l[k]? = some x) (f : Nat) (u : Value) (hu : (cellsP x)[f]? = some u) : (l.flatMap cellsP)[k * 5 + f]? = some u := by
  have hf : f < 5 := (List.getElem?_eq_some_iff.1 hu).1
  induction l generalizing k with
  | nil => simp at hx
  | cons y l ih =>
    rw [List.flatMap_cons]
    cases k with
    | zero =>
      simp only [List.getElem?_cons_zero, Option.some.injEq] at hx
      subst hx
      rw [Nat.zero_mul, Nat.zero_add, List.getElem?_append_left (by rw [cellsP_len]; exact hf)]
      exact hu
    | succ k =>
      rw [List.getElem?_append_right (by rw [cellsP_len]; omega), cellsP_len, show (k + 1) * 5 + f - 5 = k * 5 + f by omega]
      exact ih k (by simpa using hx)
theorem prow_of {B : Nat} {v : Value} {l : List (List UInt8)} {w : World} (h : w.ownsRow B 56 5 v l.length (l.flatMap cellsP)) : ∃ A cap, v = .slice A l.length cap ∧ PRow w A cap l := by
  rcases h.2 with ⟨hv, h0⟩ | ⟨g, cap, cur, hv, _, _, h1, h2, _, _⟩
  · have : l = [] := List.eq_nil_of_length_eq_zero h0
    subst this
    exact ⟨none, 0, hv, by simp, by omega, fun k x hx => by simp at hx⟩
  · have hc := World.ownsRow.cells h (g := g) (by rw [hv]; rfl)
    refine ⟨some ⟨g, 0, none⟩, cap, hv, h1, by unfold maxLen at h2; omega, fun k x hx => ⟨g, rfl, fun f u hu => ?_⟩⟩
    have := hc (k * 5 + f) u (flat_at l k x hx f u hu)
    rw [Lib.add_plain, Nat.zero_add] at this
    exact this
theorem magic_kd (x : List UInt8) : magicPart x = decide (kindOf x ≠ 0) := by
  unfold magicPart kindOf
  by_cases h1 : x = [42]
  · rw [if_pos h1]; simp [h1]
  · rw [if_neg h1]
    by_cases h2 : x = [63]
    · rw [if_pos h2]; simp [h2]
    · rw [if_neg h2]
      by_cases h3 : x.length ≤ 2
      · rw [if_pos h3]; simp [h1, h2]; omega
      · rw [if_neg h3]; simp; omega

set_option maxHeartbeats 1000000 in
set_option maxRecDepth 100000 in
theorem magicR_c (p : List UInt8) (hp : p.length ≤ 1000000) (w : World) :
    Calls Tryz.prog 23 #[.string ⟨p.toArray⟩] w fun e w' => e = .returned (.bool (magic p)) ∧ Below w.heap.size w w' := by
  go_enter Tryz.func23, Tryz.ntmps23
  go_wp2_with fail
  refine (partsR_c p hp _).mono ?_
  rintro e w1 ⟨v, rfl, hown, hb1⟩
  obtain ⟨A, cap, rfl, hP⟩ := prow_of hown
  have hpl := parts_len p
  clear hown
  go_wp2_with fail
  go_loopg [4] (parts p).length (fun g i wr => ∃ k : Nat, k ≤ (parts p).length ∧ g = (parts p).length - k ∧ i = .int .i64 k ∧ Hid (((parts p).take k).any magicPart = false) ∧ PRow wr A cap (parts p) ∧ Below w.heap.size w wr)
  case atStart => exact ⟨0, Nat.zero_le _, rfl, rfl, Lib.hid rfl, hP, hb1⟩
  case round =>
    obtain ⟨k, hk, rfl, rfl, HA, hPk, hbk⟩ := hrel
    clear hP hb1
    by_cases hlt : k < (parts p).length
    · obtain ⟨x, hx⟩ : ∃ x, (parts p)[k]? = some x := ⟨(parts p)[k], List.getElem?_eq_getElem hlt⟩
      obtain ⟨g, rfl, hc⟩ := hPk.cell k x hx
      have hcell : wr.cell? ⟨g, k * 5, none⟩ = some (.int .i64 (kindOf x)) := hc 0 _ rfl
      have HX := Lib.hid hx
      have hkd := magic_kd x
      clear hx hc
      by_cases h0 : kindOf x = 0
      · have b0 : ((kindOf x : Int) != 0) = false := by rw [h0]; rfl
        have HN := Lib.hid (any_take magicPart (parts p) k x HX.out HA.out (by rw [hkd, h0]; rfl))
        clear h0 hkd
        go_wp2_with fail
        go_roundg ((parts p).length - (k + 1))
        case measure => omega
        case rel => exact ⟨k + 1, by omega, rfl, by go_num, HN, hPk, hbk⟩
      · have b0 : ((kindOf x : Int) != 0) = true := by rw [bne_iff_ne]; omega
        have HR := Lib.hid (show magic p = true from any_hit magicPart _ k _ HX.out (by rw [hkd]; exact decide_eq_true h0))
        clear h0 hkd
        go_wp2_with fail
        go_ret
        exact ⟨ret_bool HR.out.symm, hbk⟩
    · have HR := Lib.hid (show magic p = false by
        have := HA.out
        rw [List.take_of_length_le (by omega)] at this
        exact this)
      go_wp2_with fail
      go_ret
      exact ⟨ret_bool HR.out.symm, hbk⟩

theorem plain_kd (x : List UInt8) : plainPart x = if kindOf x = 0 ∧ x.length = 2 then x.drop 1 else x := by
  unfold plainPart
  by_cases h : x.length = 2
  · have h1 : x ≠ [42] := by rintro rfl; simp at h
    have h2 : x ≠ [63] := by rintro rfl; simp at h
    have : kindOf x = 0 := by unfold kindOf; rw [if_neg h1, if_neg h2, if_pos (by omega)]
    rw [if_pos h, if_pos ⟨this, h⟩]
  · rw [if_neg h, if_neg (fun h' => h h'.2)]

set_option maxHeartbeats 1000000 in
set_option maxRecDepth 100000 in
theorem plainR_c (p : List UInt8) (hp : p.length ≤ 1000000) (w : World) :
    Calls Tryz.prog 25 #[.string ⟨p.toArray⟩] w fun e w' => e = .returned (.string ⟨(plain p).toArray⟩) ∧ Below w.heap.size w w' := by
  go_enter Tryz.func25, Tryz.ntmps25
  go_wp2_with fail
  refine (partsR_c p hp _).mono ?_
  rintro e w1 ⟨v, rfl, hown, hb1⟩
  obtain ⟨A, cap, rfl, hP⟩ := prow_of hown
  have hpl := parts_len p
  clear hown
  go_wp2_with fail
  go_loopg [4, 5] (parts p).length (fun g o i wr => ∃ k : Nat, k ≤ (parts p).length ∧ g = (parts p).length - k ∧ i = .int .i64 k ∧ o = .string ⟨(((parts p).take k).flatMap plainPart).toArray⟩ ∧ PRow wr A cap (parts p) ∧ Below w.heap.size w wr)
  case atStart => exact ⟨0, Nat.zero_le _, rfl, rfl, rfl, hP, hb1⟩
  case round =>
    obtain ⟨k, hk, rfl, rfl, rfl, hPk, hbk⟩ := hrel
    clear hP hb1
    have hle1 := plain_take_le p (k + 1)
    by_cases hlt : k < (parts p).length
    · obtain ⟨x, hx⟩ : ∃ x, (parts p)[k]? = some x := ⟨(parts p)[k], List.getElem?_eq_getElem hlt⟩
      have HT := Lib.hid (flatMap_take_succ plainPart (parts p) k x hx)
      rw [HT.out, List.length_append] at hle1
      have hxs := parts_sub p x (List.mem_of_getElem? hx)
      obtain ⟨g, rfl, hc⟩ := hPk.cell k x hx
      have hcell : wr.cell? ⟨g, k * 5, none⟩ = some (.int .i64 (kindOf x)) := hc 0 _ rfl
      have hcell4 := hc 4 _ rfl
      have hkd := plain_kd x
      obtain ⟨acc, hacc⟩ : ∃ acc, acc = ((parts p).take k).flatMap plainPart := ⟨_, rfl⟩
      rw [← hacc] at HT hle1 ⊢
      clear hx hc hacc
      by_cases h0 : kindOf x = 0
      · have b0 : ((kindOf x : Int) == 0) = true := by rw [h0]; rfl
        by_cases h2 : x.length = 2
        · have b2 : ((x.length : Int) == 2) = true := by rw [h2]; rfl
          have HQ := Lib.hid (show plainPart x = x.drop 1 by rw [hkd, if_pos ⟨h0, h2⟩])
          rw [HQ.out, List.length_drop] at hle1
          have hx1 : 1 ≤ x.length := by omega
          have hd := ba_drop x 1
          clear h0 h2 hkd
          go_wp2_with fail
          go_roundg ((parts p).length - (k + 1))
          case measure => omega
          case rel => exact ⟨k + 1, by omega, rfl, by go_num, by rw [HT.out, HQ.out, List.drop_one]; exact congrArg Value.string (str_add _ _), hPk, hbk⟩
        · have b2 : ((x.length : Int) == 2) = false := beq_no (by omega)
          have HQ := Lib.hid (show plainPart x = x by rw [hkd, if_neg (fun h => h2 h.2)])
          rw [HQ.out] at hle1
          clear h0 h2 hkd
          go_wp2_with fail
          go_roundg ((parts p).length - (k + 1))
          case measure => omega
          case rel => exact ⟨k + 1, by omega, rfl, by go_num, by rw [HT.out, HQ.out]; exact congrArg Value.string (str_add _ _), hPk, hbk⟩
      · have b0 : ((kindOf x : Int) == 0) = false := beq_no (by omega)
        have HQ := Lib.hid (show plainPart x = x by rw [hkd, if_neg (fun h => h0 h.1)])
        rw [HQ.out] at hle1
        clear h0 hkd
        go_wp2_with fail
        go_roundg ((parts p).length - (k + 1))
        case measure => omega
        case rel => exact ⟨k + 1, by omega, rfl, by go_num, by rw [HT.out, HQ.out]; exact congrArg Value.string (str_add _ _), hPk, hbk⟩
    · obtain rfl : k = (parts p).length := by omega
      go_wp2_with fail
      go_ret
      exact ⟨ret_str (by unfold plain; rw [List.take_length]), hbk⟩
end Go.Proofs.YtanjmljlpdhlnaaGreatDoor
