/-
  strconv.ParseUint at two bytes, base 16 and 8 bits: the number of the two digits, or 0 and an error; of what was there nothing has turned.
-/
import Derived.Test.YthibikdnoogfoaaGreatDoorWords
import Derived.Test.YthibikdnoogfoaaGreatDoorTSize
import Derived.Lib.ConvBytes
import Derived.Lib.AtoiErrMem
import Derived.BigCall
import Derived.BigGuard
import Derived.Deep.LoopGhost
namespace Go.Proofs.YthibikdnoogfoaaGreatDoor
open Go Go.RowKit Go.Sort Wire Txt

theorem bits_low : ∀ n : Nat, n < 256 → bits .or .u8 (n : Int) 32 = (((UInt8.ofNat n) ||| 32).toNat : Int) := by decide +kernel
theorem lower_c (c : UInt8) (w : World) : Calls Tryz.prog 137 #[.int .u8 c.toNat] w fun e w' => e = .returned (.int .u8 (lowr c)) ∧ w = w' :=
  (Tryz.internal_strconv_lower c.toNat w).mono fun e w' ⟨he, hw⟩ => ⟨by rw [he, bits_low c.toNat c.toNat_lt]; simp [lowr], hw.symm⟩
theorem low_us : ∀ n, n < 256 → n = 95 → ((UInt8.ofNat n) ||| 32).toNat = 127 := by decide +kernel
theorem lowr_us (c : UInt8) (h : c.toNat = 95) : lowr c = 127 := by
  have := low_us c.toNat c.toNat_lt h
  simpa [lowr] using this
theorem lowr_lt (c : UInt8) : lowr c < 256 := (c ||| 32).toNat_lt
theorem hexv_lt (c : UInt8) (d : Nat) (h : hexv c = some d) : d < 16 := by
  unfold hexv at h
  split at h
  · injection h; omega
  · split at h
    · injection h; omega
    · cases h

/-- How far ParseUint has come: behind k of the two bytes it holds n. -/
def HexAt (a b : UInt8) (k : Nat) (n : Nat) : Prop := (k = 0 ∧ n = 0) ∨ (k = 1 ∧ hexv a = some n) ∨ (k = 2 ∧ ∃ x y, hexv a = some x ∧ hexv b = some y ∧ n = x * 16 + y)
theorem HexAt.next {a b : UInt8} {k n : Nat} (h : HexAt a b k n) (hk : k < 2) (d : Nat) (hd : hexv (if k = 0 then a else b) = some d) : HexAt a b (k + 1) (n * 16 + d) ∧ n < 16 ∧ d < 16 := by
  have hdl := hexv_lt _ d hd
  rcases h with ⟨rfl, rfl⟩ | ⟨rfl, h⟩ | ⟨rfl, _⟩
  · rw [if_pos rfl] at hd
    exact ⟨Or.inr (Or.inl ⟨rfl, by rw [hd]; simp⟩), by omega, hdl⟩
  · rw [if_neg (by omega)] at hd
    exact ⟨Or.inr (Or.inr ⟨rfl, n, d, h, hd, rfl⟩), hexv_lt _ n h, hdl⟩
  · omega
theorem HexAt.no {a b : UInt8} {k n : Nat} (h : HexAt a b k n) (hk : k < 2) (hd : hexv (if k = 0 then a else b) = none) : hexv a = none ∨ hexv b = none := by
  rcases h with ⟨rfl, rfl⟩ | ⟨rfl, h⟩ | ⟨rfl, _⟩
  · rw [if_pos rfl] at hd; exact Or.inl hd
  · rw [if_neg (by omega)] at hd; exact Or.inr hd
  · omega
theorem HexAt.lt {a b : UInt8} {k n : Nat} (h : HexAt a b k n) (hk : k < 2) : n < 16 := by
  rcases h with ⟨rfl, rfl⟩ | ⟨rfl, h⟩ | ⟨rfl, _⟩
  · omega
  · exact hexv_lt _ n h
  · omega
theorem HexAt.end {a b : UInt8} {n : Nat} (h : HexAt a b 2 n) : hexp a b = n ∧ n < 256 := by
  rcases h with ⟨h, _⟩ | ⟨h, _⟩ | ⟨_, x, y, hx, hy, rfl⟩
  · omega
  · omega
  · have := hexv_lt a x hx
    have := hexv_lt b y hy
    exact ⟨by unfold hexp; rw [hx, hy], by omega⟩
theorem hexp_none {a b : UInt8} (h : hexv a = none ∨ hexv b = none) : hexp a b = 0 := by
  unfold hexp
  rcases h with h | h
  · rw [h]
  · rw [h]
    cases hexv a <;> rfl
/-- What ParseUint of package internal/strconv returns. -/
def IHex (a b : UInt8) (w : World) (e : Ending) (w' : World) : Prop :=
  ((e = .returned (.tuple #[.int .u64 (hexp a b), .nilIface]) ∧ hexp a b < 256) ∨ (e = .returned (.tuple #[.int .u64 0, .iface 96 (.int .i64 2)]) ∧ hexp a b = 0)) ∧ Below w.heap.size w w'

set_option maxHeartbeats 4000000 in
set_option maxRecDepth 100000 in
theorem iParse_c (a b : UInt8) (w : World) :
    Calls Tryz.prog 125 #[.string ⟨#[a, b]⟩, .int .i64 16, .int .i64 8] w (IHex a b w) := by
  have hcv := Lib.run_convert_string_bytes (P := Tryz.prog) w 9 45 5 ⟨#[a, b]⟩ Tryz.underlying9 Tryz.underlying45 Tryz.underlying5
  have hB0 : (Lib.bytesWorld w 5 ⟨#[a, b]⟩).cell? ⟨w.heap.size, 0, none⟩ = some (.int .u8 a.toNat) := Lib.bytesWorld_cell w 5 ⟨#[a, b]⟩ 0 (by show 0 < 2; omega)
  have hB1 : (Lib.bytesWorld w 5 ⟨#[a, b]⟩).cell? ⟨w.heap.size, 1, none⟩ = some (.int .u8 b.toNat) := Lib.bytesWorld_cell w 5 ⟨#[a, b]⟩ 1 (by show 1 < 2; omega)
  have hbel := Lib.bytesWorld_below w 5 ⟨#[a, b]⟩
  obtain ⟨W1, hW1⟩ : ∃ W1, W1 = Lib.bytesWorld w 5 ⟨#[a, b]⟩ := ⟨_, rfl⟩
  rw [← hW1] at hcv hB0 hB1 hbel
  clear hW1
  have hmv : IntKind.u64.wrap (IntKind.u64.wrap 256 - 1) = 255 := by
    rw [IntKind.wrap_u64, IntKind.wrap_u64]
    decide
  go_enter Tryz.func125, Tryz.ntmps125
  go_wp2_with fail
  obtain ⟨C, hC⟩ : ∃ C : Int, C = 1152921504606846976 := ⟨_, rfl⟩
  have hC16 : 16 ≤ C := by omega
  rw [← hC]
  clear hC
  go_loopg [12, 13, 101] 2 (fun g vu vn vi wr => ∃ k n : Nat, k ≤ 2 ∧ g = 2 - k ∧ vu = .bool false ∧ vn = .int .u64 n ∧ vi = .int .i64 k ∧ Hid (HexAt a b k n) ∧ W1 = wr)
  case atStart => exact ⟨0, 0, by omega, rfl, rfl, rfl, rfl, Lib.hid (Or.inl ⟨rfl, rfl⟩), rfl⟩
  case round =>
    obtain ⟨k, n, hk, rfl, rfl, rfl, rfl, HA, rfl⟩ := hrel
    clear hcv
    by_cases hlt : k < 2
    · have hn := HA.out.lt hlt
      obtain ⟨c, hc⟩ : ∃ c, c = if k = 0 then a else b := ⟨_, rfl⟩
      have hcell : W1.cell? ⟨w.heap.size, k, none⟩ = some (.int .u8 c.toNat) := by
        by_cases h0 : k = 0
        · subst h0; rw [hc]; exact hB0
        · have : k = 1 := by omega
          subst this; rw [hc]; exact hB1
      have HNX := Lib.hid (fun d (h : hexv c = some d) => HA.out.next hlt d (by rw [← hc]; exact h))
      have HNO := Lib.hid (fun (h : hexv c = none) => hexp_none (HA.out.no hlt (by rw [← hc]; exact h)))
      have hcl := c.toNat_lt
      have hll := lowr_lt c
      have hn0 : (0 : Int) ≤ n := by omega
      have hn1 : (n : Int) ≤ 15 := by omega
      have hnC : ¬ C ≤ (n : Int) := by omega
      clear hc hB0 hB1
      by_cases h1 : 48 ≤ c.toNat ∧ c.toNat ≤ 57
      · have HN := Lib.hid (HNX.out (c.toNat - 48) (by unfold hexv; rw [if_pos h1]))
        obtain ⟨h48, h57⟩ := h1
        have b95 : ((c.toNat : Int) == 95) = false := beq_no (by omega)
        go_wp2_with fail
        go_roundg (2 - (k + 1))
        case measure => omega
        case rel => exact ⟨k + 1, n * 16 + (c.toNat - 48), by omega, rfl, rfl, congrArg (Value.int .u64) (by omega), by go_num, Lib.hid HN.out.1, rfl⟩
      · have hd : ¬ (48 ≤ (c.toNat : Int) ∧ (c.toNat : Int) ≤ 57) := by omega
        by_cases h2 : 97 ≤ lowr c ∧ lowr c ≤ 102
        · have HN := Lib.hid (HNX.out (lowr c - 87) (by unfold hexv; rw [if_neg h1, if_pos h2]))
          have b95 : ((c.toNat : Int) == 95) = false := beq_no (by intro e; have := lowr_us c (by omega); omega)
          obtain ⟨h97, h102⟩ := h2
          by_cases hlo : 48 ≤ c.toNat
          · have hhi : ¬ c.toNat ≤ 57 := by omega
            clear h1 hd
            go_wp2_with fail
            refine (lower_c c _).mono ?_
            rintro e w9 ⟨rfl, rfl⟩
            go_wp2_with fail
            refine (lower_c c _).mono ?_
            rintro e w9 ⟨rfl, rfl⟩
            go_wp2_with fail
            refine (lower_c c _).mono ?_
            rintro e w9 ⟨rfl, rfl⟩
            go_wp2_with fail
            go_roundg (2 - (k + 1))
            case measure => omega
            case rel => exact ⟨k + 1, n * 16 + (lowr c - 87), by omega, rfl, rfl, congrArg (Value.int .u64) (by omega), by go_num, Lib.hid HN.out.1, rfl⟩
          · clear h1 hd
            go_wp2_with fail
            refine (lower_c c _).mono ?_
            rintro e w9 ⟨rfl, rfl⟩
            go_wp2_with fail
            refine (lower_c c _).mono ?_
            rintro e w9 ⟨rfl, rfl⟩
            go_wp2_with fail
            refine (lower_c c _).mono ?_
            rintro e w9 ⟨rfl, rfl⟩
            go_wp2_with fail
            go_roundg (2 - (k + 1))
            case measure => omega
            case rel => exact ⟨k + 1, n * 16 + (lowr c - 87), by omega, rfl, rfl, congrArg (Value.int .u64) (by omega), by go_num, Lib.hid HN.out.1, rfl⟩
        · have HZ := Lib.hid (HNO.out (by unfold hexv; rw [if_neg h1, if_neg h2]))
          by_cases h3 : 97 ≤ lowr c ∧ lowr c ≤ 122
          · have b95 : ((c.toNat : Int) == 95) = false := beq_no (by intro e; have := lowr_us c (by omega); omega)
            obtain ⟨h97, h122⟩ := h3
            have h103 : 103 ≤ lowr c := by omega
            by_cases hlo : 48 ≤ c.toNat
            · have hhi : ¬ c.toNat ≤ 57 := by omega
              clear h1 hd h2
              go_wp2_with fail
              refine (lower_c c _).mono ?_
              rintro e w9 ⟨rfl, rfl⟩
              go_wp2_with fail
              refine (lower_c c _).mono ?_
              rintro e w9 ⟨rfl, rfl⟩
              go_wp2_with fail
              refine (lower_c c _).mono ?_
              rintro e w9 ⟨rfl, rfl⟩
              go_wp2_with fail
              go_ret2
              exact ⟨Or.inr ⟨rfl, HZ.out⟩, hbel⟩
            · clear h1 hd h2
              go_wp2_with fail
              refine (lower_c c _).mono ?_
              rintro e w9 ⟨rfl, rfl⟩
              go_wp2_with fail
              refine (lower_c c _).mono ?_
              rintro e w9 ⟨rfl, rfl⟩
              go_wp2_with fail
              refine (lower_c c _).mono ?_
              rintro e w9 ⟨rfl, rfl⟩
              go_wp2_with fail
              go_ret2
              exact ⟨Or.inr ⟨rfl, HZ.out⟩, hbel⟩
          · by_cases h97 : 97 ≤ lowr c
            · have h122 : ¬ lowr c ≤ 122 := by omega
              by_cases hus : c.toNat = 95
              · have b95 : ((c.toNat : Int) == 95) = true := by rw [hus]; rfl
                have hhi : ¬ c.toNat ≤ 57 := by omega
                have hlo : 48 ≤ c.toNat := by omega
                clear h1 hd h2 h3 hus
                go_wp2_with fail
                refine (lower_c c _).mono ?_
                rintro e w9 ⟨rfl, rfl⟩
                go_wp2_with fail
                refine (lower_c c _).mono ?_
                rintro e w9 ⟨rfl, rfl⟩
                go_wp2_with fail
                go_ret2
                exact ⟨Or.inr ⟨rfl, HZ.out⟩, hbel⟩
              · have b95 : ((c.toNat : Int) == 95) = false := beq_no (by omega)
                clear hus
                by_cases hlo : 48 ≤ c.toNat
                · have hhi : ¬ c.toNat ≤ 57 := by omega
                  clear h1 hd h2 h3
                  go_wp2_with fail
                  refine (lower_c c _).mono ?_
                  rintro e w9 ⟨rfl, rfl⟩
                  go_wp2_with fail
                  refine (lower_c c _).mono ?_
                  rintro e w9 ⟨rfl, rfl⟩
                  go_wp2_with fail
                  go_ret2
                  exact ⟨Or.inr ⟨rfl, HZ.out⟩, hbel⟩
                · clear h1 hd h2 h3
                  go_wp2_with fail
                  refine (lower_c c _).mono ?_
                  rintro e w9 ⟨rfl, rfl⟩
                  go_wp2_with fail
                  refine (lower_c c _).mono ?_
                  rintro e w9 ⟨rfl, rfl⟩
                  go_wp2_with fail
                  go_ret2
                  exact ⟨Or.inr ⟨rfl, HZ.out⟩, hbel⟩
            · have b95 : ((c.toNat : Int) == 95) = false := beq_no (by intro e; have := lowr_us c (by omega); omega)
              by_cases hlo : 48 ≤ c.toNat
              · have hhi : ¬ c.toNat ≤ 57 := by omega
                clear h1 hd h2 h3
                go_wp2_with fail
                refine (lower_c c _).mono ?_
                rintro e w9 ⟨rfl, rfl⟩
                go_wp2_with fail
                go_ret2
                exact ⟨Or.inr ⟨rfl, HZ.out⟩, hbel⟩
              · clear h1 hd h2 h3
                go_wp2_with fail
                refine (lower_c c _).mono ?_
                rintro e w9 ⟨rfl, rfl⟩
                go_wp2_with fail
                go_ret2
                exact ⟨Or.inr ⟨rfl, HZ.out⟩, hbel⟩
    · obtain rfl : k = 2 := by omega
      have HE := Lib.hid HA.out.end
      clear hB0 hB1
      go_wp2_with fail
      go_ret2
      exact ⟨Or.inl ⟨(congrArg (fun m : Nat => Ending.returned (.tuple #[.int .u64 (m : Int), .nilIface])) HE.out.1).symm, by rw [HE.out.1]; exact HE.out.2⟩, hbel⟩
end Go.Proofs.YthibikdnoogfoaaGreatDoor
