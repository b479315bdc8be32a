/-
  The reference's Quote, digit and Unquote: each returns what chapter 2 says; of what was there nothing has turned.
-/
import Derived.Test.YthibikdnoogfoaaGreatDoorTRefB
import Derived.Laws.BytesArg
import Derived.Deep.RegionHeld3
import Derived.Deep.RegionLaw
import Derived.Deep.AppendLies
import Derived.Deep.DrawnRows
namespace Go.Proofs.YthibikdnoogfoaaGreatDoor
open Go Go.RowKit Go.Sort Wire Txt

/-! ### A row of bytes of the call's own -/
def OwnBytes (B : Nat) (v : Value) (l : List UInt8) (w : World) : Prop := w.ownsRow B 5 1 v l.length (Lib.byteCells l)
theorem OwnBytes.on {B : Nat} {v : Value} {l : List UInt8} {w w' : World} (h : OwnBytes B v l w) (hb : Below w.heap.size w w') : OwnBytes B v l w' := owned_on h hb
theorem cells_at (w : World) (cs : Array Value) (T : TypeId) (j : Nat) (u : Value) (h : cs.toList[j]? = some u) : (w.alloc (.cells cs T)).cell? ((⟨w.heap.size, 0, none⟩ : Addr).add j) = some u := by
  rw [Lib.add_plain, Lib.cell_of_heap (heap_alloc_new w _), Nat.zero_add]
  simpa using h
theorem bytes_one (l : List UInt8) : ∀ u ∈ Lib.byteCells l, u.oneCell' = true := by
  intro u hu
  obtain ⟨x, _, rfl⟩ := List.mem_map.1 hu
  rfl
theorem conv_own {B : Nat} {v : Value} {l : List UInt8} {w : World} (h : OwnBytes B v l w) : (convert 45 9 v).run Tryz.prog w = .ok (.string ⟨l.toArray⟩) w := by
  rcases h.2 with ⟨hv, h0⟩ | ⟨g, cap, cur, hv, _⟩
  · have : l = [] := List.eq_nil_of_length_eq_zero h0
    subst this
    rw [hv]
    exact run_convert_bytes_string w _ _ 5 none 0 0 Tryz.underlying45 Tryz.underlying5 Tryz.underlying9
  · have hc := World.ownsRow.cells h (g := g) (by rw [hv]; rfl)
    rw [hv]
    exact run_convert_bytes_back (P := Tryz.prog) w 45 9 5 ⟨g, 0, none⟩ cap l Tryz.underlying45 Tryz.underlying5 Tryz.underlying9 (fun j hj => hc j _ (by simp [Lib.byteCells, hj]))

theorem wrap_u8 (n : Nat) (h : n < 256) : IntKind.u8.wrap (n : Int) = n := by
  unfold IntKind.wrap
  simp [IntKind.signed, IntKind.bits]
  omega
theorem wrap_u8_div (c : UInt8) : IntKind.u8.wrap ((c.toNat : Int) / 16) = (c.toNat : Int) / 16 := by
  have := c.toNat_lt
  rw [show (c.toNat : Int) / 16 = ((c.toNat / 16 : Nat) : Int) by omega]
  exact wrap_u8 _ (by omega)
theorem wrap_u8_mod (c : UInt8) : IntKind.u8.wrap ((c.toNat : Int).tmod 16) = (c.toNat : Int) % 16 := by
  have := c.toNat_lt
  rw [Int.tmod_eq_emod_of_nonneg (by omega), show (c.toNat : Int) % 16 = ((c.toNat % 16 : Nat) : Int) by omega]
  exact wrap_u8 _ (by omega)

theorem dig_z {z : Int} {k : Nat} (hz : z.toNat = k) (hk : k < 16) (h : z.toNat < (⟨#[48, 49, 50, 51, 52, 53, 54, 55, 56, 57, 97, 98, 99, 100, 101, 102]⟩ : ByteArray).size) : (⟨#[48, 49, 50, 51, 52, 53, 54, 55, 56, 57, 97, 98, 99, 100, 101, 102]⟩ : ByteArray)[z.toNat]'h = hexd k := by
  subst hz
  exact dig_at _ hk
theorem news_hex {z1 z2 : Int} {k1 k2 : Nat} (e1 : z1.toNat = k1) (h1 : k1 < 16) (e2 : z2.toNat = k2) (h2 : k2 < 16) {g1 : z1.toNat < (⟨#[48, 49, 50, 51, 52, 53, 54, 55, 56, 57, 97, 98, 99, 100, 101, 102]⟩ : ByteArray).size} {g2 : z2.toNat < (⟨#[48, 49, 50, 51, 52, 53, 54, 55, 56, 57, 97, 98, 99, 100, 101, 102]⟩ : ByteArray).size} :
    (#[Value.int .u8 92, .int .u8 120, .int .u8 ((⟨#[48, 49, 50, 51, 52, 53, 54, 55, 56, 57, 97, 98, 99, 100, 101, 102]⟩ : ByteArray)[z1.toNat]'g1).toNat, .int .u8 ((⟨#[48, 49, 50, 51, 52, 53, 54, 55, 56, 57, 97, 98, 99, 100, 101, 102]⟩ : ByteArray)[z2.toNat]'g2).toNat] : Array Value).toList = Lib.byteCells [92, 120, hexd k1, hexd k2] := by
  rw [dig_z e1 h1 g1, dig_z e2 h2 g2]
  rfl

attribute [local go_sem ↓] Go.wp_at_zero Go.wp_at_succ
set_option maxHeartbeats 2000000 in
set_option maxRecDepth 100000 in
theorem quoteR_c (l : List UInt8) (hl : l.length ≤ 1000000000) (w : World) :
    Calls Tryz.prog 52 #[.string ⟨l.toArray⟩] w fun e w' => e = .returned (.string ⟨(quote l).toArray⟩) ∧ Below w.heap.size w w' := by
  obtain ⟨i0, hi, hz0, hz1, hz2⟩ := info_parts infoByte
  go_enter Tryz.func52, Tryz.ntmps52
  go_wp2_with fail
  go_loopg [3, 4] l.length (fun g v i wr => ∃ k : Nat, k ≤ l.length ∧ g = l.length - k ∧ i = .int .i64 k ∧ OwnBytes w.heap.size v ([34] ++ (l.take k).flatMap qb) wr ∧ Below w.heap.size w wr)
  case atStart => exact ⟨0, Nat.zero_le _, rfl, rfl, World.ownsRow_lit w #[.int .u8 34] 1 (Nat.le_refl _) (by unfold maxLen; omega) rfl, (Below.refl _ _).alloc (Nat.le_refl _) _⟩
  case round =>
    obtain ⟨k, hk, rfl, rfl, hown, hb⟩ := hrel
    have hle := flatMap_len qb 4 (fun c => (qb_len c).2) (l.take k)
    have hlt' : (l.take k).length ≤ l.length := by rw [List.length_take]; omega
    have hz := hb.size
    obtain ⟨acc, hacc⟩ : ∃ acc, acc = [34] ++ (l.take k).flatMap qb := ⟨_, rfl⟩
    have hal : acc.length ≤ 4 * l.length + 1 := by rw [hacc, List.length_append, List.length_singleton]; omega
    rw [← hacc] at hown
    by_cases hlt : k < l.length
    · obtain ⟨c, hc⟩ : ∃ c, l[k]? = some c := ⟨l[k], List.getElem?_eq_getElem hlt⟩
      have ei := at_k l k c hc (by rw [ba_size]; exact hlt)
      have HT := Lib.hid (show [34] ++ (l.take (k + 1)).flatMap qb = acc ++ qb c by rw [take_flat qb l k c hc, hacc, List.append_assoc])
      have hcl := c.toNat_lt
      clear hc hacc hle hlt'
      by_cases h1 : c.toNat = 34 ∨ c.toNat = 92
      · have HQ := Lib.hid (show qb c = [92, c] by unfold qb; rw [if_pos h1])
        rcases h1 with h | h
        · have b34 : ((c.toNat : Int) == 34) = true := by rw [h]; rfl
          clear h
          go_wp2_with (at_builtin; refine wpList_append_own _ rfl _ _ 45 rfl w.heap.size 5 i0 (.int .u8 0) 1 1 Tryz.underlying45 hi hz0 hz1 hz2 rfl (by decide) _ _ _ rfl (hown.alloc _) ⟨wr.heap.size, 0, none⟩ 2 2 (Lib.byteCells [92, c]) rfl rfl ?c1 ?c2 ?c3 ?c4 ?c5 ?_)
          case c1 => exact fun j u hj => cells_at wr _ _ j u hj
          case c2 => exact bytes_one _
          case c3 => unfold maxLen; omega
          case c4 => omega
          case c5 => simp; omega
          intro v' w3 hown3 hgrow _
          have hb3 : Below w.heap.size w w3 := (hb.alloc hz _).grown hgrow (by simp; omega) (fun k hk => (hown.lt k hk).1)
          rw [← Lib.byteCells_append] at hown3
          go_wp2_with fail
          go_roundg (l.length - (k + 1))
          case measure => omega
          case rel => exact ⟨k + 1, by omega, rfl, by go_num, by rw [HT.out, HQ.out]; unfold OwnBytes; rw [List.length_append]; exact hown3, hb3⟩
        · have b34 : ((c.toNat : Int) == 34) = false := beq_no (by omega)
          have b92 : ((c.toNat : Int) == 92) = true := by rw [h]; rfl
          clear h
          go_wp2_with (at_builtin; refine wpList_append_own _ rfl _ _ 45 rfl w.heap.size 5 i0 (.int .u8 0) 1 1 Tryz.underlying45 hi hz0 hz1 hz2 rfl (by decide) _ _ _ rfl (hown.alloc _) ⟨wr.heap.size, 0, none⟩ 2 2 (Lib.byteCells [92, c]) rfl rfl ?c1 ?c2 ?c3 ?c4 ?c5 ?_)
          case c1 => exact fun j u hj => cells_at wr _ _ j u hj
          case c2 => exact bytes_one _
          case c3 => unfold maxLen; omega
          case c4 => omega
          case c5 => simp; omega
          intro v' w3 hown3 hgrow _
          have hb3 : Below w.heap.size w w3 := (hb.alloc hz _).grown hgrow (by simp; omega) (fun k hk => (hown.lt k hk).1)
          rw [← Lib.byteCells_append] at hown3
          go_wp2_with fail
          go_roundg (l.length - (k + 1))
          case measure => omega
          case rel => exact ⟨k + 1, by omega, rfl, by go_num, by rw [HT.out, HQ.out]; unfold OwnBytes; rw [List.length_append]; exact hown3, hb3⟩
      · have b34 : ((c.toNat : Int) == 34) = false := beq_no (by omega)
        have b92 : ((c.toNat : Int) == 92) = false := beq_no (by omega)
        by_cases h2 : c.toNat = 10
        · have HQ := Lib.hid (show qb c = [92, 110] by unfold qb; rw [if_neg h1, if_pos h2])
          have b10 : ((c.toNat : Int) == 10) = true := by rw [h2]; rfl
          clear h1 h2
          go_wp2_with (at_builtin; refine wpList_append_own _ rfl _ _ 45 rfl w.heap.size 5 i0 (.int .u8 0) 1 1 Tryz.underlying45 hi hz0 hz1 hz2 rfl (by decide) _ _ _ rfl (hown.alloc _) ⟨wr.heap.size, 0, none⟩ 2 2 (Lib.byteCells [92, 110]) rfl rfl ?c1 ?c2 ?c3 ?c4 ?c5 ?_)
          case c1 => exact fun j u hj => cells_at wr _ _ j u hj
          case c2 => exact bytes_one _
          case c3 => unfold maxLen; omega
          case c4 => omega
          case c5 => simp; omega
          intro v' w3 hown3 hgrow _
          have hb3 : Below w.heap.size w w3 := (hb.alloc hz _).grown hgrow (by simp; omega) (fun k hk => (hown.lt k hk).1)
          rw [← Lib.byteCells_append] at hown3
          go_wp2_with fail
          go_roundg (l.length - (k + 1))
          case measure => omega
          case rel => exact ⟨k + 1, by omega, rfl, by go_num, by rw [HT.out, HQ.out]; unfold OwnBytes; rw [List.length_append]; exact hown3, hb3⟩
        · have b10 : ((c.toNat : Int) == 10) = false := beq_no (by omega)
          by_cases h3 : c.toNat < 32 ∨ 126 < c.toNat
          · have HQ := Lib.hid (show qb c = [92, 120, hexd (c.toNat / 16), hexd (c.toNat % 16)] by unfold qb; rw [if_neg h1, if_neg h2, if_pos h3])
            have hx1 := dig_at (c.toNat / 16) (by omega)
            have hx2 := dig_at (c.toNat % 16) (by omega)
            have hq : IntKind.u8.wrap ((c.toNat : Int) / 16) = (c.toNat : Int) / 16 := wrap_u8_div c
            have q0 : (0 : Int) ≤ (c.toNat : Int) / 16 := by omega
            have q1 : (c.toNat : Int) / 16 < 16 := by omega
            have hr : (c.toNat : Int).tmod 16 = ((c.toNat % 16 : Nat) : Int) := by rw [Int.tmod_eq_emod_of_nonneg (by omega)]; omega
            have r0 : (0 : Int) ≤ (c.toNat : Int).tmod 16 := by omega
            have r1 : (c.toNat : Int).tmod 16 < 16 := by omega
            clear hr
            have hos : wr.os = w.os := hb.os
            clear h1 h2
            rcases h3 with h3 | h3
            · go_wp2_with fail
              go_region_law ((refine step_append_lies _ (by rfl) _ _ _ (by rfl) w.heap.size 5 i0 (.int .u8 0) 1 1 Tryz.underlying45 hi hz0 hz1 hz2 rfl (by decide) _ acc.length (Lib.byteCells acc) (by rfl) (World.ownsRow.drew (World.ownsRow.alloc hown _)) ⟨wr.heap.size, 0, none⟩ 4 4 _ (by rfl) (by rfl) (World.news_of_block (cs := #[_, _, _, _]) (fr := (0, 0)) (heap_alloc_new wr _)) (by simp [Value.oneCell']) (by omega) (by unfold maxLen; omega) (by omega) (by simp; omega) (wr.heap.size + 1) (by simp) ?_; intro g cap w3 hown3 hgrow hat hlt3))
              all_goals
                rw [news_hex (k1 := c.toNat / 16) (k2 := c.toNat % 16) (by omega) (by omega) (by rw [Int.tmod_eq_emod_of_nonneg (by omega)]; omega) (by omega), ← Lib.byteCells_append] at hown3
                have hb3 : Below w.heap.size w w3 := ((hb.alloc hz _).drew).grown hgrow (by simp; omega) (fun k hk => (hown.lt k hk).1)
                clear hgrow hat
                go_wp2_with fail
                go_roundg (l.length - (k + 1))
                case measure => omega
                case rel => exact ⟨k + 1, by omega, rfl, by go_num, by rw [HT.out, HQ.out]; unfold OwnBytes; rw [List.length_append]; exact hown3, hb3⟩
            · have h32 : ¬ c.toNat < 32 := by omega
              go_wp2_with fail
              go_region_law ((refine step_append_lies _ (by rfl) _ _ _ (by rfl) w.heap.size 5 i0 (.int .u8 0) 1 1 Tryz.underlying45 hi hz0 hz1 hz2 rfl (by decide) _ acc.length (Lib.byteCells acc) (by rfl) (World.ownsRow.drew (World.ownsRow.alloc hown _)) ⟨wr.heap.size, 0, none⟩ 4 4 _ (by rfl) (by rfl) (World.news_of_block (cs := #[_, _, _, _]) (fr := (0, 0)) (heap_alloc_new wr _)) (by simp [Value.oneCell']) (by omega) (by unfold maxLen; omega) (by omega) (by simp; omega) (wr.heap.size + 1) (by simp) ?_; intro g cap w3 hown3 hgrow hat hlt3))
              all_goals
                rw [news_hex (k1 := c.toNat / 16) (k2 := c.toNat % 16) (by omega) (by omega) (by rw [Int.tmod_eq_emod_of_nonneg (by omega)]; omega) (by omega), ← Lib.byteCells_append] at hown3
                have hb3 : Below w.heap.size w w3 := ((hb.alloc hz _).drew).grown hgrow (by simp; omega) (fun k hk => (hown.lt k hk).1)
                clear hgrow hat
                go_wp2_with fail
                go_roundg (l.length - (k + 1))
                case measure => omega
                case rel => exact ⟨k + 1, by omega, rfl, by go_num, by rw [HT.out, HQ.out]; unfold OwnBytes; rw [List.length_append]; exact hown3, hb3⟩
          · have HQ := Lib.hid (show qb c = [c] by unfold qb; rw [if_neg h1, if_neg h2, if_neg h3])
            have h32 : ¬ c.toNat < 32 := by omega
            have h126 : ¬ 126 < c.toNat := by omega
            clear h1 h2 h3
            go_wp2_with (at_builtin; refine wpList_append_own _ rfl _ _ 45 rfl w.heap.size 5 i0 (.int .u8 0) 1 1 Tryz.underlying45 hi hz0 hz1 hz2 rfl (by decide) _ _ _ rfl (hown.alloc _) ⟨wr.heap.size, 0, none⟩ 1 1 (Lib.byteCells [c]) rfl rfl ?c1 ?c2 ?c3 ?c4 ?c5 ?_)
            case c1 => exact fun j u hj => cells_at wr _ _ j u hj
            case c2 => exact bytes_one _
            case c3 => unfold maxLen; omega
            case c4 => omega
            case c5 => simp; omega
            intro v' w3 hown3 hgrow _
            have hb3 : Below w.heap.size w w3 := (hb.alloc hz _).grown hgrow (by simp; omega) (fun k hk => (hown.lt k hk).1)
            rw [← Lib.byteCells_append] at hown3
            go_wp2_with fail
            go_roundg (l.length - (k + 1))
            case measure => omega
            case rel => exact ⟨k + 1, by omega, rfl, by go_num, by rw [HT.out, HQ.out]; unfold OwnBytes; rw [List.length_append]; exact hown3, hb3⟩
    · obtain rfl : k = l.length := by omega
      have HA := Lib.hid (show quote l = acc ++ [34] by rw [hacc, List.take_length]; rfl)
      clear hacc
      go_wp2_with (at_builtin; refine wpList_append_own _ rfl _ _ 45 rfl w.heap.size 5 i0 (.int .u8 0) 1 1 Tryz.underlying45 hi hz0 hz1 hz2 rfl (by decide) _ _ _ rfl (hown.alloc _) ⟨wr.heap.size, 0, none⟩ 1 1 (Lib.byteCells [34]) rfl rfl ?c1 ?c2 ?c3 ?c4 ?c5 ?_)
      case c1 => exact fun j u hj => cells_at wr _ _ j u hj
      case c2 => exact bytes_one _
      case c3 => unfold maxLen; omega
      case c4 => omega
      case c5 => simp; omega
      intro v' w3 hown3 hgrow _
      have hb3 : Below w.heap.size w w3 := (hb.alloc hz _).grown hgrow (by simp; omega) (fun k hk => (hown.lt k hk).1)
      rw [← Lib.byteCells_append] at hown3
      have hcv := conv_own (show OwnBytes w.heap.size v' (acc ++ [34]) w3 by unfold OwnBytes; rw [List.length_append]; exact hown3)
      go_wp2_with fail
      go_ret
      exact ⟨ret_str (by rw [HA.out]), hb3⟩
end Go.Proofs.YthibikdnoogfoaaGreatDoor
