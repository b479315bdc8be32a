/-
  The reference's Unlines, Escape, closing and In: each returns what chapter 2 says; of what was there nothing has turned.
-/
import Derived.Test.YtanjmljlpdhlnaaGreatDoorTRefE
import Derived.Deep.RegionHeld3
import Derived.Deep.RegionLaw
namespace Go.Proofs.YtanjmljlpdhlnaaGreatDoor
open Go Go.RowKit Go.Sort Wire Txt

theorem own_snoc {B : Nat} {v : Value} {acc : List UInt8} {c : UInt8} {w : World} {n : Nat} (hn : n = acc.length + 1) (h : w.ownsRow B 5 1 v n (Lib.byteCells (acc ++ [c]))) : OwnBytes B v (acc ++ [c]) w := by
  subst hn
  unfold OwnBytes
  rw [List.length_append]
  exact h
theorem conv_lf (w : World) : (convert 41 9 (.slice (some ⟨w.heap.size, 0, none⟩) 1 1)).run Tryz.prog (w.alloc (.cells #[.int .u8 10] 5)).drew = .ok (.string ⟨#[10]⟩) (w.alloc (.cells #[.int .u8 10] 5)).drew := by
  have h := run_convert_bytes_back (P := Tryz.prog) (w.alloc (.cells #[.int .u8 10] 5)).drew 41 9 5 ⟨w.heap.size, 0, none⟩ 1 [10] Tryz.underlying41 Tryz.underlying5 Tryz.underlying9 (fun j hj => by
    match j, hj with
    | 0, _ =>
      show (w.alloc (.cells #[.int .u8 10] 5)).cell? _ = _
      rw [Lib.add_plain, Lib.cell_of_heap (heap_alloc_new w _)]
      rfl)
  exact h

attribute [local go_sem ↓] Go.wp_at_zero Go.wp_at_succ
set_option maxHeartbeats 2000000 in
set_option maxRecDepth 100000 in
theorem unlinesR_c (l : List (List UInt8)) (v : Value) (hbig : (unlines l).length ≤ 1000000000000) (w : World) (hv : RowAt w v (strs l)) :
    Calls Tryz.prog 17 #[v] w fun e w' => e = .returned (.string ⟨(unlines l).toArray⟩) ∧ Below w.heap.size w w' := by
  obtain ⟨h0, a, cap, rfl, hcells⟩ := hv
  have hlen : (strs l).length = l.length := by simp [strs]
  rw [hlen] at h0 ⊢
  have HC := Lib.hid hcells
  clear hcells hlen
  go_enter Tryz.func17, Tryz.ntmps17
  go_wp2_with fail
  go_loopg [3, 4] l.length (fun g o i wr => ∃ k : Nat, k ≤ l.length ∧ g = l.length - k ∧ i = .int .i64 k ∧ o = .string ⟨(unlines (l.take k)).toArray⟩ ∧ Below w.heap.size w wr)
  case atStart => exact ⟨0, Nat.zero_le _, rfl, rfl, rfl, Below.refl _ _⟩
  case round =>
    obtain ⟨k, hk, rfl, rfl, rfl, hb⟩ := hrel
    have hz := hb.size
    by_cases hlt : k < l.length
    · obtain ⟨x, hx⟩ : ∃ x, l[k]? = some x := ⟨l[k], List.getElem?_eq_getElem hlt⟩
      obtain ⟨b, off, rfl, hc⟩ := HC.out (by intro h; have := congrArg List.length h; simp [strs] at this; subst this; simp at hlt)
      have hck := hc k _ (strs_get hx)
      have hcr : wr.cell? ⟨b, off + k, none⟩ = some (.string ⟨x.toArray⟩) := by rw [hb.cell (lt_of_cell hck)]; exact hck
      have HS := Lib.hid (show unlines (l.take (k + 1)) = (unlines (l.take k) ++ x) ++ [10] by
        rw [List.append_assoc]
        exact flatMap_take_succ (fun y => y ++ [10]) l k x hx)
      have hle := flatMap_take_le (fun y => y ++ [10]) l (k + 1)
      have hle' : (unlines (l.take k)).length + (x.length + 1) ≤ 1000000000000 := by
        have h1 : (unlines (l.take (k + 1))).length ≤ 1000000000000 := Nat.le_trans hle hbig
        rw [HS.out] at h1
        simp only [List.length_append, List.length_singleton] at h1
        omega
      obtain ⟨acc, hacc⟩ : ∃ acc, acc = unlines (l.take k) := ⟨_, rfl⟩
      rw [← hacc] at HS hle' ⊢
      have hle2 : acc.length + x.length ≤ 1000000000000 := by omega
      have k0 : (0 : Int) ≤ (k : Int) := by omega
      have k1 : (k : Int) < (l.length : Int) := by omega
      have hn5 : ¬ (9223372036854775807 < acc.length + x.length) := by omega
      have hn8 : ¬ (9223372036854775807 < acc.length + x.length + 1) := by omega
      have hcv := conv_lf wr
      have hcr2 : (wr.alloc (.cells #[.int .u8 10] 5)).cell? ⟨b, off + k, none⟩ = some (.string ⟨x.toArray⟩) := by rw [World.cell?_of_block (Below.heap_alloc wr _ b (lt_of_cell hcr))]; exact hcr
      clear hx hck HC hc hacc hle
      go_wp2_with fail
      go_region_law (fail)
      all_goals
        go_wp2_with fail
        go_roundg (l.length - (k + 1))
        case measure => omega
        case rel => exact ⟨k + 1, by omega, rfl, by go_num, by rw [HS.out]; exact congrArg Value.string ((congrArg (· ++ (⟨#[10]⟩ : ByteArray)) (str_add _ _)).trans (str_add _ _)), (hb.alloc hz _).drew⟩
    · obtain rfl : k = l.length := by omega
      go_wp2_with fail
      go_ret
      exact ⟨ret_str (by rw [List.take_length]), hb⟩

theorem indexByte_ge (l : List UInt8) (c : UInt8) : -1 ≤ Lib.indexByte l c := by
  induction l with
  | nil => unfold Lib.indexByte; omega
  | cons b l ih =>
    unfold Lib.indexByte
    split
    · omega
    · split <;> omega

set_option maxHeartbeats 2000000 in
set_option maxRecDepth 100000 in
theorem closingR_c (p : List UInt8) (m : Nat) (hp : p.length ≤ 1000000) (hm : m ≤ 1000010) (w : World) :
    Calls Tryz.prog 55 #[.string ⟨p.toArray⟩, .int .i64 m] w fun e w' => e = .returned (.int .i64 (if Lib.indexByte (p.drop (m + 1)) 93 < 0 then -1 else ((m + 1 + (Lib.indexByte (p.drop (m + 1)) 93).toNat : Nat) : Int))) ∧ w = w' := by
  obtain ⟨R, hR⟩ : ∃ R : Int, R = (if Lib.indexByte (p.drop (m + 1)) 93 < 0 then -1 else ((m + 1 + (Lib.indexByte (p.drop (m + 1)) 93).toNat : Nat) : Int)) := ⟨_, rfl⟩
  rw [← hR]
  have HR := Lib.hid hR
  clear hR
  go_enter Tryz.func55, Tryz.ntmps55
  go_wp2_with fail
  go_loopg [5] (p.length - (m + 1)) (fun g i wr => ∃ k : Nat, m + 1 ≤ k ∧ (p.length < m + 1 → k = m + 1) ∧ (m + 1 ≤ p.length → k ≤ p.length) ∧ g = p.length - k ∧ i = .int .i64 k ∧ Hid (R = (if Lib.indexByte (p.drop k) 93 < 0 then -1 else ((k + (Lib.indexByte (p.drop k) 93).toNat : Nat) : Int))) ∧ w = wr)
  case atStart => exact ⟨m + 1, Nat.le_refl _, fun _ => rfl, fun h => h, by omega, by go_num, HR, rfl⟩
  case round =>
    obtain ⟨k, hmk, hk1, hk2, rfl, rfl, HK, rfl⟩ := hrel
    by_cases hlt : k < p.length
    · obtain ⟨c, hc⟩ : ∃ c, p[k]? = some c := ⟨p[k], List.getElem?_eq_getElem hlt⟩
      have ei := at_k p k c hc (by rw [ba_size]; exact hlt)
      have HD := Lib.hid (show p.drop k = c :: p.drop (k + 1) by rw [List.drop_eq_getElem_cons hlt, (List.getElem?_eq_some_iff.1 hc).2])
      clear hc hk1 hk2
      by_cases h93 : c.toNat = 93
      · have b93 : ((c.toNat : Int) == 93) = true := by rw [h93]; rfl
        have HE := Lib.hid (show R = (k : Int) by
          rw [HK.out, HD.out, byte_of c 93 h93]
          have : Lib.indexByte (UInt8.ofNat 93 :: p.drop (k + 1)) 93 = 0 := by unfold Lib.indexByte; rfl
          rw [this, if_neg (by omega)]
          rfl)
        clear h93
        go_wp2_with fail
        go_ret
        exact ⟨ret_int (by rw [HE.out]), rfl⟩
      · have b93 : ((c.toNat : Int) == 93) = false := beq_no (by omega)
        have HN := Lib.hid (show R = (if Lib.indexByte (p.drop (k + 1)) 93 < 0 then -1 else ((k + 1 + (Lib.indexByte (p.drop (k + 1)) 93).toNat : Nat) : Int)) by
          have hne : c ≠ 93 := by rintro rfl; exact h93 rfl
          rw [HK.out, HD.out]
          have e : Lib.indexByte (c :: p.drop (k + 1)) 93 = if Lib.indexByte (p.drop (k + 1)) 93 < 0 then -1 else Lib.indexByte (p.drop (k + 1)) 93 + 1 := by
            have h1 := indexByte_ge (p.drop (k + 1)) 93
            conv => lhs; unfold Lib.indexByte
            rw [if_neg (by simpa using hne)]
            by_cases h : Lib.indexByte (p.drop (k + 1)) 93 = -1
            · rw [h]; rfl
            · rw [if_neg (by simpa using h), if_neg (by omega)]
          rw [e]
          by_cases h : Lib.indexByte (p.drop (k + 1)) 93 < 0
          · rw [if_pos h, if_pos (by omega), if_pos h]
          · rw [if_neg h, if_neg (by omega), if_neg h]
            omega)
        clear h93
        go_wp2_with fail
        go_roundg (p.length - (k + 1))
        case measure => omega
        case rel => exact ⟨k + 1, by omega, fun h => by omega, fun _ => by omega, rfl, by go_num, HN, rfl⟩
    · have HE := Lib.hid (show R = -1 by
        rw [HK.out, List.drop_eq_nil_of_le (by omega), if_pos (by decide)])
      go_wp2_with fail
      go_ret
      exact ⟨ret_int (by rw [HE.out]), rfl⟩

set_option maxHeartbeats 2000000 in
set_option maxRecDepth 100000 in
theorem escapeR_c (l : List UInt8) (hl : l.length ≤ 1000000000) (w : World) :
    Calls Tryz.prog 27 #[.string ⟨l.toArray⟩] w fun e w' => e = .returned (.string ⟨(escape l).toArray⟩) ∧ Below w.heap.size w w' := by
  obtain ⟨i0, hi, hz0, hz1, hz2⟩ := info_parts infoByte
  go_enter Tryz.func27, Tryz.ntmps27
  go_wp2_with fail
  go_loopg [3, 4] l.length (fun g v i wr => ∃ k : Nat, k ≤ l.length ∧ g = l.length - k ∧ i = .int .i64 k ∧ OwnBytes w.heap.size v (escape (l.take k)) wr ∧ Below w.heap.size w wr)
  case atStart => exact ⟨0, Nat.zero_le _, rfl, rfl, World.ownsRow_nil _ _ _ _, Below.refl _ _⟩
  case round =>
    obtain ⟨k, hk, rfl, rfl, hown, hb⟩ := hrel
    have hle := escape_len (l.take k)
    have hlt' : (l.take k).length ≤ l.length := by rw [List.length_take]; omega
    have hz := hb.size
    obtain ⟨acc, hacc⟩ : ∃ acc, acc = escape (l.take k) := ⟨_, rfl⟩
    have hal : acc.length ≤ 2 * l.length := by rw [hacc]; omega
    rw [← hacc] at hown
    by_cases hlt : k < l.length
    · obtain ⟨c, hc⟩ : ∃ c, l[k]? = some c := ⟨l[k], List.getElem?_eq_getElem hlt⟩
      have ei := at_k l k c hc (by rw [ba_size]; exact hlt)
      have HT := Lib.hid (show escape (l.take (k + 1)) = acc ++ ep c by rw [hacc]; exact take_flat ep l k c hc)
      clear hc hacc hle hlt'
      by_cases h : c.toNat = 42 ∨ c.toNat = 63 ∨ c.toNat = 91 ∨ c.toNat = 92
      · have HN := Lib.hid (show escape (l.take (k + 1)) = acc ++ [92] ++ [c] by rw [HT.out]; unfold ep; rw [if_pos h]; simp)
        have hcase : ((c.toNat : Int) == 42) = true ∨ (((c.toNat : Int) == 42) = false ∧ ((c.toNat : Int) == 63) = true) ∨ (((c.toNat : Int) == 42) = false ∧ ((c.toNat : Int) == 63) = false ∧ ((c.toNat : Int) == 91) = true) ∨ (((c.toNat : Int) == 42) = false ∧ ((c.toNat : Int) == 63) = false ∧ ((c.toNat : Int) == 91) = false ∧ ((c.toNat : Int) == 92) = true) := by
          rcases h with h | h | h | h <;> rw [h] <;> decide
        clear h
        rcases hcase with b1 | ⟨b1, b2⟩ | ⟨b1, b2, b3⟩ | ⟨b1, b2, b3, b4⟩
        · skip
          go_wp2_with (at_builtin; refine wpList_append_own _ rfl _ _ 41 rfl w.heap.size 5 i0 (.int .u8 0) 1 1 Tryz.underlying41 hi hz0 hz1 hz2 rfl (by decide) _ _ _ rfl (hown.alloc _) ⟨wr.heap.size, 0, none⟩ 1 1 (Lib.byteCells [92]) rfl rfl ?c1 ?c2 ?c3 ?c4 ?c5 ?_)
          case c1 => (intro j u hj; first | (refine cells_at wr _ _ j u ?_; exact hj) | exact hj)
          case c2 => exact bytes_one _
          case c3 => unfold maxLen; omega
          case c4 => omega
          case c5 => first | omega | (simp; omega)
          intro v' w3 hown3 hgrow _
          have hb3 : Below w.heap.size w w3 := (hb.alloc hz _).grown hgrow (by simp; omega) (fun k hk => (hown.lt k hk).1)
          rw [← Lib.byteCells_append] at hown3
          clear hgrow
          have hz3 : w.heap.size ≤ w3.heap.size := hb3.size
          clear hown hb
          have hown5 : OwnBytes w.heap.size v' (acc ++ [92]) w3 := by unfold OwnBytes; rw [List.length_append]; exact hown3
          clear hown3
          have hal5 : (acc ++ [92]).length ≤ 2 * l.length + 1 := by rw [List.length_append, List.length_singleton]; omega
          go_wp2_with (at_builtin; refine wpList_append_own _ rfl _ _ 41 rfl w.heap.size 5 i0 (.int .u8 0) 1 1 Tryz.underlying41 hi hz0 hz1 hz2 rfl (by decide) _ _ _ rfl (hown5.alloc _) ⟨w3.heap.size, 0, none⟩ 1 1 (Lib.byteCells [c]) rfl rfl ?c1 ?c2 ?c3 ?c4 ?c5 ?_)
          case c1 => (intro j u hj; first | (refine cells_at w3 _ _ j u ?_; exact hj) | exact hj)
          case c2 => exact bytes_one _
          case c3 => unfold maxLen; omega
          case c4 => omega
          case c5 => first | omega | (simp; omega)
          intro v'' w5 hown6 hgrow _
          have hb5 : Below w.heap.size w w5 := (hb3.alloc hz3 _).grown hgrow (by simp; omega) (fun k hk => (hown5.lt k hk).1)
          rw [← Lib.byteCells_append] at hown6
          clear hgrow
          go_wp2_with fail
          go_roundg (l.length - (k + 1))
          case measure => omega
          case rel => exact ⟨k + 1, by omega, rfl, by go_num, by rw [HN.out]; exact own_snoc (by simp) hown6, hb5⟩
        · skip
          go_wp2_with (at_builtin; refine wpList_append_own _ rfl _ _ 41 rfl w.heap.size 5 i0 (.int .u8 0) 1 1 Tryz.underlying41 hi hz0 hz1 hz2 rfl (by decide) _ _ _ rfl (hown.alloc _) ⟨wr.heap.size, 0, none⟩ 1 1 (Lib.byteCells [92]) rfl rfl ?c1 ?c2 ?c3 ?c4 ?c5 ?_)
          case c1 => (intro j u hj; first | (refine cells_at wr _ _ j u ?_; exact hj) | exact hj)
          case c2 => exact bytes_one _
          case c3 => unfold maxLen; omega
          case c4 => omega
          case c5 => first | omega | (simp; omega)
          intro v' w3 hown3 hgrow _
          have hb3 : Below w.heap.size w w3 := (hb.alloc hz _).grown hgrow (by simp; omega) (fun k hk => (hown.lt k hk).1)
          rw [← Lib.byteCells_append] at hown3
          clear hgrow
          have hz3 : w.heap.size ≤ w3.heap.size := hb3.size
          clear hown hb
          have hown5 : OwnBytes w.heap.size v' (acc ++ [92]) w3 := by unfold OwnBytes; rw [List.length_append]; exact hown3
          clear hown3
          have hal5 : (acc ++ [92]).length ≤ 2 * l.length + 1 := by rw [List.length_append, List.length_singleton]; omega
          go_wp2_with (at_builtin; refine wpList_append_own _ rfl _ _ 41 rfl w.heap.size 5 i0 (.int .u8 0) 1 1 Tryz.underlying41 hi hz0 hz1 hz2 rfl (by decide) _ _ _ rfl (hown5.alloc _) ⟨w3.heap.size, 0, none⟩ 1 1 (Lib.byteCells [c]) rfl rfl ?c1 ?c2 ?c3 ?c4 ?c5 ?_)
          case c1 => (intro j u hj; first | (refine cells_at w3 _ _ j u ?_; exact hj) | exact hj)
          case c2 => exact bytes_one _
          case c3 => unfold maxLen; omega
          case c4 => omega
          case c5 => first | omega | (simp; omega)
          intro v'' w5 hown6 hgrow _
          have hb5 : Below w.heap.size w w5 := (hb3.alloc hz3 _).grown hgrow (by simp; omega) (fun k hk => (hown5.lt k hk).1)
          rw [← Lib.byteCells_append] at hown6
          clear hgrow
          go_wp2_with fail
          go_roundg (l.length - (k + 1))
          case measure => omega
          case rel => exact ⟨k + 1, by omega, rfl, by go_num, by rw [HN.out]; exact own_snoc (by simp) hown6, hb5⟩
        · skip
          go_wp2_with (at_builtin; refine wpList_append_own _ rfl _ _ 41 rfl w.heap.size 5 i0 (.int .u8 0) 1 1 Tryz.underlying41 hi hz0 hz1 hz2 rfl (by decide) _ _ _ rfl (hown.alloc _) ⟨wr.heap.size, 0, none⟩ 1 1 (Lib.byteCells [92]) rfl rfl ?c1 ?c2 ?c3 ?c4 ?c5 ?_)
          case c1 => (intro j u hj; first | (refine cells_at wr _ _ j u ?_; exact hj) | exact hj)
          case c2 => exact bytes_one _
          case c3 => unfold maxLen; omega
          case c4 => omega
          case c5 => first | omega | (simp; omega)
          intro v' w3 hown3 hgrow _
          have hb3 : Below w.heap.size w w3 := (hb.alloc hz _).grown hgrow (by simp; omega) (fun k hk => (hown.lt k hk).1)
          rw [← Lib.byteCells_append] at hown3
          clear hgrow
          have hz3 : w.heap.size ≤ w3.heap.size := hb3.size
          clear hown hb
          have hown5 : OwnBytes w.heap.size v' (acc ++ [92]) w3 := by unfold OwnBytes; rw [List.length_append]; exact hown3
          clear hown3
          have hal5 : (acc ++ [92]).length ≤ 2 * l.length + 1 := by rw [List.length_append, List.length_singleton]; omega
          go_wp2_with (at_builtin; refine wpList_append_own _ rfl _ _ 41 rfl w.heap.size 5 i0 (.int .u8 0) 1 1 Tryz.underlying41 hi hz0 hz1 hz2 rfl (by decide) _ _ _ rfl (hown5.alloc _) ⟨w3.heap.size, 0, none⟩ 1 1 (Lib.byteCells [c]) rfl rfl ?c1 ?c2 ?c3 ?c4 ?c5 ?_)
          case c1 => (intro j u hj; first | (refine cells_at w3 _ _ j u ?_; exact hj) | exact hj)
          case c2 => exact bytes_one _
          case c3 => unfold maxLen; omega
          case c4 => omega
          case c5 => first | omega | (simp; omega)
          intro v'' w5 hown6 hgrow _
          have hb5 : Below w.heap.size w w5 := (hb3.alloc hz3 _).grown hgrow (by simp; omega) (fun k hk => (hown5.lt k hk).1)
          rw [← Lib.byteCells_append] at hown6
          clear hgrow
          go_wp2_with fail
          go_roundg (l.length - (k + 1))
          case measure => omega
          case rel => exact ⟨k + 1, by omega, rfl, by go_num, by rw [HN.out]; exact own_snoc (by simp) hown6, hb5⟩
        · skip
          go_wp2_with (at_builtin; refine wpList_append_own _ rfl _ _ 41 rfl w.heap.size 5 i0 (.int .u8 0) 1 1 Tryz.underlying41 hi hz0 hz1 hz2 rfl (by decide) _ _ _ rfl (hown.alloc _) ⟨wr.heap.size, 0, none⟩ 1 1 (Lib.byteCells [92]) rfl rfl ?c1 ?c2 ?c3 ?c4 ?c5 ?_)
          case c1 => (intro j u hj; first | (refine cells_at wr _ _ j u ?_; exact hj) | exact hj)
          case c2 => exact bytes_one _
          case c3 => unfold maxLen; omega
          case c4 => omega
          case c5 => first | omega | (simp; omega)
          intro v' w3 hown3 hgrow _
          have hb3 : Below w.heap.size w w3 := (hb.alloc hz _).grown hgrow (by simp; omega) (fun k hk => (hown.lt k hk).1)
          rw [← Lib.byteCells_append] at hown3
          clear hgrow
          have hz3 : w.heap.size ≤ w3.heap.size := hb3.size
          clear hown hb
          have hown5 : OwnBytes w.heap.size v' (acc ++ [92]) w3 := by unfold OwnBytes; rw [List.length_append]; exact hown3
          clear hown3
          have hal5 : (acc ++ [92]).length ≤ 2 * l.length + 1 := by rw [List.length_append, List.length_singleton]; omega
          go_wp2_with (at_builtin; refine wpList_append_own _ rfl _ _ 41 rfl w.heap.size 5 i0 (.int .u8 0) 1 1 Tryz.underlying41 hi hz0 hz1 hz2 rfl (by decide) _ _ _ rfl (hown5.alloc _) ⟨w3.heap.size, 0, none⟩ 1 1 (Lib.byteCells [c]) rfl rfl ?c1 ?c2 ?c3 ?c4 ?c5 ?_)
          case c1 => (intro j u hj; first | (refine cells_at w3 _ _ j u ?_; exact hj) | exact hj)
          case c2 => exact bytes_one _
          case c3 => unfold maxLen; omega
          case c4 => omega
          case c5 => first | omega | (simp; omega)
          intro v'' w5 hown6 hgrow _
          have hb5 : Below w.heap.size w w5 := (hb3.alloc hz3 _).grown hgrow (by simp; omega) (fun k hk => (hown5.lt k hk).1)
          rw [← Lib.byteCells_append] at hown6
          clear hgrow
          go_wp2_with fail
          go_roundg (l.length - (k + 1))
          case measure => omega
          case rel => exact ⟨k + 1, by omega, rfl, by go_num, by rw [HN.out]; exact own_snoc (by simp) hown6, hb5⟩
      · have HN := Lib.hid (show escape (l.take (k + 1)) = acc ++ [c] by rw [HT.out]; unfold ep; rw [if_neg h])
        have b1 : ((c.toNat : Int) == 42) = false := beq_no (by omega)
        have b2 : ((c.toNat : Int) == 63) = false := beq_no (by omega)
        have b3 : ((c.toNat : Int) == 91) = false := beq_no (by omega)
        have b4 : ((c.toNat : Int) == 92) = false := beq_no (by omega)
        clear h
        go_wp2_with (at_builtin; refine wpList_append_own _ rfl _ _ 41 rfl w.heap.size 5 i0 (.int .u8 0) 1 1 Tryz.underlying41 hi hz0 hz1 hz2 rfl (by decide) _ _ _ rfl (hown.alloc _) ⟨wr.heap.size, 0, none⟩ 1 1 (Lib.byteCells [c]) rfl rfl ?c1 ?c2 ?c3 ?c4 ?c5 ?_)
        case c1 => (intro j u hj; first | (refine cells_at wr _ _ j u ?_; exact hj) | exact hj)
        case c2 => exact bytes_one _
        case c3 => unfold maxLen; omega
        case c4 => omega
        case c5 => first | omega | (simp; omega)
        intro v' w3 hown3 hgrow _
        have hb3 : Below w.heap.size w w3 := (hb.alloc hz _).grown hgrow (by simp; omega) (fun k hk => (hown.lt k hk).1)
        rw [← Lib.byteCells_append] at hown3
        clear hgrow
        go_wp2_with fail
        go_roundg (l.length - (k + 1))
        case measure => omega
        case rel => exact ⟨k + 1, by omega, rfl, by go_num, by rw [HN.out]; unfold OwnBytes; rw [List.length_append]; exact hown3, hb3⟩
    · obtain rfl : k = l.length := by omega
      have HA := Lib.hid (show escape l = acc by rw [hacc, List.take_length])
      have hcv := conv_own hown
      clear hacc
      go_wp2_with fail
      go_ret
      exact ⟨ret_str (by rw [HA.out]), hb⟩


theorem within_one (c a : UInt8) : within c [a] = decide (a = c) := by rw [within.eq_def]
theorem within_two (c a d : UInt8) : within c [a, d] = (decide (a = c) || within c [d]) := by rw [within.eq_def]
theorem within_range (c a d b : UInt8) (r : List UInt8) (h : d.toNat = 45) : within c (a :: d :: b :: r) = ((decide (a.toNat ≤ c.toNat) && decide (c.toNat ≤ b.toNat)) || within c r) := by
  rw [within.eq_def]
  simp only
  rw [if_pos h]
theorem within_other (c a d b : UInt8) (r : List UInt8) (h : d.toNat ≠ 45) : within c (a :: d :: b :: r) = (decide (a = c) || within c (d :: b :: r)) := by
  rw [within.eq_def]
  simp only
  rw [if_neg h]
theorem drop_at {s q : List UInt8} {i : Nat} (h : s.drop i = q) (j : Nat) (c : UInt8) (hq : q[j]? = some c) : s[i + j]? = some c := by
  subst h
  rw [List.getElem?_drop] at hq
  exact hq
theorem drop_on {s q : List UInt8} {i : Nat} (h : s.drop i = q) (n : Nat) : s.drop (i + n) = q.drop n := by
  subst h
  rw [List.drop_drop]

set_option maxHeartbeats 2000000 in
set_option maxRecDepth 100000 in
theorem inR_c (s : List UInt8) (c : UInt8) (hs : s.length ≤ 1000000000) (w : World) :
    Calls Tryz.prog 56 #[.string ⟨s.toArray⟩, .int .u8 c.toNat] w fun e w' => e = .returned (.bool (within c s)) ∧ w' = w := by
  go_enter Tryz.func56, Tryz.ntmps56
  go_wp2_with fail
  go_loopg [5] s.length (fun g i wr => ∃ (k : Nat) (q : List UInt8), g = q.length ∧ k + q.length = s.length ∧ i = .int .i64 k ∧ Hid (s.drop k = q) ∧ Hid (within c q = within c s) ∧ w = wr)
  case atStart => exact ⟨0, s, rfl, by omega, rfl, Lib.hid rfl, Lib.hid rfl, rfl⟩
  case round =>
    obtain ⟨k, q, rfl, hkq, rfl, HS, HW, rfl⟩ := hrel
    cases q with
    | nil =>
      simp only [List.length_nil] at hkq
      have HR := Lib.hid (show within c s = false by rw [← HW.out]; rfl)
      have hge : ¬ ((k : Int) < (s.length : Int)) := by omega
      go_wp2_with fail
      go_ret
      exact ⟨ret_bool (by rw [HR.out]), rfl⟩
    | cons a r =>
      have hat := drop_at HS.out
      have e0 := at_k s k a (hat 0 a rfl) (by rw [ba_size]; simp only [List.length_cons] at hkq; omega)
      have HS1 := Lib.hid (drop_on HS.out 1)
      have HS3 := Lib.hid (drop_on HS.out 3)
      simp only [List.drop_succ_cons, List.drop_zero] at HS1
      have hk0 : (k : Int) < (s.length : Int) := by simp only [List.length_cons] at hkq; omega
      rcases r with _ | ⟨d, _ | ⟨b, r2⟩⟩
      · simp only [List.length_cons, List.length_nil] at hkq
        have hno : ¬ ((k : Int) + 2 < (s.length : Int)) := by omega
        clear hat
        by_cases hac : a = c
        · have HR := Lib.hid (show within c s = true by rw [← HW.out, within_one]; simp [hac])
          have b1 : ((a.toNat : Int) == (c.toNat : Int)) = true := by rw [hac]; simp
          clear hac
          go_wp2_with fail
          go_ret
          exact ⟨ret_bool (by rw [HR.out]), rfl⟩
        · have HN := Lib.hid (show within c ([] : List UInt8) = within c s by rw [← HW.out, within_one, decide_eq_false hac]; rfl)
          have b1 : ((a.toNat : Int) == (c.toNat : Int)) = false := by rw [byte_beq]; exact decide_eq_false hac
          clear hac
          go_wp2_with fail
          go_roundg ([] : List UInt8).length
          case measure => simp
          case rel => exact ⟨k + 1, [], rfl, by simp only [List.length_nil]; omega, by go_num, HS1, HN, rfl⟩
      · simp only [List.length_cons, List.length_nil] at hkq
        have hno : ¬ ((k : Int) + 2 < (s.length : Int)) := by omega
        clear hat
        by_cases hac : a = c
        · have HR := Lib.hid (show within c s = true by rw [← HW.out, within_two]; simp [hac])
          have b1 : ((a.toNat : Int) == (c.toNat : Int)) = true := by rw [hac]; simp
          clear hac
          go_wp2_with fail
          go_ret
          exact ⟨ret_bool (by rw [HR.out]), rfl⟩
        · have HN := Lib.hid (show within c [d] = within c s by rw [← HW.out, within_two, decide_eq_false hac]; rfl)
          have b1 : ((a.toNat : Int) == (c.toNat : Int)) = false := by rw [byte_beq]; exact decide_eq_false hac
          clear hac
          go_wp2_with fail
          go_roundg [d].length
          case measure => simp
          case rel => exact ⟨k + 1, [d], rfl, by simp only [List.length_cons, List.length_nil]; omega, by go_num, HS1, HN, rfl⟩
      · have e1 := at_k s (k + 1) d (hat 1 d rfl) (by rw [ba_size]; simp only [List.length_cons] at hkq; omega)
        have e2 := at_k s (k + 2) b (hat 2 b rfl) (by rw [ba_size]; simp only [List.length_cons] at hkq; omega)
        simp only [List.drop_succ_cons, List.drop_zero] at HS3
        have hql : k + r2.length + 3 = s.length := by simp only [List.length_cons] at hkq; omega
        have hyes : (k : Int) + 2 < (s.length : Int) := by omega
        clear hat
        by_cases hd : d.toNat = 45
        · have b45 : ((d.toNat : Int) == 45) = true := by rw [hd]; rfl
          have HX := Lib.hid (within_range c a d b r2 hd)
          clear hd
          by_cases hc1 : a.toNat ≤ c.toNat
          · by_cases hc2 : c.toNat ≤ b.toNat
            · have HR := Lib.hid (show within c s = true by rw [← HW.out, HX.out]; simp [hc1, hc2])
              go_wp2_with fail
              go_ret
              exact ⟨ret_bool (by rw [HR.out]), rfl⟩
            · have HN := Lib.hid (show within c r2 = within c s by rw [← HW.out, HX.out]; simp [hc2])
              go_wp2_with fail
              go_roundg r2.length
              case measure => simp only [List.length_cons]; omega
              case rel => exact ⟨k + 3, r2, rfl, by omega, by go_num, HS3, HN, rfl⟩
          · have HN := Lib.hid (show within c r2 = within c s by rw [← HW.out, HX.out]; simp [hc1])
            go_wp2_with fail
            go_roundg r2.length
            case measure => simp only [List.length_cons]; omega
            case rel => exact ⟨k + 3, r2, rfl, by omega, by go_num, HS3, HN, rfl⟩
        · have b45 : ((d.toNat : Int) == 45) = false := beq_no (by omega)
          have HX := Lib.hid (within_other c a d b r2 hd)
          clear hd
          by_cases hac : a = c
          · have HR := Lib.hid (show within c s = true by rw [← HW.out, HX.out]; simp [hac])
            have b1 : ((a.toNat : Int) == (c.toNat : Int)) = true := by rw [hac]; simp
            clear hac
            go_wp2_with fail
            go_ret
            exact ⟨ret_bool (by rw [HR.out]), rfl⟩
          · have HN := Lib.hid (show within c (d :: b :: r2) = within c s by rw [← HW.out, HX.out, decide_eq_false hac]; rfl)
            have b1 : ((a.toNat : Int) == (c.toNat : Int)) = false := by rw [byte_beq]; exact decide_eq_false hac
            clear hac
            go_wp2_with fail
            go_roundg (d :: b :: r2).length
            case measure => simp only [List.length_cons]; omega
            case rel => exact ⟨k + 1, d :: b :: r2, rfl, by simp only [List.length_cons]; omega, by go_num, HS1, HN, rfl⟩
end Go.Proofs.YtanjmljlpdhlnaaGreatDoor
