/-
  Pattern of package text: it reports what chapter 2 says a pattern matches; of what was there nothing has turned.
-/
import Derived.Test.YtanjmljlpdhlnaaGreatDoorTParts
import Derived.Deep.LoopGhost
import Derived.WalkMore
import Derived.IntWalk
namespace Go.Proofs.YtanjmljlpdhlnaaGreatDoor
open Go Go.RowKit Go.Sort Wire Txt

/-- The slice (A, length of b, cap) reads as these parts of a pattern. -/
structure PartsAt (w : World) (A : Option Addr) (cap : Nat) (b : List (List UInt8)) : Prop where
  le : b.length ≤ cap
  big : cap ≤ 9223372036854775807
  small : b.length ≤ 1000000
  each : ∀ x ∈ b, x ≠ [] ∧ x.length ≤ 1000000000000
  cell : b ≠ [] → ∃ g off, A = some ⟨g, off, none⟩ ∧ ∀ (i : Nat) (x : List UInt8), b[i]? = some x → w.cell? ⟨g, off + i, none⟩ = some (.string ⟨x.toArray⟩)
theorem PartsAt.on {w w' : World} {A : Option Addr} {cap : Nat} {b : List (List UInt8)} (h : PartsAt w A cap b) (hb : Below w.heap.size w w') : PartsAt w' A cap b := by
  refine ⟨h.le, h.big, h.small, h.each, fun hne => ?_⟩
  obtain ⟨g, off, hA, hc⟩ := h.cell hne
  refine ⟨g, off, hA, fun i x hx => ?_⟩
  have := hc i x hx
  rw [hb.cell (lt_of_cell this)]
  exact this
set_option maxRecDepth 100000 in
theorem slice_tail (g off n cap k : Nat) (h1 : k ≤ n) (h2 : n ≤ cap) : ∃ A', (∀ wx : World, (Instr.slice 22 (.slice (some ⟨g, off, none⟩) n cap) (some (.int .i64 (k : Int))) none none).run Tryz.prog wx = .ok (.slice A' (n - k) (cap - k)) wx) ∧ (k < n → A' = some ⟨g, off + k, none⟩) := by
  refine ⟨if cap = k then some ⟨g, off, none⟩ else some ⟨g, off + k, none⟩, fun wx => ?_, fun hk => by rw [if_neg (by omega)]⟩
  have hs := run_slice_l (P := Tryz.prog) wx 22 (some ⟨g, off, none⟩) n cap Tryz.underlying22 .i64 k (by omega) (by omega)
  rw [hs]
  obtain ⟨i0, hi, hz0, hz1, hz2⟩ := info_parts infoString
  have he : Tryz.prog.elem 22 = 9 := by kernel_rfl
  have hz : ((sizeOf (Tryz.prog.elem 22)).run Tryz.prog wx) = .ok 1 wx := by rw [he]; simp [sizeOf, typeInfo, hi, hz1]
  rw [hz]
  simp only [Result.andThen, sliced, Int.toNat_natCast, Nat.mul_one]
  by_cases hc : cap = k
  · rw [if_pos hc, if_pos hc]
  · rw [if_neg hc, if_neg hc]
    simp [Lib.add_plain]
theorem PartsAt.tail {w : World} {A : Option Addr} {cap : Nat} {b : List (List UInt8)} (h : PartsAt w A cap b) (k : Nat) (hk : k ≤ b.length) (A' : Option Addr) (hA : ∀ g off, A = some ⟨g, off, none⟩ → k < b.length → A' = some ⟨g, off + k, none⟩) : PartsAt w A' (cap - k) (b.drop k) := by
  have h1 := h.le
  have h2 := h.big
  have h3 := h.small
  refine ⟨by rw [List.length_drop]; omega, by omega, by rw [List.length_drop]; omega, fun x hx => h.each x (List.mem_of_mem_drop hx), fun hne => ?_⟩
  have hlt : k < b.length := by
    rcases Nat.lt_or_ge k b.length with h | h
    · exact h
    · exact absurd (List.drop_eq_nil_of_le h) hne
  obtain ⟨g, off, hA', hc⟩ := h.cell (by rintro rfl; simp at hlt)
  refine ⟨g, off + k, hA g off hA' hlt, fun i x hx => ?_⟩
  rw [List.getElem?_drop] at hx
  rw [Nat.add_assoc]
  exact hc (k + i) x hx

set_option maxHeartbeats 2000000 in
set_option maxRecDepth 100000 in
theorem pattern_c (p s : List UInt8) (hp : p.length ≤ 1000000) (hs : s.length ≤ 1000000) (w : World) :
    Calls Tryz.prog 20 #[.string ⟨p.toArray⟩, .string ⟨s.toArray⟩] w fun e w' => e = .returned (.bool (pat p s)) ∧ Below w.heap.size w w' := by
  go_enter Tryz.func20, Tryz.ntmps20
  go_wp2_with fail
  go_step3
  go_wp2_with fail
  refine (parts_c p hp _).mono ?_
  rintro e w1 ⟨v, rfl, hown, hb1⟩
  obtain ⟨A0, cap0, rfl, hle0, hbig0, hcell0⟩ := hown.slice
  have hpl := parts_len p
  have hP0 : PartsAt w1 A0 cap0 (parts p) := by
    refine ⟨hle0, hbig0, by omega, fun x hx => ⟨parts_ne p x hx, ?_⟩, fun hne => ?_⟩
    · have := parts_sub p x hx
      omega
    · obtain ⟨g, hg, hc⟩ := hcell0 hne
      exact ⟨g, 0, hg, fun i x hx => by rw [Nat.zero_add]; exact hc i x hx⟩
  clear hown hcell0 hle0 hbig0
  go_wp2_with fail
  go_step3
  go_wp2_with fail
  go_loopg [1, 5, 6] ((parts p).length + s.length) (fun g s1 s5 s6 wr => ∃ (t : List UInt8) (b : List (List UInt8)) (st : Bool) (A : Option Addr) (cap : Nat), g = b.length + t.length ∧ t.length ≤ 1000000 ∧ s1 = .string ⟨t.toArray⟩ ∧ s5 = .slice A b.length cap ∧ s6 = .bool st ∧ PartsAt wr A cap b ∧ Hid (goal st b t = pat p s) ∧ Below w.heap.size w wr)
  case atStart => exact ⟨s, parts p, false, A0, cap0, rfl, hs, rfl, rfl, rfl, hP0, Lib.hid rfl, hb1⟩
  case round =>
    obtain ⟨t, b, st, A, cap, rfl, ht, rfl, rfl, rfl, hP, HG, hb⟩ := hrel
    clear hP0 hb1
    go_wp2_with fail
    have hsm := hP.small
    obtain ⟨wo, rfl⟩ : ∃ wo : World, wo = wr := ⟨_, rfl⟩
    go_loopg [1, 5, 6, 13] b.length (fun g s1 s5 s6 s13 wx => ∃ i : Nat, g = b.length - i ∧ i ≤ b.length ∧ s1 = .string ⟨t.toArray⟩ ∧ s5 = .slice A b.length cap ∧ s6 = .bool st ∧ s13 = .int .i64 i ∧ Hid (Fit (b.take i) t) ∧ PartsAt wx A cap b ∧ Below w.heap.size w wx)
    case atStart => exact ⟨0, by omega, by omega, rfl, rfl, rfl, rfl, Lib.hid (Fit.nil t), hP, hb⟩
    case round =>
      obtain ⟨i, rfl, hi, rfl, rfl, rfl, rfl, HF, hPi, hbi⟩ := hrel
      clear hP hb
      have hFl : i ≤ t.length := by have := HF.out.1; rw [List.length_take] at this; omega
      by_cases hlt : i < b.length
      · obtain ⟨x, hx⟩ : ∃ x, b[i]? = some x := ⟨b[i], List.getElem?_eq_getElem hlt⟩
        obtain ⟨g, off, rfl, hc⟩ := hPi.cell (by rintro rfl; simp at hlt)
        have hcell := hc i x hx
        have hsplit : b = b.take i ++ x :: b.drop (i + 1) := by
          have := List.drop_eq_getElem_cons hlt
          rw [(List.getElem?_eq_some_iff.1 hx).2] at this
          rw [← this, List.take_append_drop]
        have hxe := hPi.each x (List.mem_of_getElem? hx)
        have hxl : (b.take i).length = i := by rw [List.length_take]; omega
        have HS := Lib.hid hsplit
        have HX := Lib.hid hx
        have HXL := Lib.hid hxl
        clear hsplit hx hxl hc
        by_cases hstar : x = [42]
        · subst hstar
          obtain ⟨A', hsl, hA'⟩ := slice_tail g off b.length cap (i + 1) (by omega) hPi.le
          rw [show ((i + 1 : Nat) : Int) = (i : Int) + 1 by omega] at hsl
          have HG2 := Lib.hid (show goal true (b.drop (i + 1)) (t.drop i) = pat p s by
            rw [← HG.out]
            conv => rhs; rw [HS.out]
            rw [goal_star HF.out, HXL.out])
          have hP2 := hPi.tail (i + 1) (by omega) A' (fun g0 off0 h0 hk => by injection h0 with h0; injection h0 with h1 h2; subst h1 h2; rw [hA' hk])
          go_wp2_with fail
          have hwr : IntKind.i64.wrap ((i : Int) + 1) = (i : Int) + 1 := IntWalk.i64_in _ (by omega)
          have hz0 : (0 : Int) ≤ i := by omega
          have hz1 : (i : Int) ≤ (t.length : Int) := by omega
          go_quiet (fail)
          clear hwr hz0 hz1
          go_wp2_with fail
          go_roundg ((b.drop (i + 1)).length + (t.drop i).length)
          case measure => rw [List.length_drop, List.length_drop]; omega
          case rel => exact ⟨t.drop i, b.drop (i + 1), true, A', cap - (i + 1), rfl, by rw [List.length_drop]; omega, congrArg Value.string (ba_drop t i), by rw [List.length_drop], rfl, hP2.on (below_drewN _ _), HG2, below_drew hbi _⟩
        · have hq : (x == [42]) = false := by simpa using hstar
          by_cases hend : i = t.length
          · have heq : ((i : Int) == (t.length : Int)) = true := by rw [hend]; simp
            have HR := Lib.hid (show pat p s = false by
              rw [← HG.out]
              conv => lhs; rw [HS.out]
              exact goal_short HF.out (by rw [HXL.out, hend]) x _ hstar st)
            clear hend
            go_wp2_with fail
            rw [Exit.noGoto_ret]
            go_ret
            exact ⟨ret_bool HR.out.symm, hbi⟩
          · have hne : ((i : Int) == (t.length : Int)) = false := beq_no (by omega)
            have hlt2 : i < t.length := by omega
            obtain ⟨c, hc⟩ : ∃ c, t[i]? = some c := ⟨t[i], List.getElem?_eq_getElem hlt2⟩
            have ei : (⟨t.toArray⟩ : ByteArray)[i]'(by rw [ba_size]; exact hlt2) = c := by
              show t.toArray[i]'_ = c
              rw [List.getElem_toArray]
              exact (List.getElem?_eq_some_iff.1 hc).2
            have HC := Lib.hid hc
            clear hc hend
            cases hf : fits x c with
            | true =>
              have HF2 := Lib.hid (show Fit (b.take (i + 1)) t by
                rw [List.take_add_one, HX.out]
                exact HF.out.snoc (by rw [HXL.out]; exact HC.out) hstar hf)
              have HFT := Lib.hid hf
              clear hf
              go_wp2_with fail
              refine (matches_c x c hxe.1 hxe.2 _).mono ?_
              rw [HFT.out]
              rintro e w2 ⟨rfl, hb2⟩
              go_wp2_with fail
              go_roundg (b.length - (i + 1))
              case measure => omega
              case rel => exact ⟨i + 1, rfl, by omega, rfl, rfl, rfl, by go_num, HF2, hPi.on hb2, hbi.trans (hb2.mono hbi.size)⟩
            | false =>
              have HN := Lib.hid (show goal false b t = false ∧ goal true b t = goal true b (t.drop 1) by
                have := goal_no HF.out (b.drop (i + 1)) (by rw [HXL.out]; exact HC.out) hstar hf
                rw [← HS.out] at this
                exact this)
              have HFT := Lib.hid hf
              clear hf
              cases st with
              | false =>
                have HR := Lib.hid (show pat p s = false by rw [← HG.out]; exact HN.out.1)
                go_wp2_with fail
                refine (matches_c x c hxe.1 hxe.2 _).mono ?_
                rw [HFT.out]
                rintro e w2 ⟨rfl, hb2⟩
                go_wp2_with fail
                rw [Exit.noGoto_ret]
                go_ret
                exact ⟨ret_bool HR.out.symm, hbi.trans (hb2.mono hbi.size)⟩
              | true =>
                have HG2 := Lib.hid (show goal true b (t.drop 1) = pat p s by rw [← HG.out]; exact HN.out.2.symm)
                go_wp2_with fail
                refine (matches_c x c hxe.1 hxe.2 _).mono ?_
                rw [HFT.out]
                rintro e w2 ⟨rfl, hb2⟩
                go_wp2_with fail
                go_roundg (b.length + (t.drop 1).length)
                case measure => rw [List.length_drop]; omega
                case rel => exact ⟨t.drop 1, b, true, _, cap, rfl, by rw [List.length_drop]; omega, congrArg Value.string (ba_drop t 1), rfl, rfl, hPi.on hb2, HG2, hbi.trans (hb2.mono hbi.size)⟩
      · obtain rfl : i = b.length := by omega
        have HFb := Lib.hid (show Fit b t by have := HF.out; rw [List.take_length] at this; exact this)
        have HA := Lib.hid (goal_all HFb.out)
        clear HF
        by_cases heq : b.length = t.length
        · have hbe : ((b.length : Int) == (t.length : Int)) = true := by rw [heq]; simp
          have HR := Lib.hid (show pat p s = true by rw [← HG.out]; exact HA.out.1 heq st)
          clear heq
          go_wp2_with fail
          rw [Exit.noGoto_ret]
          go_ret
          exact ⟨ret_bool HR.out.symm, hbi⟩
        · have hbe : ((b.length : Int) == (t.length : Int)) = false := beq_no (by omega)
          cases st with
          | false =>
            have HR := Lib.hid (show pat p s = false by rw [← HG.out]; exact HA.out.2.1 heq)
            clear heq
            go_wp2_with fail
            rw [Exit.noGoto_ret]
            go_ret
            exact ⟨ret_bool HR.out.symm, hbi⟩
          | true =>
            have HG2 := Lib.hid (show goal true b (t.drop (t.length - b.length)) = pat p s by rw [← HG.out]; exact HA.out.2.2.symm)
            have hlt3 : b.length < t.length := by omega
            clear heq
            go_wp2_with fail
            go_roundg (b.length + (t.drop (t.length - b.length)).length)
            case measure => rw [List.length_drop]; omega
            case rel =>
              exact ⟨t.drop (t.length - b.length), b, true, _, cap, rfl, by rw [List.length_drop]; omega, congrArg Value.string (ba_drop t (t.length - b.length)), rfl, rfl, hPi, HG2, hbi⟩
end Go.Proofs.YtanjmljlpdhlnaaGreatDoor
