/-
  cell: the header written and read.
-/
import Derived.Test.YtninopllfbiccaaDoorCHead
import Derived.Laws.BitsAllLaws
namespace Go.Proofs.YtninopllfbiccaaDoor
set_option maxRecDepth 100000
open Go Go.RowKit Go.Maps Dk

/-- The cells of five bytes in a block of their own hold the header. -/
theorem form_cells (k n : Nat) (hk : k ≤ 2) (hn : n ≤ 65536) (w : World) (T : TypeId) (j : Nat) (u : Value) (hu : (bytesV (Ck.header k n))[j]? = some u) :
    (w.alloc (.cells #[.int .u8 (k : Int), .int .u8 ((n : Int) % 256), .int .u8 ((n : Int) / 256 % 256), .int .u8 ((n : Int) / 65536), .int .u8 ((n : Int) / 16777216)] T)).cell? ⟨w.heap.size, 0 + j, none⟩ = some u := by
  have e0 : ((UInt8.ofNat k).toNat : Int) = k := by show ((k % 256 : Nat) : Int) = k; omega
  have e1 : ((UInt8.ofNat n).toNat : Int) = (n : Int) % 256 := by show ((n % 256 : Nat) : Int) = _; omega
  have e2 : ((UInt8.ofNat (n / 256)).toNat : Int) = (n : Int) / 256 % 256 := by show ((n / 256 % 256 : Nat) : Int) = _; omega
  have e3 : ((UInt8.ofNat (n / 65536)).toNat : Int) = (n : Int) / 65536 := by show ((n / 65536 % 256 : Nat) : Int) = _; omega
  have e4 : ((UInt8.ofNat (n / 16777216)).toNat : Int) = (n : Int) / 16777216 := by show ((n / 16777216 % 256 : Nat) : Int) = _; omega
  have hc := Lib.cell_of_heap (heap_alloc_new w (.cells #[.int .u8 (k : Int), .int .u8 ((n : Int) % 256), .int .u8 ((n : Int) / 256 % 256), .int .u8 ((n : Int) / 65536), .int .u8 ((n : Int) / 16777216)] T)) (0 + j)
  rw [hc, ← hu]
  unfold bytesV Ck.header
  simp only [List.map_cons, List.map_nil, e0, e1, e2, e3, e4, Nat.zero_add]
  exact (List.getElem?_toArray).trans rfl

set_option maxRecDepth 100000 in
theorem form_c (k n : Nat) (hk : k ≤ 2) (hn : n ≤ 65536) (w : World) :
    Calls Tryd.prog 41 #[.int .i64 (k : Int), .int .i64 (n : Int)] w fun e w' => e = .returned (.string ⟨(Ck.header k n).toArray⟩) ∧ Below w.heap.size w w' := by
  have hcv := conv_src (some ⟨w.heap.size, 0, none⟩) 5 (Ck.header k n) (w.alloc (.cells #[.int .u8 (k : Int), .int .u8 ((n : Int) % 256), .int .u8 ((n : Int) / 256 % 256), .int .u8 ((n : Int) / 65536), .int .u8 ((n : Int) / 16777216)] 5)) (fun _ => ⟨w.heap.size, 0, rfl, fun j u hu => form_cells k n hk hn w 5 j u hu⟩)
  rw [Ck.header_length] at hcv
  go_enter Tryd.func41, Tryd.ntmps41
  go_wp2_with fail
  go_ret
  exact ⟨rfl, (Below.refl _ w).alloc (Nat.le_refl _) _⟩

theorem or_mul (a b i m : Nat) (hm : m = 2 ^ i) (h : a < m) : a ||| (b * m) = b * m + a := by
  subst hm
  rw [Nat.or_comm, ← Nat.shiftLeft_eq, Nat.shiftLeft_add_eq_or_of_lt h]
theorem i64_or_nat (a b : Nat) (ha : a < 4611686018427387904) (hb : b < 4611686018427387904) : bits .or .i64 (a : Int) (b : Int) = ((a ||| b : Nat) : Int) := by
  have hx : a ||| b < 2 ^ 62 := Nat.or_lt_two_pow (by omega) (by omega)
  show IntKind.i64.wrap ((BitVec.ofInt 64 (a : Int) ||| BitVec.ofInt 64 (b : Int)).toNat : Int) = _
  rw [BitVec.toNat_or, ofInt_u64 a (by omega), ofInt_u64 b (by omega), IntKind.wrap_i64]
  omega
theorem or64 (a b : Int) (i : Nat) (m : Nat) (hm : m = 2 ^ i) (h0 : 0 ≤ a) (h : a < m) (hb : 0 ≤ b) (hs : b * m + a < 4611686018427387904) : bits BinOp.or IntKind.i64 a (b * (m : Int)) = b * m + a := by
  obtain ⟨x, rfl⟩ := Int.eq_ofNat_of_zero_le h0
  obtain ⟨y, rfl⟩ := Int.eq_ofNat_of_zero_le hb
  have e : ((y : Int) * (m : Int)) = ((y * m : Nat) : Int) := by simp
  have hx : x < m := by omega
  have hp : y * m + x < 4611686018427387904 := by rw [e] at hs; omega
  rw [e, i64_or_nat x (y * m) (by omega) (by omega), or_mul x y i m hm hx]
  simp
theorem byte_at (s : List UInt8) (k : Nat) (K : Int) (hK : K = k) (h : k < s.length) : ∃ y : Int, y = ((bt s k).toNat : Int) ∧ (∀ wx : World, (Instr.index 9 (.string ⟨s.toArray⟩) (.int .i64 K)).run Tryd.prog wx = .ok (.int .u8 y) wx) ∧ 0 ≤ y ∧ y ≤ 255 := by
  refine ⟨_, rfl, fun wx => ?_, by omega, by have := (bt s k).toNat_lt; omega⟩
  subst hK
  rw [run_index_string wx 9 ⟨s.toArray⟩ .i64 (k : Int) Tryd.underlying9, dif_pos ⟨by omega, by rw [ba_size']; omega⟩, bt_lt h]
  rfl
/-- What the program reads in a header. -/
def parseM (s : List UInt8) : Int × Int × Bool :=
  if s.length < 5 then (0, 0, false) else if ((bt s 0).toNat < 1 ∨ 2 < (bt s 0).toNat) ∨ 65536 < Ck.hlen s then (0, 0, false) else ((bt s 0).toNat, Ck.hlen s, true)
set_option maxRecDepth 100000 in
theorem parse_c (s : List UInt8) (w : World) :
    Calls Tryd.prog 35 #[.string ⟨s.toArray⟩] w fun e w' => e = .returned (.tuple #[.int .i64 (parseM s).1, .int .i64 (parseM s).2.1, .bool (parseM s).2.2]) ∧ Below w.heap.size w w' := by
  unfold parseM
  by_cases h5 : s.length < 5
  · rw [if_pos h5]
    go_enter Tryd.func35, Tryd.ntmps35
    go_wp2_with fail
    refine bodyPost_ret (results_tmp3 rfl _ _ _) rfl ?_
    exact ⟨rfl, Below.refl _ _⟩
  · rw [if_neg h5]
    obtain ⟨y0, e0, hx0, lo0, hi0⟩ := byte_at s 0 0 rfl (by omega)
    obtain ⟨y1, e1, hx1, lo1, hi1⟩ := byte_at s 1 1 rfl (by omega)
    obtain ⟨y2, e2, hx2, lo2, hi2⟩ := byte_at s 2 2 rfl (by omega)
    obtain ⟨y3, e3, hx3, lo3, hi3⟩ := byte_at s 3 3 rfl (by omega)
    obtain ⟨y4, e4, hx4, lo4, hi4⟩ := byte_at s 4 4 rfl (by omega)
    have hor1 : bits BinOp.or IntKind.i64 y1 (y2 * 256) = y2 * 256 + y1 := or64 y1 y2 8 256 (by decide) lo1 (by omega) lo2 (by omega)
    obtain ⟨m1, hm1⟩ : ∃ m1, m1 = y2 * 256 + y1 := ⟨_, rfl⟩
    have hor2 : bits BinOp.or IntKind.i64 m1 (y3 * 65536) = y3 * 65536 + m1 := or64 m1 y3 16 65536 (by decide) (by omega) (by omega) lo3 (by omega)
    obtain ⟨m2, hm2⟩ : ∃ m2, m2 = y3 * 65536 + m1 := ⟨_, rfl⟩
    have hor3 : bits BinOp.or IntKind.i64 m2 (y4 * 16777216) = y4 * 16777216 + m2 := or64 m2 y4 24 16777216 (by decide) (by omega) (by omega) lo4 (by omega)
    obtain ⟨m3, hm3⟩ : ∃ m3, m3 = y4 * 16777216 + m2 := ⟨_, rfl⟩
    have hlen : m3 = (Ck.hlen s : Int) := by unfold Ck.hlen; omega
    have hm30 : 0 ≤ m3 := by omega
    have hm31 : m3 ≤ 4294967295 := by omega
    rw [← hm1] at hor1
    rw [← hm2] at hor2
    rw [← hm3] at hor3
    have E0 := Lib.hid e0
    have HLEN := Lib.hid hlen
    have hl5 : (5 : Int) ≤ (s.length : Int) := by omega
    by_cases hc : ((bt s 0).toNat < 1 ∨ 2 < (bt s 0).toNat) ∨ 65536 < Ck.hlen s
    · rw [if_pos hc]
      have hc' : (y0 < 1 ∨ 2 < y0) ∨ 65536 < m3 := by omega
      clear e0 e1 e2 e3 e4 hm1 hm2 hm3 hlen hc
      by_cases ha : y0 < 1
      · have hb : ¬ 2 < y0 := by omega
        clear hc'
        go_enter Tryd.func35, Tryd.ntmps35
        go_wp2_with fail
        go_quiet (fail)
        go_wp2_with fail
        refine bodyPost_ret (results_tmp3 rfl _ _ _) rfl ?_
        exact ⟨rfl, below_drewN' w _⟩
      · by_cases hb : 2 < y0
        · clear hc'
          go_enter Tryd.func35, Tryd.ntmps35
          go_wp2_with fail
          go_quiet (fail)
          go_wp2_with fail
          refine bodyPost_ret (results_tmp3 rfl _ _ _) rfl ?_
          exact ⟨rfl, below_drewN' w _⟩
        · have hd : 65536 < m3 := by omega
          clear hc'
          go_enter Tryd.func35, Tryd.ntmps35
          go_wp2_with fail
          go_quiet (fail)
          go_wp2_with fail
          refine bodyPost_ret (results_tmp3 rfl _ _ _) rfl ?_
          exact ⟨rfl, below_drewN' w _⟩
    · rw [if_neg hc, ← e0, ← hlen]
      have ha : ¬ y0 < 1 := by omega
      have hb : ¬ 2 < y0 := by omega
      have hd : ¬ 65536 < m3 := by omega
      clear e0 e1 e2 e3 e4 hm1 hm2 hm3 hlen hc
      go_enter Tryd.func35, Tryd.ntmps35
      go_wp2_with fail
      go_quiet (fail)
      go_wp2_with fail
      refine bodyPost_ret (results_tmp3 rfl _ _ _) rfl ?_
      exact ⟨rfl, below_drewN' w _⟩
end Go.Proofs.YtninopllfbiccaaDoor
