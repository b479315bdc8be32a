/-
  cell: the header written and read.
  cell: the steps of Set, one behind the other: what each leaves of the disk and the cell.
-/
import Derived.Test.YtljgfnglknpfaaaGreatDoorCHead
import Derived.Laws.BitsAllLaws
namespace Go.Proofs.YtljgfnglknpfaaaGreatDoor
set_option maxRecDepth 100000
open Go Go.RowKit Go.Maps Dk

/-- The cells of five bytes in a block of their own hold the header. -/
theorem form_cells (k n : Nat) (hk : k ≤ 2) (hn : n ≤ 65536) (w : World) (T : TypeId) (j : Nat) (u : Value) (hu : (bytesV (Ck.header k n))[j]? = some u) :
    (w.alloc (.cells #[.int .u8 (k : Int), .int .u8 ((n : Int) % 256), .int .u8 ((n : Int) / 256 % 256), .int .u8 ((n : Int) / 65536), .int .u8 ((n : Int) / 16777216)] T)).cell? ⟨w.heap.size, 0 + j, none⟩ = some u := by
  have e0 : ((UInt8.ofNat k).toNat : Int) = k := by show ((k % 256 : Nat) : Int) = k; omega
  have e1 : ((UInt8.ofNat n).toNat : Int) = (n : Int) % 256 := by show ((n % 256 : Nat) : Int) = _; omega
  have e2 : ((UInt8.ofNat (n / 256)).toNat : Int) = (n : Int) / 256 % 256 := by show ((n / 256 % 256 : Nat) : Int) = _; omega
  have e3 : ((UInt8.ofNat (n / 65536)).toNat : Int) = (n : Int) / 65536 := by show ((n / 65536 % 256 : Nat) : Int) = _; omega
  have e4 : ((UInt8.ofNat (n / 16777216)).toNat : Int) = (n : Int) / 16777216 := by show ((n / 16777216 % 256 : Nat) : Int) = _; omega
  have hc := Lib.cell_of_heap (heap_alloc_new w (.cells #[.int .u8 (k : Int), .int .u8 ((n : Int) % 256), .int .u8 ((n : Int) / 256 % 256), .int .u8 ((n : Int) / 65536), .int .u8 ((n : Int) / 16777216)] T)) (0 + j)
  rw [hc, ← hu]
  unfold bytesV Ck.header
  simp only [List.map_cons, List.map_nil, e0, e1, e2, e3, e4, Nat.zero_add]
  exact (List.getElem?_toArray).trans rfl

set_option maxRecDepth 100000 in
theorem form_c (k n : Nat) (hk : k ≤ 2) (hn : n ≤ 65536) (w : World) :
    Calls Tryz.prog 62 #[.int .i64 (k : Int), .int .i64 (n : Int)] w fun e w' => e = .returned (.string ⟨(Ck.header k n).toArray⟩) ∧ Below w.heap.size w w' := by
  have hcv := conv_src (some ⟨w.heap.size, 0, none⟩) 5 (Ck.header k n) (w.alloc (.cells #[.int .u8 (k : Int), .int .u8 ((n : Int) % 256), .int .u8 ((n : Int) / 256 % 256), .int .u8 ((n : Int) / 65536), .int .u8 ((n : Int) / 16777216)] 5)) (fun _ => ⟨w.heap.size, 0, rfl, fun j u hu => form_cells k n hk hn w 5 j u hu⟩)
  rw [Ck.header_length] at hcv
  go_enter Tryz.func62, Tryz.ntmps62
  go_wp2_with fail
  go_ret
  exact ⟨rfl, (Below.refl _ w).alloc (Nat.le_refl _) _⟩

theorem or_mul (a b i m : Nat) (hm : m = 2 ^ i) (h : a < m) : a ||| (b * m) = b * m + a := by
  subst hm
  rw [Nat.or_comm, ← Nat.shiftLeft_eq, Nat.shiftLeft_add_eq_or_of_lt h]
theorem i64_or_nat (a b : Nat) (ha : a < 4611686018427387904) (hb : b < 4611686018427387904) : bits .or .i64 (a : Int) (b : Int) = ((a ||| b : Nat) : Int) := by
  have hx : a ||| b < 2 ^ 62 := Nat.or_lt_two_pow (by omega) (by omega)
  show IntKind.i64.wrap ((BitVec.ofInt 64 (a : Int) ||| BitVec.ofInt 64 (b : Int)).toNat : Int) = _
  rw [BitVec.toNat_or, ofInt_u64 a (by omega), ofInt_u64 b (by omega), IntKind.wrap_i64]
  omega
theorem or64 (a b : Int) (i : Nat) (m : Nat) (hm : m = 2 ^ i) (h0 : 0 ≤ a) (h : a < m) (hb : 0 ≤ b) (hs : b * m + a < 4611686018427387904) : bits BinOp.or IntKind.i64 a (b * (m : Int)) = b * m + a := by
  obtain ⟨x, rfl⟩ := Int.eq_ofNat_of_zero_le h0
  obtain ⟨y, rfl⟩ := Int.eq_ofNat_of_zero_le hb
  have e : ((y : Int) * (m : Int)) = ((y * m : Nat) : Int) := by simp
  have hx : x < m := by omega
  have hp : y * m + x < 4611686018427387904 := by rw [e] at hs; omega
  rw [e, i64_or_nat x (y * m) (by omega) (by omega), or_mul x y i m hm hx]
  simp
theorem byte_at (s : List UInt8) (k : Nat) (K : Int) (hK : K = k) (h : k < s.length) : ∃ y : Int, y = ((bt s k).toNat : Int) ∧ (∀ wx : World, (Instr.index 9 (.string ⟨s.toArray⟩) (.int .i64 K)).run Tryz.prog wx = .ok (.int .u8 y) wx) ∧ 0 ≤ y ∧ y ≤ 255 := by
  refine ⟨_, rfl, fun wx => ?_, by omega, by have := (bt s k).toNat_lt; omega⟩
  subst hK
  rw [run_index_string wx 9 ⟨s.toArray⟩ .i64 (k : Int) Tryz.underlying9, dif_pos ⟨by omega, by rw [ba_size']; omega⟩, bt_lt h]
  rfl
/-- What the program reads in a header. -/
def parseM (s : List UInt8) : Int × Int × Bool :=
  if s.length < 5 then (0, 0, false) else if ((bt s 0).toNat < 1 ∨ 2 < (bt s 0).toNat) ∨ 65536 < Ck.hlen s then (0, 0, false) else ((bt s 0).toNat, Ck.hlen s, true)
set_option maxRecDepth 100000 in
theorem parse_c (s : List UInt8) (w : World) :
    Calls Tryz.prog 54 #[.string ⟨s.toArray⟩] w fun e w' => e = .returned (.tuple #[.int .i64 (parseM s).1, .int .i64 (parseM s).2.1, .bool (parseM s).2.2]) ∧ Below w.heap.size w w' := by
  unfold parseM
  by_cases h5 : s.length < 5
  · rw [if_pos h5]
    go_enter Tryz.func54, Tryz.ntmps54
    go_wp2_with fail
    refine bodyPost_ret (results_tmp3 rfl _ _ _) rfl ?_
    exact ⟨rfl, Below.refl _ _⟩
  · rw [if_neg h5]
    obtain ⟨y0, e0, hx0, lo0, hi0⟩ := byte_at s 0 0 rfl (by omega)
    obtain ⟨y1, e1, hx1, lo1, hi1⟩ := byte_at s 1 1 rfl (by omega)
    obtain ⟨y2, e2, hx2, lo2, hi2⟩ := byte_at s 2 2 rfl (by omega)
    obtain ⟨y3, e3, hx3, lo3, hi3⟩ := byte_at s 3 3 rfl (by omega)
    obtain ⟨y4, e4, hx4, lo4, hi4⟩ := byte_at s 4 4 rfl (by omega)
    have hor1 : bits BinOp.or IntKind.i64 y1 (y2 * 256) = y2 * 256 + y1 := or64 y1 y2 8 256 (by decide) lo1 (by omega) lo2 (by omega)
    obtain ⟨m1, hm1⟩ : ∃ m1, m1 = y2 * 256 + y1 := ⟨_, rfl⟩
    have hor2 : bits BinOp.or IntKind.i64 m1 (y3 * 65536) = y3 * 65536 + m1 := or64 m1 y3 16 65536 (by decide) (by omega) (by omega) lo3 (by omega)
    obtain ⟨m2, hm2⟩ : ∃ m2, m2 = y3 * 65536 + m1 := ⟨_, rfl⟩
    have hor3 : bits BinOp.or IntKind.i64 m2 (y4 * 16777216) = y4 * 16777216 + m2 := or64 m2 y4 24 16777216 (by decide) (by omega) (by omega) lo4 (by omega)
    obtain ⟨m3, hm3⟩ : ∃ m3, m3 = y4 * 16777216 + m2 := ⟨_, rfl⟩
    have hlen : m3 = (Ck.hlen s : Int) := by unfold Ck.hlen; omega
    have hm30 : 0 ≤ m3 := by omega
    have hm31 : m3 ≤ 4294967295 := by omega
    rw [← hm1] at hor1
    rw [← hm2] at hor2
    rw [← hm3] at hor3
    have E0 := Lib.hid e0
    have HLEN := Lib.hid hlen
    have hl5 : (5 : Int) ≤ (s.length : Int) := by omega
    by_cases hc : ((bt s 0).toNat < 1 ∨ 2 < (bt s 0).toNat) ∨ 65536 < Ck.hlen s
    · rw [if_pos hc]
      have hc' : (y0 < 1 ∨ 2 < y0) ∨ 65536 < m3 := by omega
      clear e0 e1 e2 e3 e4 hm1 hm2 hm3 hlen hc
      by_cases ha : y0 < 1
      · have hb : ¬ 2 < y0 := by omega
        clear hc'
        go_enter Tryz.func54, Tryz.ntmps54
        go_wp2_with fail
        go_quiet (fail)
        go_wp2_with fail
        refine bodyPost_ret (results_tmp3 rfl _ _ _) rfl ?_
        exact ⟨rfl, below_drewN' w _⟩
      · by_cases hb : 2 < y0
        · clear hc'
          go_enter Tryz.func54, Tryz.ntmps54
          go_wp2_with fail
          go_quiet (fail)
          go_wp2_with fail
          refine bodyPost_ret (results_tmp3 rfl _ _ _) rfl ?_
          exact ⟨rfl, below_drewN' w _⟩
        · have hd : 65536 < m3 := by omega
          clear hc'
          go_enter Tryz.func54, Tryz.ntmps54
          go_wp2_with fail
          go_quiet (fail)
          go_wp2_with fail
          refine bodyPost_ret (results_tmp3 rfl _ _ _) rfl ?_
          exact ⟨rfl, below_drewN' w _⟩
    · rw [if_neg hc, ← e0, ← hlen]
      have ha : ¬ y0 < 1 := by omega
      have hb : ¬ 2 < y0 := by omega
      have hd : ¬ 65536 < m3 := by omega
      clear e0 e1 e2 e3 e4 hm1 hm2 hm3 hlen hc
      go_enter Tryz.func54, Tryz.ntmps54
      go_wp2_with fail
      go_quiet (fail)
      go_wp2_with fail
      refine bodyPost_ret (results_tmp3 rfl _ _ _) rfl ?_
      exact ⟨rfl, below_drewN' w _⟩
end Go.Proofs.YtljgfnglknpfaaaGreatDoor

namespace Go.Proofs.YtljgfnglknpfaaaGreatDoor
set_option maxRecDepth 100000
open Go Go.RowKit Go.Maps Dk

theorem CStep.start {w : World} {d b : Nat} {f : Int} {S : Nat → Prop} {X : D} {c : Ck.C} (h : DiskIn w d S X) (hc : CellAt w b d f c) : CStep w w d b f S X c := ⟨h.same w, hc, Kept.refl _ _⟩
theorem CStep.after {w w1 w2 : World} {d b : Nat} {f : Int} {S : Nat → Prop} {X : D} {c : Ck.C} (h : CStep w w1 d b f S X c) (hk : Kept (fun _ => False) w1 w2) : CStep w w2 d b f S X c :=
  ⟨h.1.kept hk (fun _ _ e => e), h.2.1.kept hk (fun e => e), h.2.2.trans hk (fun _ _ e => e.elim)⟩
theorem CStep.drew {w w1 : World} {d b : Nat} {f : Int} {S : Nat → Prop} {X : D} {c : Ck.C} (h : CStep w w1 d b f S X c) : CStep w w1.drew d b f S X c := h.after (Kept.drew _ _)
theorem CStep.below {w w1 w2 : World} {d b : Nat} {f : Int} {S : Nat → Prop} {X : D} {c : Ck.C} (h : CStep w w1 d b f S X c) (hb : Below w1.heap.size w1 w2) : CStep w w2 d b f S X c := h.after (Kept.below hb)
theorem CStep.on {w w1 w2 : World} {d b : Nat} {f : Int} {S : Nat → Prop} {X X' : D} {c : Ck.C} (h : CStep w w1 d b f S X c) (hb : ¬ S b) (hbl : b < w.heap.size) (h1 : DiskIn w2 d (After (After S w) w1) X') (h2 : Kept (After S w) w1 w2) : CStep w w2 d b f S X' c :=
  ⟨h1.mono (fun k _ e => After.trans h.2.2.size k e), h.2.1.kept h2 (fun e => e.elim hb (fun e => absurd hbl (Nat.not_lt.2 e))), h.2.2.trans h2 (fun _ hk e => e.elim (fun e => Or.inl e) (fun e => absurd hk (Nat.not_lt.2 e)))⟩
theorem CStep.tab {w w1 : World} {d b : Nat} {f : Int} {S : Nat → Prop} {X : D} {c : Ck.C} (h : CStep w w1 d b f S X c) (ht : Tab w) (h1 : ¬ S 0) (h2 : b ≠ 0) : Tab w1 := ht.kept h.2.2 (fun e => e.elim h1 (fun e => h2 e.symm))

/-- What a step hands on: the cells of the cell's block, hidden the whole. -/
structure CFacts (w w1 : World) (d b : Nat) (f : Int) (S : Nat → Prop) (X : D) (c : Ck.C) : Prop where
  c0 : w1.cell? ⟨b, 0, none⟩ = some (.pointer (some ⟨d, 0, none⟩))
  c1 : w1.cell? ⟨b, 1, none⟩ = some (.int .i64 f)
  c2 : w1.cell? ⟨b, 2, none⟩ = some (.int .i64 (c.slot : Int))
  c3 : w1.cell? ⟨b, 3, none⟩ = some (.string ⟨c.val.toArray⟩)
  c4 : w1.cell? ⟨b, 4, none⟩ = some (.bool c.sure)
  z2 : w1.frozen? ⟨b, 2, none⟩ = false
  z3 : w1.frozen? ⟨b, 3, none⟩ = false
  z4 : w1.frozen? ⟨b, 4, none⟩ = false
theorem CStep.facts {w w1 : World} {d b : Nat} {f : Int} {S : Nat → Prop} {X : D} {c : Ck.C} (h : CStep w w1 d b f S X c) : CFacts w w1 d b f S X c := ⟨h.2.1.c0, h.2.1.c1, h.2.1.c2, h.2.1.c3, h.2.1.c4, h.2.1.z 2, h.2.1.z 3, h.2.1.z 4⟩

theorem step_secure {w w1 : World} {d b : Nat} {f : Int} {S : Nat → Prop} {X : D} {c : Ck.C} (h : CStep w w1 d b f S X c) (hf : -9223372036854775808 ≤ f ∧ f ≤ 9223372036854775807) (hb : ¬ S b) (hbl : b < w.heap.size) :
    Calls Tryz.prog 60 #[.pointer (some ⟨b, 0, none⟩)] w1 fun e w2 => e = .returned (.int .i64 (X.sync f).2) ∧ Hid (CStep w w2 d b f S (X.sync f).1 { c with sure := (X.sync f).2 == 0 }) := by
  have hb' : ¬ After S w b := fun e => e.elim hb (fun e => absurd hbl (Nat.not_lt.2 e))
  refine (secure_c b d f hf c (After S w) X w1 h.1 h.2.1 hb').mono ?_
  rintro e w2 ⟨rfl, h1, h2, h3⟩
  exact ⟨rfl, h1.mono (fun k _ e => After.trans h.2.2.size k e), h2, h.2.2.trans h3 (fun k hk e => by
    rcases e with (e | e) | e
    · exact Or.inl e
    · exact absurd hk (Nat.not_lt.2 e)
    · exact Or.inr e)⟩
theorem step_write {w w1 : World} {d b : Nat} {f : Int} {S : Nat → Prop} {X : D} {c : Ck.C} (h : CStep w w1 d b f S X c) (hf : -9223372036854775808 ≤ f ∧ f ≤ 9223372036854775807) (hb : ¬ S b) (hbl : b < w.heap.size) (a : Nat) (ha : a ≤ 131072) (s : List UInt8) (hs : s.length ≤ 65536) :
    Calls Tryz.prog 47 #[.pointer (some ⟨d, 0, none⟩), .int .i64 f, .int .i64 (a : Int), .string ⟨s.toArray⟩] w1 fun e w2 => e = .returned (.int .i64 (X.write f a s).2) ∧ Hid (CStep w w2 d b f S (X.write f a s).1 c) := by
  refine (write_c d (After S w) X f a s hf (by omega) (by omega) w1 h.1).mono ?_
  rintro e w2 ⟨rfl, h1, h2⟩
  exact ⟨rfl, h.on hb hbl h1 h2⟩
theorem step_sync {w w1 : World} {d b : Nat} {f : Int} {S : Nat → Prop} {X : D} {c : Ck.C} (h : CStep w w1 d b f S X c) (hf : -9223372036854775808 ≤ f ∧ f ≤ 9223372036854775807) (hb : ¬ S b) (hbl : b < w.heap.size) :
    Calls Tryz.prog 35 #[.pointer (some ⟨d, 0, none⟩), .int .i64 f] w1 fun e w2 => e = .returned (.int .i64 (X.sync f).2) ∧ Hid (CStep w w2 d b f S (X.sync f).1 c) := by
  refine (sync_c d (After S w) X f hf w1 h.1).mono ?_
  rintro e w2 ⟨rfl, h1, h2⟩
  exact ⟨rfl, h.on hb hbl h1 h2⟩
theorem step_other {w w1 : World} {d b : Nat} {f : Int} {S : Nat → Prop} {X : D} {c : Ck.C} (h : CStep w w1 d b f S X c) :
    Calls Tryz.prog 61 #[.pointer (some ⟨b, 0, none⟩)] w1 fun e w2 => e = .returned (.int .i64 (Ck.other c.slot : Nat)) ∧ w2 = w1 := other_c b d f c w1 h.2.1
theorem step_form {w w1 : World} {d b : Nat} {f : Int} {S : Nat → Prop} {X : D} {c : Ck.C} (h : CStep w w1 d b f S X c) (k n : Nat) (hk : k ≤ 2) (hn : n ≤ 65536) :
    Calls Tryz.prog 62 #[.int .i64 (k : Int), .int .i64 (n : Int)] w1 fun e w2 => e = .returned (.string ⟨(Ck.header k n).toArray⟩) ∧ w2.cell? ⟨b, 0, none⟩ = some (.pointer (some ⟨d, 0, none⟩)) ∧ w2.cell? ⟨b, 1, none⟩ = some (.int .i64 f) ∧ Hid (CStep w w2 d b f S X c) := by
  refine (form_c k n hk hn w1).mono ?_
  rintro e w2 ⟨rfl, hb⟩
  have h2 := h.below hb
  exact ⟨rfl, h2.2.1.c0, h2.2.1.c1, h2⟩
end Go.Proofs.YtljgfnglknpfaaaGreatDoor
