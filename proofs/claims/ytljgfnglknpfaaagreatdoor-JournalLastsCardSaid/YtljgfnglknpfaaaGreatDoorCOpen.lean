/-
  cell.Open: what the file says.
-/
import Derived.Test.YtljgfnglknpfaaaGreatDoorCForm
namespace Go.Proofs.YtljgfnglknpfaaaGreatDoor
set_option maxRecDepth 100000
open Go Go.RowKit Go.Maps Dk

/-- What Open returns, and what it leaves: the cell in a new block, if there is one; of what was there nothing turned. -/
def OpenRes (w w' : World) (d : Nat) (f : Int) (r : Option Ck.C × Int) (e : Ending) : Prop :=
  Below w.heap.size w w' ∧ match r.1 with
  | some c => ∃ b, w.heap.size ≤ b ∧ e = .returned (.tuple #[.pointer (some ⟨b, 0, none⟩), .int .i64 r.2]) ∧ CellAt w' b d f c
  | none => e = .returned (.tuple #[.pointer none, .int .i64 r.2])

theorem read_head (X : D) (f : Int) (h : X.down = false) (ho : ok f = true) (n : Nat) : X.read f 0 n = ((X.file f.toNat).now.take n, 0) := by
  unfold D.read
  rw [h, ho]
  simp
theorem read_at (X : D) (f : Int) (h : X.down = false) (ho : ok f = true) (a n : Nat) : X.read f a n = (((X.file f.toNat).now.drop a).take n, 0) := by
  unfold D.read
  rw [h, ho]
  simp
theorem bt_head (N : List UInt8) (i : Nat) (h : i < 5) : bt (N.take 5) i = bt N i := by rw [bt_take, if_pos h]
theorem hlen_head (N : List UInt8) : Ck.hlen (N.take 5) = Ck.hlen N := by
  unfold Ck.hlen
  rw [bt_head N 1 (by omega), bt_head N 2 (by omega), bt_head N 3 (by omega), bt_head N 4 (by omega)]

set_option maxRecDepth 100000 in
/-- The file can't be read. -/
theorem open_err (d : Nat) (S : Nat → Prop) (X : D) (f : Int) (hf : -9223372036854775808 ≤ f ∧ f ≤ 9223372036854775807) (w : World) (h : DiskIn w d S X) (r : Int) (hr : r ≠ 0) (hX : X.read f 0 5 = ([], r)) :
    Calls Tryz.prog 36 #[.pointer (some ⟨d, 0, none⟩), .int .i64 f] w fun e w' => OpenRes w w' d f (none, r) e := by
  have q := read_c d S X f 0 5 hf (by omega) (by omega) w h
  rw [hX] at q
  dsimp only at q
  have Q := Lib.hid q
  have hrb : (r != 0) = true := by simpa using hr
  clear h q hX hr
  go_enter Tryz.func36, Tryz.ntmps36
  go_wp2_with (go_at_call 25; refine Q.out.mono ?_; rintro e w1 ⟨rfl, hw⟩; rw [hw]; clear hw)
  go_ret2
  exact ⟨Below.refl _ _, rfl⟩

set_option maxRecDepth 100000 in
/-- No header: the file is empty. -/
theorem open_empty (d : Nat) (S : Nat → Prop) (X : D) (f : Int) (hf : -9223372036854775808 ≤ f ∧ f ≤ 9223372036854775807) (w : World) (h : DiskIn w d S X) (hX : X.read f 0 5 = ([], 0)) :
    Calls Tryz.prog 36 #[.pointer (some ⟨d, 0, none⟩), .int .i64 f] w fun e w' => OpenRes w w' d f (some ⟨0, [], false⟩, 0) e := by
  have q := read_c d S X f 0 5 hf (by omega) (by omega) w h
  rw [hX] at q
  dsimp only at q
  have Q := Lib.hid q
  clear h q hX
  go_enter Tryz.func36, Tryz.ntmps36
  go_wp2_with (go_at_call 25; refine Q.out.mono ?_; rintro e w1 ⟨rfl, hw⟩; rw [hw]; clear hw)
  go_ret2
  exact ⟨(Below.refl _ w).alloc (Nat.le_refl _) _, _, Nat.le_refl _, rfl, heap_alloc_new w _⟩

set_option maxRecDepth 100000 in
/-- No header: its first byte is 0. -/
theorem open_zero (d : Nat) (S : Nat → Prop) (X : D) (f : Int) (hf : -9223372036854775808 ≤ f ∧ f ≤ 9223372036854775807) (w : World) (h : DiskIn w d S X) (H : List UInt8) (hX : X.read f 0 5 = (H, 0)) (hH : H ≠ []) (h0 : bt H 0 = 0) :
    Calls Tryz.prog 36 #[.pointer (some ⟨d, 0, none⟩), .int .i64 f] w fun e w' => OpenRes w w' d f (some ⟨0, [], false⟩, 0) e := by
  have q := read_c d S X f 0 5 hf (by omega) (by omega) w h
  rw [hX] at q
  dsimp only at q
  have Q := Lib.hid q
  obtain ⟨y0, e0, hx0, lo0, hi0⟩ := byte_at H 0 0 rfl (List.length_pos_iff.2 hH)
  rw [h0] at e0
  obtain rfl : y0 = 0 := e0
  have hie : H.isEmpty = false := by simp [hH]
  clear h q hX hH
  go_enter Tryz.func36, Tryz.ntmps36
  go_wp2_with (go_at_call 25; refine Q.out.mono ?_; rintro e w1 ⟨rfl, hw⟩; rw [hw]; clear hw)
  go_ret2
  exact ⟨(Below.refl _ w).alloc (Nat.le_refl _) _, _, Nat.le_refl _, rfl, heap_alloc_new w _⟩

/-- The new cell's block behind parseHeader. -/
structure Boxed (w w2 : World) (d : Nat) (f : Int) : Prop where
  below : Below w.heap.size w w2
  at' : CellAt w2 w.heap.size d f ⟨0, [], false⟩
theorem boxed (w w2 : World) (d : Nat) (f : Int) (hb : Below (w.alloc (.cells #[.pointer (some ⟨d, 0, none⟩), .int .i64 f, .int .i64 0, .string ⟨#[]⟩, .bool false] 96)).heap.size (w.alloc (.cells #[.pointer (some ⟨d, 0, none⟩), .int .i64 f, .int .i64 0, .string ⟨#[]⟩, .bool false] 96)) w2) : Boxed w w2 d f := by
  have h1 : (w.alloc (.cells #[.pointer (some ⟨d, 0, none⟩), .int .i64 f, .int .i64 0, .string ⟨#[]⟩, .bool false] 96)).heap.size = w.heap.size + 1 := by simp
  refine ⟨⟨hb.os.trans rfl, hb.tape.trans rfl, hb.output.trans rfl, by have := hb.size; omega, fun i hi => ?_⟩, ?_⟩
  · rw [hb.block i (by omega)]
    exact ((Below.refl _ w).alloc (Nat.le_refl _) _).block i hi
  · show w2.heap[w.heap.size]? = _
    rw [hb.block w.heap.size (by omega)]
    exact heap_alloc_new w _

set_option maxRecDepth 100000 in
/-- A header that says nothing. -/
theorem open_bad (d : Nat) (S : Nat → Prop) (X : D) (f : Int) (hf : -9223372036854775808 ≤ f ∧ f ≤ 9223372036854775807) (w : World) (h : DiskIn w d S X) (H : List UInt8) (hX : X.read f 0 5 = (H, 0)) (hH : H ≠ []) (h0 : bt H 0 ≠ 0) (hP : parseM H = (0, 0, false)) :
    Calls Tryz.prog 36 #[.pointer (some ⟨d, 0, none⟩), .int .i64 f] w fun e w' => OpenRes w w' d f (none, 2) e := by
  have q := read_c d S X f 0 5 hf (by omega) (by omega) w h
  rw [hX] at q
  dsimp only at q
  have Q := Lib.hid q
  obtain ⟨y0, e0, hx0, lo0, hi0⟩ := byte_at H 0 0 rfl (List.length_pos_iff.2 hH)
  have hy0 : (y0 == 0) = false := by
    have : (bt H 0).toNat ≠ 0 := fun e => h0 (UInt8.toNat_inj.1 e)
    simp
    omega
  have hie : H.isEmpty = false := by simp [hH]
  have pa := parse_c H (w.alloc (.cells #[.pointer (some ⟨d, 0, none⟩), .int .i64 f, .int .i64 0, .string ⟨#[]⟩, .bool false] 96))
  rw [hP] at pa
  have PA := Lib.hid pa
  clear h q hX e0 hH pa hP h0
  go_enter Tryz.func36, Tryz.ntmps36
  go_wp2_with (first | (go_at_call 25; refine Q.out.mono ?_; rintro e w1 ⟨rfl, hw⟩; rw [hw]; clear hw) | (go_at_call 54; refine PA.out.mono ?_; rintro e w2 ⟨rfl, hb⟩))
  go_ret2
  exact ⟨(boxed w w2 d f hb).below, rfl⟩

/-- A header that names a slot and a length: what its value's part of the file says. -/
theorem parse_ok {H : List UInt8} {k n : Nat} (hP : parseM H = ((k : Int), (n : Int), true)) : (k = 1 ∨ k = 2) ∧ n ≤ 65536 := by
  unfold parseM at hP
  split at hP
  · simp at hP
  · split at hP
    · simp at hP
    · simp only [Prod.mk.injEq, and_true] at hP
      omega
theorem DiskIn.new' {w w2 : World} {d : Nat} {S : Nat → Prop} {X : D} (h : DiskIn w d S X) (hb : Below w.heap.size w w2) : DiskIn w2 d (fun k => S k ∧ k < w.heap.size) X := (h.mono (fun _ hk hs => ⟨hs, hk⟩)).kept (Kept.below hb) (fun _ e1 e2 => absurd e1.2 (Nat.not_lt.2 e2))

set_option maxRecDepth 100000 in
/-- The value is cut off. -/
theorem open_short (d : Nat) (S : Nat → Prop) (X : D) (f : Int) (hf : -9223372036854775808 ≤ f ∧ f ≤ 9223372036854775807) (w : World) (h : DiskIn w d S X) (ht : Tab w) (H : List UInt8) (hX : X.read f 0 5 = (H, 0)) (hH : H ≠ []) (h0 : bt H 0 ≠ 0) (k n : Nat) (hP : parseM H = ((k : Int), (n : Int), true)) (V : List UInt8) (hV : X.read f (Ck.start k : Nat) n = (V, 0)) (hn : V.length < n) :
    Calls Tryz.prog 36 #[.pointer (some ⟨d, 0, none⟩), .int .i64 f] w fun e w' => OpenRes w w' d f (none, 2) e := by
  have q := read_c d S X f 0 5 hf (by omega) (by omega) w h
  rw [hX] at q
  dsimp only at q
  have Q := Lib.hid q
  obtain ⟨y0, e0, hx0, lo0, hi0⟩ := byte_at H 0 0 rfl (List.length_pos_iff.2 hH)
  have hy0 : (y0 == 0) = false := by
    have : (bt H 0).toNat ≠ 0 := fun e => h0 (UInt8.toNat_inj.1 e)
    simp
    omega
  have hie : H.isEmpty = false := by simp [hH]
  obtain ⟨hk, hnl⟩ := parse_ok hP
  have pa := parse_c H (w.alloc (.cells #[.pointer (some ⟨d, 0, none⟩), .int .i64 f, .int .i64 0, .string ⟨#[]⟩, .bool false] 96))
  rw [hP] at pa
  dsimp only at pa
  have PA := Lib.hid (pa.mono (R' := fun e w2 => e = .returned (.tuple #[.int .i64 (k : Int), .int .i64 (n : Int), .bool true]) ∧ (w2.cell? ⟨w.heap.size, 2, none⟩ = some (.int .i64 0) ∧ w2.cell? ⟨w.heap.size, 3, none⟩ = some (.string ⟨#[]⟩) ∧ w2.frozen? ⟨w.heap.size, 2, none⟩ = false ∧ w2.frozen? ⟨w.heap.size, 3, none⟩ = false) ∧ Hid (Boxed w w2 d f)) (fun e w2 ⟨he, hb⟩ => by
    have B := boxed w w2 d f hb
    exact ⟨he, ⟨B.at'.c2, B.at'.c3, B.at'.z 2, B.at'.z 3⟩, B⟩))
  have BG := Lib.hid (fun w2 (B : Boxed w w2 d f) => begin_c k hk w2 (ht.kept (Kept.below B.below) (Nat.not_le.2 ht.lt)))
  have q2 : ∀ w2, Boxed w w2 d f → Calls Tryz.prog 25 #[.pointer (some ⟨d, 0, none⟩), .int .i64 f, .int .i64 (Ck.start k : Nat), .int .i64 (n : Int)] w2 fun e w' => e = .returned (.tuple #[.string ⟨V.toArray⟩, .int .i64 0]) ∧ w' = w2 := fun w2 B => by
    have hst := Ck.start_le k
    have := read_c d _ X f (Ck.start k : Nat) n hf (by omega) (by omega) w2 (h.new' B.below)
    rw [hV] at this
    exact this
  have Q2 := Lib.hid q2
  obtain ⟨a, ha⟩ : ∃ a : Int, a = ((Ck.start k : Nat) : Int) := ⟨_, rfl⟩
  rw [← ha] at BG Q2
  have hlt : (V.length : Int) < (n : Int) := by omega
  clear h q hX e0 hH pa hP h0 q2 ha hV hk
  go_enter Tryz.func36, Tryz.ntmps36
  go_wp2_with (first | (go_at_call 25; with_reducible refine Q.out.mono ?_; rintro e w1 ⟨rfl, hw⟩; rw [hw]; clear hw) | (go_at_call 54; refine PA.out.mono ?_; rintro e w2 ⟨rfl, ⟨j2, j3, z2, z3⟩, B⟩) | (go_at_call 55; refine (BG.out _ B.out).mono ?_; rintro e w3 ⟨rfl, hw⟩; rw [hw]; clear hw) | (go_at_call 25; with_reducible refine (Q2.out _ B.out).mono ?_; rintro e w3 ⟨rfl, hw⟩; rw [hw]; clear hw))
  go_ret2
  exact ⟨B.out.below, rfl⟩

set_option maxRecDepth 100000 in
/-- The cell with its value. -/
theorem open_good (d : Nat) (S : Nat → Prop) (X : D) (f : Int) (hf : -9223372036854775808 ≤ f ∧ f ≤ 9223372036854775807) (w : World) (h : DiskIn w d S X) (ht : Tab w) (H : List UInt8) (hX : X.read f 0 5 = (H, 0)) (hH : H ≠ []) (h0 : bt H 0 ≠ 0) (k n : Nat) (hP : parseM H = ((k : Int), (n : Int), true)) (V : List UInt8) (hV : X.read f (Ck.start k : Nat) n = (V, 0)) (hn : ¬ V.length < n) :
    Calls Tryz.prog 36 #[.pointer (some ⟨d, 0, none⟩), .int .i64 f] w fun e w' => OpenRes w w' d f (some ⟨k, V, false⟩, 0) e := by
  have q := read_c d S X f 0 5 hf (by omega) (by omega) w h
  rw [hX] at q
  dsimp only at q
  have Q := Lib.hid q
  obtain ⟨y0, e0, hx0, lo0, hi0⟩ := byte_at H 0 0 rfl (List.length_pos_iff.2 hH)
  have hy0 : (y0 == 0) = false := by
    have : (bt H 0).toNat ≠ 0 := fun e => h0 (UInt8.toNat_inj.1 e)
    simp
    omega
  have hie : H.isEmpty = false := by simp [hH]
  obtain ⟨hk, hnl⟩ := parse_ok hP
  have pa := parse_c H (w.alloc (.cells #[.pointer (some ⟨d, 0, none⟩), .int .i64 f, .int .i64 0, .string ⟨#[]⟩, .bool false] 96))
  rw [hP] at pa
  dsimp only at pa
  have PA := Lib.hid (pa.mono (R' := fun e w2 => e = .returned (.tuple #[.int .i64 (k : Int), .int .i64 (n : Int), .bool true]) ∧ (w2.cell? ⟨w.heap.size, 2, none⟩ = some (.int .i64 0) ∧ w2.cell? ⟨w.heap.size, 3, none⟩ = some (.string ⟨#[]⟩) ∧ w2.frozen? ⟨w.heap.size, 2, none⟩ = false ∧ w2.frozen? ⟨w.heap.size, 3, none⟩ = false) ∧ Hid (Boxed w w2 d f)) (fun e w2 ⟨he, hb⟩ => by
    have B := boxed w w2 d f hb
    exact ⟨he, ⟨B.at'.c2, B.at'.c3, B.at'.z 2, B.at'.z 3⟩, B⟩))
  have BG := Lib.hid (fun w2 (B : Boxed w w2 d f) => begin_c k hk w2 (ht.kept (Kept.below B.below) (Nat.not_le.2 ht.lt)))
  have q2 : ∀ w2, Boxed w w2 d f → Calls Tryz.prog 25 #[.pointer (some ⟨d, 0, none⟩), .int .i64 f, .int .i64 (Ck.start k : Nat), .int .i64 (n : Int)] w2 fun e w' => e = .returned (.tuple #[.string ⟨V.toArray⟩, .int .i64 0]) ∧ w' = w2 := fun w2 B => by
    have hst := Ck.start_le k
    have := read_c d _ X f (Ck.start k : Nat) n hf (by omega) (by omega) w2 (h.new' B.below)
    rw [hV] at this
    exact this
  have Q2 := Lib.hid q2
  obtain ⟨a, ha⟩ : ∃ a : Int, a = ((Ck.start k : Nat) : Int) := ⟨_, rfl⟩
  rw [← ha] at BG Q2
  have hlt : ¬ (V.length : Int) < (n : Int) := by omega
  clear h q hX e0 hH pa hP h0 q2 ha hV hk
  go_enter Tryz.func36, Tryz.ntmps36
  go_wp2_with (first | (go_at_call 25; with_reducible refine Q.out.mono ?_; rintro e w1 ⟨rfl, hw⟩; rw [hw]; clear hw) | (go_at_call 54; refine PA.out.mono ?_; rintro e w2 ⟨rfl, ⟨j2, j3, z2, z3⟩, B⟩) | (go_at_call 55; refine (BG.out _ B.out).mono ?_; rintro e w3 ⟨rfl, hw⟩; rw [hw]; clear hw) | (go_at_call 25; with_reducible refine (Q2.out _ B.out).mono ?_; rintro e w3 ⟨rfl, hw⟩; rw [hw]; clear hw))
  go_ret2
  exact ⟨((B.out.below).setCell (p := ⟨w.heap.size, 2, none⟩) (Nat.le_refl _) _).setCell (p := ⟨w.heap.size, 3, none⟩) (Nat.le_refl _) _, _, Nat.le_refl _, rfl, cells5_set (cells5_set B.out.at' 2 _ (by omega)) 3 _ (by omega)⟩

/-- Open is what the model says. -/
theorem open_c (d : Nat) (S : Nat → Prop) (X : D) (f : Int) (hf : -9223372036854775808 ≤ f ∧ f ≤ 9223372036854775807) (w : World) (h : DiskIn w d S X) (ht : Tab w) :
    Calls Tryz.prog 36 #[.pointer (some ⟨d, 0, none⟩), .int .i64 f] w fun e w' => OpenRes w w' d f (Ck.openM X f) e := by
  unfold Ck.openM
  cases hd : X.down with
  | true =>
    rw [if_pos rfl]
    exact open_err d S X f hf w h 9 (by omega) (by unfold D.read; rw [hd]; rfl)
  | false =>
    rw [if_neg (by simp)]
    cases ho : ok f with
    | false =>
      rw [if_neg (by simp)]
      exact open_err d S X f hf w h 1 (by omega) (by unfold D.read; rw [hd, ho]; rfl)
    | true =>
      rw [if_pos rfl]
      have hr := read_head X f hd ho 5
      obtain ⟨N, hN⟩ : ∃ N, N = (X.file f.toNat).now := ⟨_, rfl⟩
      rw [← hN] at hr ⊢
      obtain ⟨H, hH⟩ : ∃ H, H = N.take 5 := ⟨_, rfl⟩
      have hb0 : bt N 0 = bt H 0 := by rw [hH, bt_head N 0 (by omega)]
      have hhl : Ck.hlen N = Ck.hlen H := by rw [hH, hlen_head]
      have hlen : H.length = min 5 N.length := by rw [hH]; simp
      have hr' : X.read f 0 5 = (H, 0) := by rw [hH]; exact_mod_cast hr
      unfold Ck.openB
      by_cases hne : H = []
      · have hNe : N = [] := by
          rw [hne] at hlen
          simp only [List.length_nil] at hlen
          exact List.eq_nil_of_length_eq_zero (by omega)
        rw [if_pos (by rw [hNe]; rfl)]
        rw [hne] at hr'
        exact open_empty d S X f hf w h hr'
      · by_cases h0 : bt N 0 = 0
        · rw [if_pos h0]
          exact open_zero d S X f hf w h H hr' hne (hb0.symm.trans h0)
        · rw [if_neg h0]
          have h0' : bt H 0 ≠ 0 := fun e => h0 (hb0.trans e)
          have hn0 : (bt H 0).toNat ≠ 0 := fun e => h0' (UInt8.toNat_inj.1 e)
          by_cases h5 : N.length < 5
          · rw [if_pos h5]
            exact open_bad d S X f hf w h H hr' hne h0' (by unfold parseM; rw [if_pos (by omega)])
          · rw [if_neg h5, hhl, hb0]
            have h12 : (bt H 0 ≠ 1 ∧ bt H 0 ≠ 2) ↔ ((bt H 0).toNat < 1 ∨ 2 < (bt H 0).toNat) := by
              constructor
              · rintro ⟨e1, e2⟩
                have n1 : (bt H 0).toNat ≠ 1 := fun e => e1 (UInt8.toNat_inj.1 e)
                have n2 : (bt H 0).toNat ≠ 2 := fun e => e2 (UInt8.toNat_inj.1 e)
                omega
              · intro e
                refine ⟨fun e1 => ?_, fun e1 => ?_⟩ <;> rw [e1] at e <;> revert e <;> decide
            by_cases hc : (bt H 0 ≠ 1 ∧ bt H 0 ≠ 2) ∨ 65536 < Ck.hlen H
            · rw [if_pos hc]
              refine open_bad d S X f hf w h H hr' hne h0' ?_
              unfold parseM
              rw [if_neg (by omega), if_pos (hc.imp h12.1 id)]
            · rw [if_neg hc]
              have hP : parseM H = (((bt H 0).toNat : Int), (Ck.hlen H : Int), true) := by
                unfold parseM
                rw [if_neg (by omega), if_neg (fun e => hc (e.imp h12.2 id))]
              have hV := read_at X f hd ho (Ck.start (bt H 0).toNat) (Ck.hlen H)
              rw [← hN] at hV
              by_cases hv : ((N.drop (Ck.start (bt H 0).toNat)).take (Ck.hlen H)).length ≠ Ck.hlen H
              · rw [if_pos hv]
                exact open_short d S X f hf w h ht H hr' hne h0' _ _ hP _ hV (by
                  have : ((N.drop (Ck.start (bt H 0).toNat)).take (Ck.hlen H)).length ≤ Ck.hlen H := List.length_take_le _ _
                  omega)
              · rw [if_neg hv]
                exact open_good d S X f hf w h ht H hr' hne h0' _ _ hP _ hV (by omega)
end Go.Proofs.YtljgfnglknpfaaaGreatDoor
