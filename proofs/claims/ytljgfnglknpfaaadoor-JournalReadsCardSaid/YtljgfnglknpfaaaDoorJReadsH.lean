/-
  JournalReads: what the law writes and reads.
-/
import Derived.Test.YtljgfnglknpfaaaDoorJLaw
import Derived.Test.YtljgfnglknpfaaaDoorJGiven
namespace Go.Proofs.YtljgfnglknpfaaaDoor
set_option maxRecDepth 100000
open Go Go.RowKit Go.Sort Dk Wire

set_option maxHeartbeats 1000000 in
theorem jreads_out (log raw : List UInt8) (hlog : log.length ≤ 9223372036854775807) (hraw : raw.length ≤ 9223372036854775807) (bytes n : Int) (w : World) (ht : Tab w) (hg : Good w) (he : ¬ (log.length ≤ 300 ∧ raw.length ≤ 300 ∧ n ≤ 400)) :
    Calls Tryd.prog 3 #[.string ⟨log.toArray⟩, .int .i64 bytes, .int .i64 n, .string ⟨raw.toArray⟩] w fun e w' => e = .returned (.bool true) ∧ RowKit.Below w.heap.size w w' := by
  go_enter Tryd.func3, Tryd.ntmps3
  go_wp2_with fail
  refine (jsmall_c w ht hg).mono ?_
  rintro e w1 ⟨rfl, hb1⟩
  have HB := Lib.hid hb1
  clear hb1
  by_cases h1 : (300 : Int) < (log.length : Int)
  · clear he
    go_wp2_with fail
    go_ret
    exact ⟨rfl, HB.out⟩
  · by_cases h2 : (300 : Int) < (raw.length : Int)
    · clear he
      go_wp2_with fail
      go_ret
      exact ⟨rfl, HB.out⟩
    · have h3 : (400 : Int) < n := by omega
      clear he
      go_wp2_with fail
      go_ret
      exact ⟨rfl, HB.out⟩

theorem eInt_len (n : Int) (h : InR n) : (eInt n).length ≤ 21 := by
  have h1 := itoa_len n h
  unfold eInt
  simp only [List.length_append, List.length_singleton]
  omega
/-- A number, read or not. -/
theorem num_uni (r : List UInt8) (f : Bool) (hlen : r.length < 4294967281) : ∃ (x : Int) (r' : List UInt8) (f' : Bool), (∀ (b : Nat) (w : World), Good w → Rd w b r f → Calls Tryd.prog 10 #[.pointer (some ⟨b, 0, none⟩)] w fun v w' => v = .returned (.int .i64 x) ∧ Rd w' b r' f' ∧ Only b w w') ∧ r'.length ≤ r.length ∧
    ((∃ n : Nat, x = (n : Int) ∧ (n : Int) ≤ 9223372036854775807 ∧ rNum 59 r = some (x, r') ∧ f' = f) ∨ (rNum 59 r = none ∧ r' = [] ∧ f' = true)) := by
  cases h : rNum 59 r with
  | none => exact ⟨0, [], true, fun b w hg hr => rNumM_no b r f h hlen w hg hr, Nat.zero_le _, Or.inr ⟨rfl, rfl, rfl⟩⟩
  | some p =>
    obtain ⟨x, r'⟩ := p
    obtain ⟨n, rfl, hn⟩ := num_nat h
    exact ⟨_, r', f, fun b w hg hr => rNumM_ok b r f _ r' h hlen w hg hr, Nat.le_of_lt (rNum_shorter (by decide) h), Or.inl ⟨n, rfl, hn, rfl, rfl⟩⟩
/-- The two numbers that a value holds, or not. -/
theorem two_nums (V : List UInt8) (hV : V.length < 4294967281) : ∃ (x1 : Int) (r1 : List UInt8) (f1 : Bool) (x2 : Int) (r2 : List UInt8) (f2 : Bool),
    (∀ (b : Nat) (w : World), Good w → Rd w b V false → Calls Tryd.prog 10 #[.pointer (some ⟨b, 0, none⟩)] w fun v w' => v = .returned (.int .i64 x1) ∧ Rd w' b r1 f1 ∧ Only b w w') ∧
    (∀ (b : Nat) (w : World), Good w → Rd w b r1 f1 → Calls Tryd.prog 10 #[.pointer (some ⟨b, 0, none⟩)] w fun v w' => v = .returned (.int .i64 x2) ∧ Rd w' b r2 f2 ∧ Only b w w') ∧
    (((!f2 && r2.isEmpty) = true ∧ ∃ b m : Nat, x1 = (b : Int) ∧ x2 = (m : Int) ∧ (m : Int) ≤ 9223372036854775807 ∧ Jn.nums V = some (b, m)) ∨ ((!f2 && r2.isEmpty) = false ∧ Jn.nums V = none)) := by
  obtain ⟨x1, r1, f1, c1, l1, h1⟩ := num_uni V false hV
  obtain ⟨x2, r2, f2, c2, l2, h2⟩ := num_uni r1 f1 (by omega)
  refine ⟨x1, r1, f1, x2, r2, f2, c1, c2, ?_⟩
  rcases h1 with ⟨n, rfl, hn, h1, rfl⟩ | ⟨h1, rfl, rfl⟩
  · rcases h2 with ⟨m, rfl, hm, h2, rfl⟩ | ⟨h2, rfl, rfl⟩
    · have hk := Jn.nums_ok h1 h2
      rw [Int.toNat_natCast, Int.toNat_natCast] at hk
      by_cases hr : r2 = []
      · subst hr
        exact Or.inl ⟨rfl, n, m, rfl, rfl, hm, by rw [hk, if_pos rfl]⟩
      · exact Or.inr ⟨by simp [hr], by rw [hk, if_neg hr]⟩
    · exact Or.inr ⟨rfl, Jn.nums_no2 h1 h2⟩
  · rcases h2 with ⟨m, rfl, hm, h2, rfl⟩ | ⟨h2, rfl, rfl⟩
    · rw [show rNum 59 [] = none from rfl] at h2; cases h2
    · exact Or.inr ⟨rfl, Jn.nums_no1 h1⟩
/-- The five bytes, as the law makes them. -/
theorem hform6 (n : Nat) (hn : n ≤ 300) (w : World) (T : TypeId) (j : Nat) (u : Value) (hu : (bytesV (Ck.header 1 n))[j]? = some u) :
    (w.alloc (.cells #[.int .u8 1, .int .u8 ((n : Int) % 256), .int .u8 ((n : Int) / 256), .int .u8 0, .int .u8 0] T)).cell? ⟨w.heap.size, 0 + j, none⟩ = some u := by
  have e0 : ((UInt8.ofNat 1).toNat : Int) = 1 := by decide
  have e1 : ((UInt8.ofNat n).toNat : Int) = (n : Int) % 256 := by show ((n % 256 : Nat) : Int) = _; omega
  have e2 : ((UInt8.ofNat (n / 256)).toNat : Int) = (n : Int) / 256 := by show ((n / 256 % 256 : Nat) : Int) = _; omega
  have e3 : ((UInt8.ofNat (n / 65536)).toNat : Int) = 0 := by show ((n / 65536 % 256 : Nat) : Int) = _; omega
  have e4 : ((UInt8.ofNat (n / 16777216)).toNat : Int) = 0 := by show ((n / 16777216 % 256 : Nat) : Int) = _; omega
  have hc := Lib.cell_of_heap (heap_alloc_new w (.cells #[.int .u8 1, .int .u8 ((n : Int) % 256), .int .u8 ((n : Int) / 256), .int .u8 0, .int .u8 0] T)) (0 + j)
  rw [hc, ← hu]
  unfold bytesV Ck.header
  simp only [List.map_cons, List.map_nil, e0, e1, e2, e3, e4, Nat.zero_add]
  exact (List.getElem?_toArray).trans rfl
/-- What Open makes of the bytes, against the numbers and the list. -/
theorem given_law (log V : List UInt8) (_h1 : log.length ≤ 300) (_h2 : V.length ≤ 300) :
    (Jn.nums V = none ∧ Jn.given 1 V log = (none, 2)) ∨ ∃ b m, Jn.nums V = some (b, m) ∧ ((log.length < b ∧ Jn.given 1 V log = (none, 2)) ∨ (b ≤ log.length ∧ ((Jn.listOf m (log.take b) = none ∧ Jn.given 1 V log = (none, 2)) ∨ ∃ l, Jn.listOf m (log.take b) = some l ∧ Jn.given 1 V log = (some ⟨⟨1, V, false⟩, l, false⟩, 0)))) := by
  unfold Jn.given
  cases Jn.nums V with
  | none => exact Or.inl ⟨rfl, rfl⟩
  | some p =>
    obtain ⟨b, m⟩ := p
    refine Or.inr ⟨b, m, rfl, ?_⟩
    dsimp only
    by_cases hb : log.length < b
    · exact Or.inl ⟨hb, by rw [if_pos hb]⟩
    · refine Or.inr ⟨by omega, ?_⟩
      rw [if_neg hb]
      cases Jn.listOf m (log.take b) with
      | none => exact Or.inl ⟨rfl, rfl⟩
      | some l => exact Or.inr ⟨l, rfl, rfl⟩

/-- The value that the law lays into the cell. -/
def val6 (raw : List UInt8) (bytes n : Int) : List UInt8 := if raw = [] then eInt bytes ++ eInt n else raw
end Go.Proofs.YtljgfnglknpfaaaDoor
