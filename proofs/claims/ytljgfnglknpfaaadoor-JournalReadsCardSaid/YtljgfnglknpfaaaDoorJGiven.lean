/-
  Opening a journal of given bytes.
-/
import Derived.Test.YtljgfnglknpfaaaDoorJModel
namespace Go.Proofs.YtljgfnglknpfaaaDoor
open Dk Wire
namespace Jn
theorem Plain.write_file {d : D} (h : Plain d) {f : Nat} (hf : f < 16) {a : Nat} {s : List UInt8} (ha : a + s.length ≤ 16777216) : (d.write f a s).1.file = upd d.file f ((d.file f).write a s) := by
  have hp : d.put f a s = ({ d with file := upd d.file f ((d.file f).write a s), queue := d.queue ++ ((d.file f).added a s).map fun n => (f, n) }, 0) := by
    unfold D.put
    rw [Ck.ok_lt hf, decide_eq_true (show (0 : Int) ≤ (a : Int) by omega), if_pos (show (true && true) = true from rfl), if_pos (by omega)]
    simp only [Int.toNat_natCast]
  unfold D.write
  rw [if_neg (by rw [h.up]; simp)]
  dsimp only
  rw [hp]
  obtain ⟨q, hq⟩ : ∃ q : D, q = { d with file := upd d.file f ((d.file f).write a s), queue := d.queue ++ ((d.file f).added a s).map fun n => (f, n) } := ⟨_, rfl⟩
  rw [← hq]
  have hl : q.left = 0 := by rw [hq]; exact h.left
  have hs : q.strike = (q, false) := by unfold D.strike; rw [if_pos hl]
  dsimp only
  rw [hs, if_neg (by simp), hq]
theorem Plain.sync_now {d : D} (h : Plain d) {f : Nat} (hf : f < 16) (i : Nat) : ((d.sync f).1.file i).now = (d.file i).now := by
  have hs : d.strike = (d, false) := by unfold D.strike; rw [if_pos h.left]
  have e : d.sync f = (d.settle (f : Int).toNat, 0) := by
    unfold D.sync
    rw [if_neg (by rw [h.up]; simp)]
    dsimp only
    rw [hs, if_neg (by simp), Ck.ok_lt hf, if_pos rfl, if_neg (by rw [h.lost]; omega)]
  rw [e]
  show (upd d.file (f : Int).toNat (d.file (f : Int).toNat).settle i).now = _
  unfold upd
  split
  · next e => subst e; rfl
  · rfl
/-- What Open makes of the bytes of the two files. -/
def given (k : Nat) (v N : List UInt8) : Option J × Int :=
  match nums v with
  | none => (none, 2)
  | some p => if N.length < p.1 then (none, 2) else match listOf p.2 (N.take p.1) with
    | none => (none, 2)
    | some l => (some ⟨⟨k, v, false⟩, l, false⟩, 0)
theorem openC_given {d : D} {f k : Nat} {v N : List UInt8} (hf : f < 15) (hd : d.down = false) (hH : Ck.Holds (d.file (f + 1)).now k v) (hk : k ≠ 0) (hN : (d.file f).now = N) : openC d f = given k v N := by
  have ho : Ck.openM d ((f + 1 : Nat) : Int) = (some ⟨k, v, false⟩, 0) := by
    unfold Ck.openM
    rw [if_neg (by rw [hd]; simp), Ck.ok_lt (by omega), if_pos rfl, Int.toNat_natCast]
    exact hH.open
  unfold openC given
  rw [int_succ, ho]
  dsimp only
  rw [if_neg hk]
  cases nums v with
  | none => rfl
  | some p =>
    obtain ⟨b, n⟩ := p
    have hr : d.read f 0 (b : Nat) = (N.take b, 0) := by
      unfold D.read
      rw [if_neg (by rw [hd]; simp), Ck.ok_lt (by omega), decide_eq_true (show (0 : Int) ≤ 0 by omega), decide_eq_true (show (0 : Int) ≤ (b : Int) by omega), if_pos (by rfl)]
      simp only [Int.toNat_natCast, Int.toNat_zero, List.drop_zero]
      rw [hN]
    dsimp only
    rw [hr]
    dsimp only
    rw [if_neg (fun h => h rfl)]
    by_cases hb : N.length < b
    · rw [if_pos hb, if_pos (by simp; omega)]
    · rw [if_neg hb, if_neg (by simp; omega)]
      cases listOf n (N.take b) <;> rfl
theorem bt_nil (i : Nat) : bt [] i = 0 := bt_ge (Nat.zero_le _)
/-- The bytes of a log and of a cell are written into new files, and opened. -/
theorem open_given (f : Nat) (hf : f < 15) (log v : List UInt8) (hl : log.length ≤ 65536) (hv : v.length ≤ 65536) :
    ∃ d1 d2 d3 e : D, D.new.write f 0 log = (d1, 0) ∧ d1.write ((f + 1 : Nat) : Int) 64 v = (d2, 0) ∧ d2.write ((f + 1 : Nat) : Int) 0 (Ck.header 1 v.length) = (d3, 0) ∧ openJ d3 f = (e, given 1 v log) := by
  have n00 : ¬ (0 : Int) ≠ 0 := fun h => h rfl
  have w1 := plain_new.write (f := f) (a := 0) (s := log) (by omega) (by omega)
  have f1 := plain_new.write_file (f := f) (a := 0) (s := log) (by omega) (by omega)
  obtain ⟨⟨d1, z1⟩, h1⟩ : ∃ r, D.new.write f ((0 : Nat) : Int) log = r := ⟨_, rfl⟩
  rw [h1] at w1 f1
  obtain ⟨rfl, p1⟩ := w1
  have w2 := p1.write (f := f + 1) (a := 64) (s := v) (by omega) (by omega)
  have f2 := p1.write_file (f := f + 1) (a := 64) (s := v) (by omega) (by omega)
  obtain ⟨⟨d2, z2⟩, h2⟩ : ∃ r, d1.write ((f + 1 : Nat) : Int) ((64 : Nat) : Int) v = r := ⟨_, rfl⟩
  rw [h2] at w2 f2
  obtain ⟨rfl, p2⟩ := w2
  have w3 := p2.write (f := f + 1) (a := 0) (s := Ck.header 1 v.length) (by omega) (by rw [Ck.header_length]; omega)
  have f3 := p2.write_file (f := f + 1) (a := 0) (s := Ck.header 1 v.length) (by omega) (by rw [Ck.header_length]; omega)
  obtain ⟨⟨d3, z3⟩, h3⟩ : ∃ r, d2.write ((f + 1 : Nat) : Int) ((0 : Nat) : Int) (Ck.header 1 v.length) = r := ⟨_, rfl⟩
  rw [h3] at w3 f3
  obtain ⟨rfl, p3⟩ := w3
  dsimp only at f1 f2 f3 p1 p2 p3
  have y1 := p3.sync (f := f) (by omega)
  have y2 := y1.2.sync (f := f + 1) (by omega)
  have hlog : (d3.file f).now = log := by
    rw [f3, upd_other _ _ (by omega), f2, upd_other _ _ (by omega), f1, upd_same, Ck.fwrite_now]
    split
    · next e => rw [e]; rfl
    · show put [] 0 log = log
      simp [put]
  have hone : (d1.file (f + 1)).now = [] := by rw [f1, upd_other _ _ (by omega)]; rfl
  have htwo : (d2.file (f + 1)).now = if v = [] then [] else put [] 64 v := by rw [f2, upd_same, Ck.fwrite_now, hone]
  have hcell : (d3.file (f + 1)).now = put (d2.file (f + 1)).now 0 (Ck.header 1 v.length) := by rw [f3, upd_same, Ck.fwrite_now, if_neg (by unfold Ck.header; simp)]
  have hH : Ck.Holds (d3.file (f + 1)).now 1 v := by
    rw [hcell]
    have := Ck.aside_there (N := []) (s := v) (k := 1)
    rw [htwo]
    exact Ck.Holds.turned (Or.inl rfl) hv this.1 this.2
  refine ⟨d1, d2, d3, ((d3.sync f).1.sync ((f + 1 : Nat) : Int)).1, h1, h2, h3, ?_⟩
  have hn : ∀ i, (((d3.sync f).1.sync ((f + 1 : Nat) : Int)).1.file i).now = (d3.file i).now := fun i => by rw [y1.2.sync_now (by omega), p3.sync_now (by omega)]
  unfold openJ
  rw [if_pos (by omega), int_succ]
  dsimp only
  rw [if_neg (by rw [y1.1]; exact n00), if_neg (by rw [y2.1]; exact n00)]
  rw [openC_given hf y2.2.up (by rw [hn]; exact hH) (by omega) ((hn f).trans hlog)]
end Jn
end Go.Proofs.YtljgfnglknpfaaaDoor
