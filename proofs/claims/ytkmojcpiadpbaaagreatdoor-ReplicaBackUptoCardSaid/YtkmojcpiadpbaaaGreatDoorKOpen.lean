/-
  Two equal messages are the same.
  A message that came in: how the form's reading of an argument is such a message, and how long its data are, by the reading's bulk.
-/
import Derived.Test.YtkmojcpiadpbaaaGreatDoorRSame
import Derived.Test.YtkmojcpiadpbaaaGreatDoorKPlain
import Derived.Test.YtkmojcpiadpbaaaGreatDoorRows
import Derived.OpenShut
import Derived.SliceStrings
import Derived.Deep.Slices
import Derived.LaidMore
import Derived.Lay
import Derived.Deep.DeepHandedRow
import Derived.Deep.DeepWitnessRowRef
namespace Go.Proofs.YtkmojcpiadpbaaaGreatDoor
set_option maxRecDepth 100000
open Go Go.RowKit Rp

theorem drewN_below (w : World) (n : Nat) : Below w.heap.size w (w.drewN n) := by
  induction n with
  | zero => exact Below.refl _ _
  | succ n ih => exact below_drew ih
set_option maxHeartbeats 2000000 in
theorem sameMsg_c {G G' : Nat → Prop} (p q : PM) (h : p.m = q.m) (w : World) (hp : p.ok G w) (hq : q.ok G' w) (hn : p.m.rs.length ≤ 1000000) : Calls Tryz.prog 10 #[p.val, q.val] w fun e w' => e = .returned (.bool true) ∧ Below w.heap.size w w' := by
  obtain ⟨m, pa, pc⟩ := p
  obtain ⟨m', qa, qc⟩ := q
  have h : m = m' := h
  subst h
  obtain ⟨W1, hW1⟩ : ∃ W1, W1 = w.alloc (.cells #[.int .i64 m.k, .int .i64 m.fr, .int .i64 m.dst, .int .i64 m.tm, .int .i64 m.ix, .int .i64 m.pv, .int .i64 m.cm, .bool m.yes, .slice pa m.rs.length pc] 24) := ⟨_, rfl⟩
  have hb1 : Below w.heap.size w W1 := by rw [hW1]; exact below_new w _
  have hx1 : PM.at ⟨m, pa, pc⟩ W1 w.heap.size := by rw [hW1]; exact box_new w _
  obtain ⟨W2, hW2⟩ : ∃ W2, W2 = W1.alloc (.cells #[.int .i64 m.k, .int .i64 m.fr, .int .i64 m.dst, .int .i64 m.tm, .int .i64 m.ix, .int .i64 m.pv, .int .i64 m.cm, .bool m.yes, .slice qa m.rs.length qc] 24) := ⟨_, rfl⟩
  have HS1 := Lib.hid (show w.heap.size + 1 = W1.heap.size by rw [hW1]; simp)
  have hb2 : Below W1.heap.size W1 W2 := by rw [hW2]; exact below_new W1 _
  have hx2 : PM.at ⟨m, qa, qc⟩ W2 W1.heap.size := by rw [hW2]; exact box_new W1 _
  have hx3 : PM.at ⟨m, pa, pc⟩ W2 w.heap.size := box_on hx1 hb2
  have hb3 : Below w.heap.size w W2 := hb1.trans (hb2.mono hb1.size)
  have QS := Lib.hid ((same_c W2 m.rs pa pc (hp.on hb3) qa qc (hq.on hb3) hn).mono (R' := fun e w' => e = .returned (.bool true) ∧ Hid (Below w.heap.size w w')) (fun e w' hh => ⟨hh.1, Lib.hid (by obtain ⟨n, q⟩ := hh.2; rw [q]; exact hb3.trans ((drewN_below W2 n).mono hb3.size))⟩))
  have hm1 := hx3.c
  have hm2 := hx2.c
  have f0 := hm1.c0
  have f1 := hm1.c1
  have f2 := hm1.c2
  have f3 := hm1.c3
  have f4 := hm1.c4
  have f5 := hm1.c5
  have f6 := hm1.c6
  have f7 := hm1.c7
  have f8 := hm1.c8
  have g0 := hm2.c0
  have g1 := hm2.c1
  have g2 := hm2.c2
  have g3 := hm2.c3
  have g4 := hm2.c4
  have g5 := hm2.c5
  have g6 := hm2.c6
  have g7 := hm2.c7
  have g8 := hm2.c8
  dsimp only at f0 f1 f2 f3 f4 f5 f6 f7 f8 g0 g1 g2 g3 g4 g5 g6 g7 g8
  have hyy : (m.yes == m.yes) = true := by simp
  clear hx1 hx2 hx3 hm1 hm2 hb1 hb2 hb3 hp hq hn
  show Calls _ _ #[.agg #[.int .i64 m.k, .int .i64 m.fr, .int .i64 m.dst, .int .i64 m.tm, .int .i64 m.ix, .int .i64 m.pv, .int .i64 m.cm, .bool m.yes, .slice pa m.rs.length pc], .agg #[.int .i64 m.k, .int .i64 m.fr, .int .i64 m.dst, .int .i64 m.tm, .int .i64 m.ix, .int .i64 m.pv, .int .i64 m.cm, .bool m.yes, .slice qa m.rs.length qc]] _ _
  go_enter Tryz.func10, Tryz.ntmps10
  go_upto_region 1 with fail
  rw [← hW1, ← hW2, HS1.out]
  clear hW1 hW2 HS1
  go_wp2_with ((with_reducible refine QS.out.mono ?_); rintro e w5 ⟨rfl, HB⟩)
  go_ret
  exact ⟨rfl, HB.out⟩
end Go.Proofs.YtkmojcpiadpbaaaGreatDoor

namespace Go.Proofs.YtkmojcpiadpbaaaGreatDoor
set_option maxRecDepth 100000
open Go Go.RowKit Rp Wire Go.Sort Go.ChangeShapes Go.WideShapes Go.ChangeAt

/-- A message that came in, with data of at most B bytes. -/
structure MsgIn (W : World) (p : PM) (B : Nat) : Prop where
  head : ∀ x ∈ eHead p.m, InR x
  src : p.ok (fun _ => True) W
  len : p.m.rs.length ≤ 9223372036854775807
  ents : ∀ x ∈ p.m.rs, InR x.t ∧ x.d.length ≤ B
theorem bulk_all {H : Type} {d : DataW H} {l : List (DataW H)} (h : d ∈ l) : Rows.uptoBulk d ≤ Rows.uptoBulkAll l := by
  induction l with
  | nil => cases h
  | cons x r ih =>
    show _ ≤ Rows.uptoBulk x + Rows.uptoBulkAll r
    rcases List.mem_cons.1 h with e | e
    · rw [e]
      omega
    · have := ih e
      omega
theorem bulk_agg {H : Type} (l : List (DataW H)) : Rows.uptoBulk (.agg l) = Rows.uptoBulkAll l + 1 := by rw [Rows.uptoBulk]
theorem bulk_slice {H : Type} (l r : List (DataW H)) : Rows.uptoBulkAll l ≤ Rows.uptoBulk (.slice l r) := by rw [Rows.uptoBulk]; omega
theorem bulk_str {H : Type} (b : List UInt8) : Rows.uptoBulk (DataW.lit (H := H) (.string b)) = b.length + 1 := by rw [Rows.uptoBulk]
section
variable {H : Type} {enc : TypeId × Value → H} {W : World} {base : Nat} {sp : Nat → Bool} {held : Bool}
theorem cellsIntK : Tryz.prog.cellsOf 3 = 1 := by kernel_rfl
theorem cellsStrK : Tryz.prog.cellsOf 9 = 1 := by kernel_rfl
theorem cellsBoolK : Tryz.prog.cellsOf 4 = 1 := by kernel_rfl
theorem cellsRowK : Tryz.prog.cellsOf 22 = 1 := by kernel_rfl
theorem cellsRecK : Tryz.prog.cellsOf 27 = 2 := by kernel_rfl
theorem cellsMsgK : Tryz.prog.cellsOf 24 = 9 := by kernel_rfl
theorem two_of {α : Type} : ∀ (cs : List α), cs.length = 2 → ∃ c0 c1, cs = [c0, c1]
  | [c0, c1], _ => ⟨c0, c1, rfl⟩
theorem nine_of {α : Type} : ∀ (cs : List α), cs.length = 9 → ∃ c0 c1 c2 c3 c4 c5 c6 c7 c8, cs = [c0, c1, c2, c3, c4, c5, c6, c7, c8]
  | [c0, c1, c2, c3, c4, c5, c6, c7, c8], _ => ⟨c0, c1, c2, c3, c4, c5, c6, c7, c8, rfl⟩
theorem open_rec {fuel : Nat} {cs : List Value} {x : DataW H × List MemPlace} (h : DataW.trod enc Tryz.prog W base sp held fuel 27 cs = some x) :
    ∃ y : Rec, cs = [.int .i64 y.t, .string ⟨y.d.toArray⟩] ∧ InR y.t ∧ y.d.length ≤ Rows.uptoBulk x.1 := by
  obtain ⟨xs, n, rfl, hxe, hl, hx, hf⟩ := DataW.trod_struct Tryz.underlying27 h
  rw [cellsRecK] at hl
  obtain ⟨c0, c1, rfl⟩ := two_of cs hl
  obtain ⟨y0, y1, rfl⟩ := two_of xs hx
  have f0 : DataW.trod enc Tryz.prog W base sp held n 3 (([c0, c1].drop 0).take (Tryz.prog.cellsOf 3)) = some y0 := hf 0 _ rfl
  have f1 : DataW.trod enc Tryz.prog W base sp held n 9 (([c0, c1].drop 1).take (Tryz.prog.cellsOf 9)) = some y1 := hf 1 _ rfl
  rw [cellsIntK] at f0
  rw [cellsStrK] at f1
  obtain ⟨o, e0, _, w0⟩ := DataW.trod_int Tryz.underlying3 f0
  obtain ⟨s, e1, g1, _⟩ := DataW.trod_string Tryz.underlying9 f1
  obtain rfl : c0 = .int .i64 o := by simpa using e0
  obtain rfl : c1 = .string s := by simpa using e1
  refine ⟨⟨o, s.data.toList⟩, by simp, bounds_i64 w0, ?_⟩
  have h1 : Rows.uptoBulk y1.1 ≤ Rows.uptoBulkAll ([y0, y1].map (·.1)) := bulk_all (by simp)
  have h2 : Rows.uptoBulk x.1 = Rows.uptoBulkAll ([y0, y1].map (·.1)) + 1 := by rw [hxe]; exact bulk_agg _
  have h3 : Rows.uptoBulk y1.1 = s.data.toList.length + 1 := by rw [g1]; exact bulk_str _
  show s.data.toList.length ≤ _
  omega
theorem choose_rec {n : Nat} {p : Nat → Rec → Prop} (h : ∀ i, i < n → ∃ x, p i x) : ∃ f : Nat → Rec, ∀ i, i < n → p i (f i) := by
  have : ∀ i, ∃ x, i < n → p i x := fun i => by
    by_cases hi : i < n
    · obtain ⟨x, hx⟩ := h i hi
      exact ⟨x, fun _ => hx⟩
    · exact ⟨⟨0, []⟩, fun h => absurd h hi⟩
  exact ⟨fun i => Classical.choose (this i), fun i => Classical.choose_spec (this i)⟩
theorem recsV_at (l : List Rec) {j : Nat} {u : Value} (h : (recsV l)[j]? = some u) : ∃ k x q, l[k]? = some x ∧ q < 2 ∧ j = k * 2 + q ∧ (recC x)[q]? = some u := by
  have hj : j < l.length * 2 := by have := (List.getElem?_eq_some_iff.1 h).1; rw [recsV_length] at this; exact this
  have hk : j / 2 < l.length := by omega
  obtain ⟨x, hx⟩ : ∃ x, l[j / 2]? = some x := ⟨l[j / 2], List.getElem?_eq_getElem hk⟩
  obtain ⟨g0, g1⟩ := recsV_get l _ x hx
  refine ⟨j / 2, x, j % 2, hx, Nat.mod_lt _ (by decide), by omega, ?_⟩
  rcases Nat.mod_two_eq_zero_or_one j with q | q
  · rw [show j / 2 * 2 = j by omega, h] at g0
    rw [q, g0]
    rfl
  · rw [show j / 2 * 2 + 1 = j by omega, h] at g1
    rw [q, g1]
    rfl
theorem cell_plainK {w : World} {a : Addr} {v : Value} (h : w.cell? a = some v) : ∃ b off, a = ⟨b, off, none⟩ := by
  obtain ⟨b, off, spot⟩ := a
  cases spot with
  | none => exact ⟨b, off, rfl⟩
  | some s =>
    exfalso
    unfold World.cell? at h
    split at h
    · simp at h
    · cases h
theorem open_recs {fuel : Nat} {v : Value} {x : DataW H × List MemPlace} (h : DataW.trod enc Tryz.prog W base sp held fuel 22 [v] = some x) :
    ∃ (l : List Rec) (a : Option Addr) (c : Nat), v = .slice a l.length c ∧ Src (fun _ => True) W a c l.length (recsV l) ∧ l.length ≤ 9223372036854775807 ∧ ∀ y ∈ l, InR y.t ∧ y.d.length ≤ Rows.uptoBulk x.1 := by
  rcases Go.Deep.open_slice Tryz.underlying22 h with ⟨hv, _⟩ | ⟨a, len, cap, m, n, D, Pl, hv, _, hl, hm, hmm, hxe, hx⟩
  · obtain rfl : v = .slice none 0 0 := by simpa using hv
    exact ⟨[], none, 0, rfl, Src.nil _ _, by decide, fun y hy => by cases hy⟩
  · obtain rfl : v = .slice (some a) len cap := by simpa using hv
    have hlm : len ≤ m := by rw [hmm]; split <;> omega
    rw [cellsRecK] at hx
    obtain ⟨f, hf⟩ := choose_rec (n := len) (p := fun i y => (∃ cs, cs = [Value.int .i64 y.t, .string ⟨y.d.toArray⟩] ∧ W.cells? base (a.add (i * 2)) 2 = some cs) ∧ InR y.t ∧ y.d.length ≤ Rows.uptoBulk (D i)) (fun i hi => by
      obtain ⟨cs', h1, h2⟩ := hx i (by omega)
      obtain ⟨y, hy, q1, q2⟩ := open_rec h2
      exact ⟨y, ⟨cs', hy, h1⟩, q1, q2⟩)
    have hlen : ((List.range len).map f).length = len := by simp
    refine ⟨(List.range len).map f, some a, cap, by rw [hlen], ?_, by rw [hlen]; unfold maxLen at hm; omega, fun y hy => ?_⟩
    · rw [hlen]
      refine ⟨hl, fun h0 => ?_⟩
      obtain ⟨⟨cs0, rfl, hcs0⟩, _⟩ := hf 0 h0
      have k0 := (World.cells?_some hcs0).2.2 0 (by decide)
      rw [Nat.zero_mul, show (a.add 0).add 0 = a by simp [Addr.add]] at k0
      obtain ⟨b, off, rfl⟩ := cell_plainK k0
      refine ⟨b, off, rfl, trivial, fun j u hu => ?_⟩
      obtain ⟨k, y, q, hk, hq, rfl, hc⟩ := recsV_at _ hu
      have hkl : k < len := by have := (List.getElem?_eq_some_iff.1 hk).1; omega
      rw [List.getElem?_map, List.getElem?_range hkl] at hk
      obtain rfl : f k = y := by simpa using hk
      obtain ⟨⟨cs, rfl, hcs⟩, _⟩ := hf k hkl
      have key := (World.cells?_some hcs).2.2 q (by simpa using hq)
      simp only [Lib.add_plain] at key
      rw [← Nat.add_assoc, key]
      exact hc
    · obtain ⟨i, hi, rfl⟩ := List.mem_map.1 hy
      have hi := List.mem_range.1 hi
      obtain ⟨_, q1, q2⟩ := hf i hi
      refine ⟨q1, Nat.le_trans q2 ?_⟩
      rw [hxe]
      exact Nat.le_trans (bulk_all (List.mem_map.2 ⟨i, List.mem_range.2 hi, rfl⟩)) (bulk_slice _ _)
set_option maxHeartbeats 1000000 in
theorem open_msg {r : Reach} {b0 : Nat} {v : Value} {d : DataW H} {pl : List MemPlace} (hv : Value.okWide Tryz.prog W r b0 24 v) (h : DataW.Trod enc Tryz.prog W base sp held 24 v d pl) :
    ∃ p : PM, v = p.val ∧ MsgIn W p (Rows.uptoBulk d) := by
  obtain ⟨cs, rfl, hsz⟩ := okWide_struct Tryz.underlying24 hv
  rw [cellsMsgK] at hsz
  obtain ⟨l⟩ := cs
  obtain ⟨c0, c1, c2, c3, c4, c5, c6, c7, c8, rfl⟩ := nine_of l hsz
  obtain ⟨fuel, hf0⟩ := h
  obtain ⟨xs, n, rfl, hxe, _, hx, hf⟩ := DataW.trod_struct Tryz.underlying24 hf0
  obtain ⟨y0, y1, y2, y3, y4, y5, y6, y7, y8, rfl⟩ := nine_of xs hx
  have f0 : DataW.trod enc Tryz.prog W base sp held n 3 [c0] = some y0 := by have := hf 0 _ rfl; exact this
  have f1 : DataW.trod enc Tryz.prog W base sp held n 3 [c1] = some y1 := by have := hf 1 _ rfl; exact this
  have f2 : DataW.trod enc Tryz.prog W base sp held n 3 [c2] = some y2 := by have := hf 2 _ rfl; exact this
  have f3 : DataW.trod enc Tryz.prog W base sp held n 3 [c3] = some y3 := by have := hf 3 _ rfl; exact this
  have f4 : DataW.trod enc Tryz.prog W base sp held n 3 [c4] = some y4 := by have := hf 4 _ rfl; exact this
  have f5 : DataW.trod enc Tryz.prog W base sp held n 3 [c5] = some y5 := by have := hf 5 _ rfl; exact this
  have f6 : DataW.trod enc Tryz.prog W base sp held n 3 [c6] = some y6 := by have := hf 6 _ rfl; exact this
  have f7 : DataW.trod enc Tryz.prog W base sp held n 4 [c7] = some y7 := by have := hf 7 _ rfl; exact this
  have f8 : DataW.trod enc Tryz.prog W base sp held n 22 [c8] = some y8 := by have := hf 8 _ rfl; exact this
  obtain ⟨n0, e0, _, w0⟩ := DataW.trod_int Tryz.underlying3 f0
  obtain ⟨n1, e1, _, w1⟩ := DataW.trod_int Tryz.underlying3 f1
  obtain ⟨n2, e2, _, w2⟩ := DataW.trod_int Tryz.underlying3 f2
  obtain ⟨n3, e3, _, w3⟩ := DataW.trod_int Tryz.underlying3 f3
  obtain ⟨n4, e4, _, w4⟩ := DataW.trod_int Tryz.underlying3 f4
  obtain ⟨n5, e5, _, w5⟩ := DataW.trod_int Tryz.underlying3 f5
  obtain ⟨n6, e6, _, w6⟩ := DataW.trod_int Tryz.underlying3 f6
  obtain ⟨n7, e7, _⟩ := DataW.trod_bool Tryz.underlying4 f7
  obtain ⟨rs, a, c, e8, hsrc, hlen, hents⟩ := open_recs f8
  obtain rfl : c0 = .int .i64 n0 := by simpa using e0
  obtain rfl : c1 = .int .i64 n1 := by simpa using e1
  obtain rfl : c2 = .int .i64 n2 := by simpa using e2
  obtain rfl : c3 = .int .i64 n3 := by simpa using e3
  obtain rfl : c4 = .int .i64 n4 := by simpa using e4
  obtain rfl : c5 = .int .i64 n5 := by simpa using e5
  obtain rfl : c6 = .int .i64 n6 := by simpa using e6
  obtain rfl : c7 = .bool n7 := by simpa using e7
  subst e8
  refine ⟨⟨⟨n0, n1, n2, n3, n4, n5, n6, n7, rs⟩, a, c⟩, rfl, ?_, hsrc, hlen, fun x hx => ⟨(hents x hx).1, Nat.le_trans (hents x hx).2 ?_⟩⟩
  · intro x hx
    have hy := yesN_in ⟨n0, n1, n2, n3, n4, n5, n6, n7, rs⟩
    have hx : x = n0 ∨ x = n1 ∨ x = n2 ∨ x = n3 ∨ x = n4 ∨ x = n5 ∨ x = n6 ∨ x = yesN ⟨n0, n1, n2, n3, n4, n5, n6, n7, rs⟩ := by simpa [eHead] using hx
    rcases hx with rfl | rfl | rfl | rfl | rfl | rfl | rfl | q
    · exact bounds_i64 w0
    · exact bounds_i64 w1
    · exact bounds_i64 w2
    · exact bounds_i64 w3
    · exact bounds_i64 w4
    · exact bounds_i64 w5
    · exact bounds_i64 w6
    · rw [q]
      unfold InR
      omega
  · have h8 : Rows.uptoBulk y8.1 ≤ Rows.uptoBulkAll ([y0, y1, y2, y3, y4, y5, y6, y7, y8].map (·.1)) := bulk_all (by simp)
    have h9 : Rows.uptoBulk d = Rows.uptoBulkAll ([y0, y1, y2, y3, y4, y5, y6, y7, y8].map (·.1)) + 1 := by
      have hd : d = .agg _ := congrArg Prod.fst hxe
      rw [hd]
      exact bulk_agg _
    omega
end
end Go.Proofs.YtkmojcpiadpbaaaGreatDoor
