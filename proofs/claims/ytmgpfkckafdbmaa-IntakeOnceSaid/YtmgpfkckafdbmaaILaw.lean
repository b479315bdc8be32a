/-
  What the laws of layer 11 share: the known columns and entries of the examples, few, the examples.
-/
import Derived.Test.YtmgpfkckafdbmaaIOpen
namespace Go.Proofs.Ytmgpfkckafdbmaa
set_option maxRecDepth 100000
open Go Go.RowKit Vl

def core0 : List (ByteArray × Int × List CP) := [(⟨#[115]⟩, 1, [⟨⟨#[97]⟩, 0, ⟨#[]⟩⟩]), (⟨#[116]⟩, 2, [⟨⟨#[97]⟩, 1, ⟨#[]⟩⟩, ⟨⟨#[98]⟩, 2, ⟨#[]⟩⟩])]
def ks0 : List In.Kn := [⟨[115], 1, [0]⟩, ⟨[116], 2, [1, 2]⟩]
theorem core_ks0 {K : List KP} (h : K.map KP.core = core0) : kns K = ks0 ∧ Kz K ∧ K.length = 2 := by
  have hl : K.length = 2 := by
    have := congrArg List.length h
    simpa [core0] using this
  have hK : K.map KP.core = (([⟨⟨#[115]⟩, 1, [⟨⟨#[97]⟩, 0, ⟨#[]⟩⟩], none, 0⟩, ⟨⟨#[116]⟩, 2, [⟨⟨#[97]⟩, 1, ⟨#[]⟩⟩, ⟨⟨#[98]⟩, 2, ⟨#[]⟩⟩], none, 0⟩] : List KP)).map KP.core := h
  refine ⟨core_kns hK, ⟨by omega, core_cols hK (fun x hx => ?_)⟩, hl⟩
  rcases List.mem_cons.1 hx with rfl | hx
  · show 1 ≤ 1000
    decide
  · rcases List.mem_cons.1 hx with rfl | hx
    · show 2 ≤ 1000
      decide
    · cases hx
theorem kns0 (w : World) : Kns (fun k => w.heap.size ≤ k) (((w.alloc (.cells #[.string ⟨#[97]⟩, .int .i64 0, .string ⟨#[]⟩] 50)).alloc (.cells #[.string ⟨#[97]⟩, .int .i64 1, .string ⟨#[]⟩, .string ⟨#[98]⟩, .int .i64 2, .string ⟨#[]⟩] 50)).alloc
    (.cells #[.string ⟨#[115]⟩, .int .i64 1, .slice (some ⟨w.heap.size, 0, none⟩) 1 1, .string ⟨#[116]⟩, .int .i64 2, .slice (some ⟨w.heap.size + 1, 0, none⟩) 2 2] 53)) (some ⟨w.heap.size + 1 + 1, 0, none⟩) 2
    [⟨⟨#[115]⟩, 1, [⟨⟨#[97]⟩, 0, ⟨#[]⟩⟩], some ⟨w.heap.size, 0, none⟩, 1⟩, ⟨⟨#[116]⟩, 2, [⟨⟨#[97]⟩, 1, ⟨#[]⟩⟩, ⟨⟨#[98]⟩, 2, ⟨#[]⟩⟩], some ⟨w.heap.size + 1, 0, none⟩, 2⟩] := by
  obtain ⟨w1, h1⟩ : ∃ w1, w1 = w.alloc (.cells #[.string ⟨#[97]⟩, .int .i64 0, .string ⟨#[]⟩] 50) := ⟨_, rfl⟩
  obtain ⟨w2, h2⟩ : ∃ w2, w2 = w1.alloc (.cells #[.string ⟨#[97]⟩, .int .i64 1, .string ⟨#[]⟩, .string ⟨#[98]⟩, .int .i64 2, .string ⟨#[]⟩] 50) := ⟨_, rfl⟩
  obtain ⟨w3, h3⟩ : ∃ w3, w3 = w2.alloc (.cells #[.string ⟨#[115]⟩, .int .i64 1, .slice (some ⟨w.heap.size, 0, none⟩) 1 1, .string ⟨#[116]⟩, .int .i64 2, .slice (some ⟨w.heap.size + 1, 0, none⟩) 2 2] 53) := ⟨_, rfl⟩
  have s1 : w1.heap.size = w.heap.size + 1 := by rw [h1]; simp
  have s2 : w2.heap.size = w.heap.size + 1 + 1 := by rw [h2]; simp [s1]
  have b1 : w3.heap[w.heap.size]? = some (.cells #[.string ⟨#[97]⟩, .int .i64 0, .string ⟨#[]⟩] 50 (0, 0)) := by
    have q : w1.heap[w.heap.size]? = some (.cells #[.string ⟨#[97]⟩, .int .i64 0, .string ⟨#[]⟩] 50 (0, 0)) := by rw [h1]; exact box_new w _
    have q2 : Below w1.heap.size w1 w2 := by rw [h2]; exact below_new w1 _
    have q3 : Below w2.heap.size w2 w3 := by rw [h3]; exact below_new w2 _
    exact box_on (box_on q q2) q3
  have b2 : w3.heap[w.heap.size + 1]? = some (.cells #[.string ⟨#[97]⟩, .int .i64 1, .string ⟨#[]⟩, .string ⟨#[98]⟩, .int .i64 2, .string ⟨#[]⟩] 50 (0, 0)) := by
    have q : w2.heap[w1.heap.size]? = some (.cells #[.string ⟨#[97]⟩, .int .i64 1, .string ⟨#[]⟩, .string ⟨#[98]⟩, .int .i64 2, .string ⟨#[]⟩] 50 (0, 0)) := by rw [h2]; exact box_new w1 _
    have q3 : Below w2.heap.size w2 w3 := by rw [h3]; exact below_new w2 _
    rw [s1] at q
    exact box_on q q3
  have b3 : w3.heap[w.heap.size + 1 + 1]? = some (.cells #[.string ⟨#[115]⟩, .int .i64 1, .slice (some ⟨w.heap.size, 0, none⟩) 1 1, .string ⟨#[116]⟩, .int .i64 2, .slice (some ⟨w.heap.size + 1, 0, none⟩) 2 2] 53 (0, 0)) := by
    have q : w3.heap[w2.heap.size]? = some (.cells #[.string ⟨#[115]⟩, .int .i64 1, .slice (some ⟨w.heap.size, 0, none⟩) 1 1, .string ⟨#[116]⟩, .int .i64 2, .slice (some ⟨w.heap.size + 1, 0, none⟩) 2 2] 53 (0, 0)) := by rw [h3]; exact box_new w2 _
    rw [s2] at q
    exact q
  rw [← h1, ← h2, ← h3]
  clear h1 h2 h3 s1 s2
  refine ⟨src_block (cs := kpsV [⟨⟨#[115]⟩, 1, [⟨⟨#[97]⟩, 0, ⟨#[]⟩⟩], some ⟨w.heap.size, 0, none⟩, 1⟩, ⟨⟨#[116]⟩, 2, [⟨⟨#[97]⟩, 1, ⟨#[]⟩⟩, ⟨⟨#[98]⟩, 2, ⟨#[]⟩⟩], some ⟨w.heap.size + 1, 0, none⟩, 2⟩]) b3 (by omega) (Nat.le_refl _) ⟨[], (List.append_nil _).symm⟩, fun x hx => ?_⟩
  rcases List.mem_cons.1 hx with rfl | hx
  · exact src_block (cs := cpsV [⟨⟨#[97]⟩, 0, ⟨#[]⟩⟩]) b1 (Nat.le_refl _) (Nat.le_refl _) ⟨[], (List.append_nil _).symm⟩
  · rcases List.mem_cons.1 hx with rfl | hx
    · exact src_block (cs := cpsV [⟨⟨#[97]⟩, 1, ⟨#[]⟩⟩, ⟨⟨#[98]⟩, 2, ⟨#[]⟩⟩]) b2 (by omega) (Nat.le_refl _) ⟨[], (List.append_nil _).symm⟩
    · cases hx
theorem known_c (w : World) : Calls Try.prog 7 #[] w fun r w' => ∃ a c, r = .returned (.slice a 2 c) ∧ Hid (∃ K : List KP, K.map KP.core = core0 ∧ Kns (fun k => w.heap.size ≤ k) w' a c K) ∧ Below w.heap.size w w' := by
  go_enter Try.func7, Try.ntmps7
  go_wp2_with fail
  go_ret
  refine ⟨_, _, rfl, Lib.hid ⟨[⟨⟨#[115]⟩, 1, [⟨⟨#[97]⟩, 0, ⟨#[]⟩⟩], some ⟨w.heap.size, 0, none⟩, 1⟩, ⟨⟨#[116]⟩, 2, [⟨⟨#[97]⟩, 1, ⟨#[]⟩⟩, ⟨⟨#[98]⟩, 2, ⟨#[]⟩⟩], some ⟨w.heap.size + 1, 0, none⟩, 2⟩], rfl, ?_⟩, ?_⟩
  · exact kns0 w
  · exact (((Below.refl _ _).alloc (Nat.le_refl _) _).alloc (by simp) _).alloc (by simp; omega) _
theorem sizeEI : (Try.prog.info? 39).map (·.size) = some 8 := by kernel_rfl
theorem cells8_setI {w : World} {b : Nat} {T : TypeId} {x0 x1 x2 x3 x4 x5 x6 x7 : Value} (h : w.heap[b]? = some (.cells #[x0, x1, x2, x3, x4, x5, x6, x7] T (0, 0))) (y0 y1 y2 y3 y4 y5 y6 y7 : Value) :
    ((((((((w.setCell ⟨b, 0, none⟩ y0).setCell ⟨b, 1, none⟩ y1).setCell ⟨b, 2, none⟩ y2).setCell ⟨b, 3, none⟩ y3).setCell ⟨b, 4, none⟩ y4).setCell ⟨b, 5, none⟩ y5).setCell ⟨b, 6, none⟩ y6).setCell ⟨b, 7, none⟩ y7).heap[b]? = some (.cells #[y0, y1, y2, y3, y4, y5, y6, y7] T (0, 0)) := by
  have h0 : (w.setCell ⟨b, 0, none⟩ y0).heap[b]? = some (.cells #[y0, x1, x2, x3, x4, x5, x6, x7] T (0, 0)) := box_set h 0 y0
  have h1 : ((w.setCell ⟨b, 0, none⟩ y0).setCell ⟨b, 1, none⟩ y1).heap[b]? = some (.cells #[y0, y1, x2, x3, x4, x5, x6, x7] T (0, 0)) := box_set h0 1 y1
  have h2 : (((w.setCell ⟨b, 0, none⟩ y0).setCell ⟨b, 1, none⟩ y1).setCell ⟨b, 2, none⟩ y2).heap[b]? = some (.cells #[y0, y1, y2, x3, x4, x5, x6, x7] T (0, 0)) := box_set h1 2 y2
  have h3 : ((((w.setCell ⟨b, 0, none⟩ y0).setCell ⟨b, 1, none⟩ y1).setCell ⟨b, 2, none⟩ y2).setCell ⟨b, 3, none⟩ y3).heap[b]? = some (.cells #[y0, y1, y2, y3, x4, x5, x6, x7] T (0, 0)) := box_set h2 3 y3
  have h4 : (((((w.setCell ⟨b, 0, none⟩ y0).setCell ⟨b, 1, none⟩ y1).setCell ⟨b, 2, none⟩ y2).setCell ⟨b, 3, none⟩ y3).setCell ⟨b, 4, none⟩ y4).heap[b]? = some (.cells #[y0, y1, y2, y3, y4, x5, x6, x7] T (0, 0)) := box_set h3 4 y4
  have h5 : ((((((w.setCell ⟨b, 0, none⟩ y0).setCell ⟨b, 1, none⟩ y1).setCell ⟨b, 2, none⟩ y2).setCell ⟨b, 3, none⟩ y3).setCell ⟨b, 4, none⟩ y4).setCell ⟨b, 5, none⟩ y5).heap[b]? = some (.cells #[y0, y1, y2, y3, y4, y5, x6, x7] T (0, 0)) := box_set h4 5 y5
  have h6 : (((((((w.setCell ⟨b, 0, none⟩ y0).setCell ⟨b, 1, none⟩ y1).setCell ⟨b, 2, none⟩ y2).setCell ⟨b, 3, none⟩ y3).setCell ⟨b, 4, none⟩ y4).setCell ⟨b, 5, none⟩ y5).setCell ⟨b, 6, none⟩ y6).heap[b]? = some (.cells #[y0, y1, y2, y3, y4, y5, y6, x7] T (0, 0)) := box_set h5 6 y6
  have h7 : ((((((((w.setCell ⟨b, 0, none⟩ y0).setCell ⟨b, 1, none⟩ y1).setCell ⟨b, 2, none⟩ y2).setCell ⟨b, 3, none⟩ y3).setCell ⟨b, 4, none⟩ y4).setCell ⟨b, 5, none⟩ y5).setCell ⟨b, 6, none⟩ y6).setCell ⟨b, 7, none⟩ y7).heap[b]? = some (.cells #[y0, y1, y2, y3, y4, y5, y6, y7] T (0, 0)) := box_set h6 7 y7
  exact h7
/-- An entry of the examples. -/
def entE (seq time : Int) (A : Option Addr) : EE := ⟨0, 7, 0, seq, ⟨#[115]⟩, 1, time, A, 1, 1⟩
set_option maxHeartbeats 2000000 in
theorem entry_c (seq time n : Int) (w : World) : Calls Try.prog 17 #[.int .i64 seq, .int .i64 time, .int .i64 n] w fun r w' => ∃ A, r = .returned (entE seq time A).val ∧ Hid (RowV w' (.slice A 1 1) [⟨0, n, []⟩]) ∧ Below w.heap.size w w' := by
  obtain ⟨W1, hW1⟩ : ∃ W1, W1 = w.alloc (EE.obj ⟨0, 0, 0, 0, ⟨#[]⟩, 0, 0, none, 0, 0⟩) := ⟨_, rfl⟩
  obtain ⟨W2, hW2⟩ : ∃ W2, W2 = W1.alloc (.cells #[.int .i64 0, .int .i64 n, .string ⟨#[]⟩] 55) := ⟨_, rfl⟩
  have hb1 : Below w.heap.size w W1 := by rw [hW1]; exact below_new w _
  have hx1 : W1.heap[w.heap.size]? = some (EE.obj ⟨0, 0, 0, 0, ⟨#[]⟩, 0, 0, none, 0, 0⟩) := by rw [hW1]; exact box_new w _
  have hb2 : Below W1.heap.size W1 W2 := by rw [hW2]; exact below_new W1 _
  have hx2 : W2.heap[W1.heap.size]? = some (.cells #[.int .i64 0, .int .i64 n, .string ⟨#[]⟩] 55 (0, 0)) := by rw [hW2]; exact box_new W1 _
  have hx1' := box_on hx1 hb2
  have hlt : w.heap.size < W1.heap.size := box_lt hx1
  have hc := EE.cells hx1'
  have c0 := hc.c0
  have c1 := hc.c1
  have c2 := hc.c2
  have c3 := hc.c3
  have c4 := hc.c4
  have c5 := hc.c5
  have c6 := hc.c6
  have c7 := hc.c7
  have z0 := Lib.frozen_of_heap hx1' 0
  have z1 := Lib.frozen_of_heap hx1' 1
  have z2 := Lib.frozen_of_heap hx1' 2
  have z3 := Lib.frozen_of_heap hx1' 3
  have z4 := Lib.frozen_of_heap hx1' 4
  have z5 := Lib.frozen_of_heap hx1' 5
  have z6 := Lib.frozen_of_heap hx1' 6
  have z7 := Lib.frozen_of_heap hx1' 7
  have HB := Lib.hid (hb1.trans (hb2.mono hb1.size))
  have HX := Lib.hid hx1'
  have HX2 := Lib.hid hx2
  have HLT := Lib.hid hlt
  unfold EE.obj at hW1
  dsimp only at *
  clear hc hb1 hx1 hx1' hb2 hx2 hlt
  go_enter Try.func17, Try.ntmps17
  go_upto_region 1 with fail
  rw [← hW1]
  clear hW1
  subst hW2
  go_wp2_with fail
  (try simp only [Exit.inBlock, Exit.then])
  refine bodyPost_ret (results_cell_row rfl _ _ w.heap.size _ _ _ _ rfl (cells8_setI HX.out _ _ _ _ _ _ _ _) Try.underlying39 rfl (by rw [sizeEI]; rfl)) rfl ?_
  have hbf := below_set (below_set (below_set (below_set (below_set (below_set (below_set (below_set HB.out (Nat.le_refl _) 0 (.int .i64 0)) (Nat.le_refl _) 1 (.int .i64 7)) (Nat.le_refl _) 2 (.int .i64 0)) (Nat.le_refl _) 3 (.int .i64 seq)) (Nat.le_refl _) 4 (.string ⟨#[115]⟩)) (Nat.le_refl _) 5 (.int .i64 1)) (Nat.le_refl _) 6 (.int .i64 time)) (Nat.le_refl _) 7 (.slice (some ⟨W1.heap.size, 0, none⟩) 1 1)
  refine ⟨some ⟨W1.heap.size, 0, none⟩, rfl, Lib.hid ?_, hbf⟩
  have hne : W1.heap.size ≠ w.heap.size := by have := HLT.out; omega
  have hx := box_other (box_other (box_other (box_other (box_other (box_other (box_other (box_other HX2.out hne 0 (.int .i64 0)) hne 1 (.int .i64 7)) hne 2 (.int .i64 0)) hne 3 (.int .i64 seq)) hne 4 (.string ⟨#[115]⟩)) hne 5 (.int .i64 1)) hne 6 (.int .i64 time)) hne 7 (.slice (some ⟨W1.heap.size, 0, none⟩) 1 1)
  refine ⟨by show 1 ≤ 9223372036854775807; decide, _, 1, rfl, fun _ => ⟨_, 0, rfl, fun i v hv => ?_⟩⟩
  cases i with
  | zero =>
    injection hv with hv
    subst hv
    exact ⟨by rw [Lib.cell_of_heap hx]; rfl, by rw [Lib.cell_of_heap hx]; rfl, by rw [Lib.cell_of_heap hx]; rfl⟩
  | succ i => cases hv
end Go.Proofs.Ytmgpfkckafdbmaa
