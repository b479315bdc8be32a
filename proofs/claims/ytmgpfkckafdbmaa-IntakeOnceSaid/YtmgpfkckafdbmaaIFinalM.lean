/-
  IntakeFinal: what stands at the head of the law's loop, and what an entry leaves of it.
-/
import Derived.Test.YtmgpfkckafdbmaaISmallL
import Derived.Test.YtmgpfkckafdbmaaIFinal
namespace Go.Proofs.Ytmgpfkckafdbmaa
set_option maxRecDepth 100000
open Go Go.RowKit Vl

theorem infoIntI : (Try.prog.info? 3).map (fun i => (i.zero, i.size, i.bytes)) = some (some (.int .i64 0), 1, 8) := by kernel_rfl
/-- One more number behind those that are owned. -/
theorem app_numI (w : World) (base : Nat) (v : Value) (l : List Int) (x : Int) (B : Nat) (hB : w.heap[B]? = some (.cells #[.int .i64 x] 3 (0, 0))) (h : w.ownsRow base 3 1 v l.length (numsV l)) (hl : l.length ≤ 100000) (hb : base ≤ w.heap.size) :
    ∃ a c w', (Builtin.append_ #[32, 32] 32 #[v, .slice (some ⟨B, 0, none⟩) 1 1]).run Try.prog w = .ok (.slice a (l.length + 1) c) w' ∧
      w'.ownsRow base 3 1 (.slice a (l ++ [x]).length c) (l ++ [x]).length (numsV (l ++ [x])) ∧ ((Value.slice a (l ++ [x]).length c).ownBlock = v.ownBlock ∨ (Value.slice a (l ++ [x]).length c).ownBlock = some w.heap.size) ∧ Kept (fun k => v.ownBlock = some k) w w' := by
  obtain ⟨i0, hi0, hz0, hz1, hz2⟩ := info_partsI infoIntI
  obtain ⟨v5, w5, hr, hown5, hgr5, hbl5⟩ := run_append_any_own (P := Try.prog) w base 32 32 3 i0 _ 1 8 Try.underlying32 hi0 hz0 hz1 hz2 rfl (by decide) v l.length (numsV l) h
    (some ⟨B, 0, none⟩) 1 1 (numsV [x]) (by rw [numsV_length]; rfl) (fun _ => ⟨_, rfl, fun j u hu => by
      rw [Lib.add_plain, Nat.zero_add]
      exact cell_block (cs := numsV [x]) hB hu⟩) (numsV_one _) (by unfold maxLen; omega) (by omega) hb
  obtain ⟨a, c, rfl, _⟩ := own_shape (own_base hown5)
  have hlen : (l ++ [x]).length = l.length + 1 := by rw [List.length_append, List.length_singleton]
  have happ : numsV (l ++ [x]) = numsV l ++ numsV [x] := List.map_append
  refine ⟨a, c, w5, hr, ?_, ?_, Kept.grown hgr5 (fun k e => e)⟩
  · rw [hlen, happ]
    exact hown5
  · rw [hlen]
    exact hbl5
/-- What is written turns, and what is written is other from now on. -/
theorem HoldI.turn {F F' S : Nat → Prop} {w0 w w' : World} {b : Nat} {c : In.C} {p : IP} {s : In.St} {ks : List In.Kn} (h : HoldI F w0 w b c p s ks) (hk : Kept S w w') (hS : ∀ k, S k → F k) (h1 : ¬ S b) (h2 : ¬ S p.mb) (hn : ∀ k, k < w.heap.size → F' k → F k) (hb : F' b) (hm : F' p.mb) (hlt : ∀ k, F' k → k < w'.heap.size) : HoldI F' w0 w' b c p s ks := by
  have q1 : IxAt (fun k => ¬ F k ∧ k < w.heap.size) w b c p s := h.at'.monoW (fun k hk f => ⟨f, hk⟩) (fun f => f.1 h.fb) (fun f => f.1 h.fm)
  have q2 : IxAt (fun k => ¬ F k ∧ k < w.heap.size) w' b c p s := q1.kept hk (fun k _ f g => f.1 (hS k g)) (fun k f g => by rcases f with rfl | rfl; exact h1 g; exact h2 g)
  exact ⟨q2.monoW (fun k _ f g => f.1 (hn k f.2 g)) (fun f => f hb) (fun f => f hm), hlt, h.kn, h.kz, h.b0, h.m0⟩
/-- The partition's blocks, and the block of a slice that the law owns. -/
def Fb (b mb : Nat) (v : Value) (k : Nat) : Prop := k = b ∨ k = mb ∨ v.ownBlock = some k
structure FinIs (w wr : World) (x : Cfg) (b mb : Nat) (p : IP) (s : In.St) (ts : List Int) (ta : Option Addr) (tc : Nat) (i : Nat) : Prop where
  hold : HoldI (Fb b mb (.slice ta ts.length tc)) w wr b x.c p s ks0
  mbe : p.mb = mb
  box : wr.heap[w.heap.size]? = some x.obj
  nB : w.heap.size ≠ b ∧ w.heap.size ≠ mb
  row : wr.ownsRow w.heap.size 3 1 (.slice ta ts.length tc) ts.length (numsV ts)
  rb : ∀ k, (Value.slice ta ts.length tc).ownBlock = some k → k ≠ b ∧ k ≠ mb ∧ k ≠ w.heap.size
  iv : Iv x.c s
  nx : s.next ≤ i
  rf : s.refused ≤ i
  tl : ts.length ≤ i
  below : Below w.heap.size w wr
section
variable {w wr : World} {x : Cfg} {b mb : Nat} {p : IP} {s : In.St} {ts : List Int} {ta : Option Addr} {tc : Nat} {i : Nat}
theorem FinIs.on {w' : World} (h : FinIs w wr x b mb p s ts ta tc i) (hb : Below wr.heap.size wr w') : FinIs w w' x b mb p s ts ta tc i :=
  ⟨h.hold.on hb, h.mbe, box_on h.box hb, h.nB, own_kept h.row (Kept.below (S := fun _ => False) hb) (fun _ _ e => e), h.rb, h.iv, h.nx, h.rf, h.tl, h.below.trans (hb.mono h.below.size)⟩
theorem FinIs.apply {w' : World} {p' : IP} (h : FinIs w wr x b mb p s ts ta tc i) (hi : i ≤ 1000) (e : In.En) (h2 : HoldI (Fb b mb (.slice ta ts.length tc)) w w' b x.c p' (In.apply x.c s e).1 ks0 ∧ p'.mb = p.mb ∧ Kept (InI b p) wr w') : FinIs w w' x b mb p' (In.apply x.c s e).1 ts ta tc (i + 1) := by
  obtain ⟨g1, g2, g3⟩ := h2
  obtain ⟨k1, k2, k3⟩ := h.iv.apply e (by have := h.nx; omega) (by have := h.rf; omega)
  have hno : ∀ k, k ≠ b ∧ k ≠ mb → ¬ InI b p k := fun k hk f => by
    rcases f with f | f
    · exact hk.1 f
    · exact hk.2 (f.trans h.mbe)
  refine ⟨g1, g2.trans h.mbe, g3.heap h.box (hno _ h.nB), h.nB, own_kept h.row g3 (fun k hk => hno k ⟨(h.rb k hk).1, (h.rb k hk).2.1⟩), h.rb, k1, by have := h.nx; omega, by have := h.rf; omega, by have := h.tl; omega, (hold_step h.hold h.below ⟨g1, g2, g3⟩).2⟩
theorem FinIs.app {w' : World} {ta' : Option Addr} {tc' : Nat} {t : Int} (h : FinIs w wr x b mb p s ts ta tc (i + 1)) (ht : ts.length ≤ i) (hr : w'.ownsRow w.heap.size 3 1 (.slice ta' (ts ++ [t]).length tc') (ts ++ [t]).length (numsV (ts ++ [t])))
    (ho : (Value.slice ta' (ts ++ [t]).length tc').ownBlock = (Value.slice ta ts.length tc).ownBlock ∨ (Value.slice ta' (ts ++ [t]).length tc').ownBlock = some wr.heap.size) (hk : Kept (fun k => (Value.slice ta ts.length tc).ownBlock = some k) wr w') :
    FinIs w w' x b mb p s (ts ++ [t]) ta' tc' (i + 1) := by
  have hb : b < wr.heap.size := h.hold.lt b (Or.inl rfl)
  have hm : mb < wr.heap.size := h.hold.lt mb (Or.inr (Or.inl rfl))
  have hx := box_lt h.box
  refine ⟨h.hold.turn hk (fun k hk => Or.inr (Or.inr hk)) (fun e => (h.rb _ e).1 rfl) (fun e => (h.rb _ e).2.1 h.mbe) (fun k hk' f => ?_) (Or.inl rfl) (Or.inr (Or.inl h.mbe)) (fun k f => ?_), h.mbe, hk.heap h.box (fun e => (h.rb _ e).2.2 rfl), h.nB, hr, fun k hk' => ?_, h.iv, h.nx, h.rf, by rw [List.length_append, List.length_singleton]; omega, h.below.trans (hk.toBelow h.below.size (fun k e => own_above h.row e))⟩
  · rcases f with f | f | f
    · exact Or.inl f
    · exact Or.inr (Or.inl f)
    · rcases ho with q | q
      · rw [q] at f
        exact Or.inr (Or.inr f)
      · rw [q] at f
        injection f with f
        omega
  · rcases f with f | f | f
    · have := hk.size
      omega
    · have := hk.size
      omega
    · exact own_lt (own_base hr) f
  · rcases ho with q | q
    · rw [q] at hk'
      exact h.rb k hk'
    · rw [q] at hk'
      injection hk' with hk'
      omega
/-- At the loop's start. -/
theorem fin_new {w1 w2 : World} (hx : w1.heap[w.heap.size]? = some x.obj) (hr : x.c.right) (hw : Below w.heap.size w w1) (h : HoldI (fun k => k = b ∨ k = p.mb) w w2 b x.c p In.new ks0 ∧ Below w1.heap.size w1 w2 ∧ w1.heap.size ≤ b ∧ w1.heap.size ≤ p.mb) : FinIs w w2 x b p.mb p In.new [] none 0 0 := by
  obtain ⟨h1, h2, h3, h4⟩ := h
  have hlt := box_lt hx
  refine ⟨h1.turn (Kept.refl (fun _ => False) w2) (fun k f => f.elim) (fun f => f) (fun f => f) (fun k _ f => by rcases f with f | f | f; exact Or.inl f; exact Or.inr f; cases f) (Or.inl rfl) (Or.inr (Or.inl rfl)) (fun k f => h1.lt k (by rcases f with f | f | f; exact Or.inl f; exact Or.inr f; cases f)), rfl, box_on hx h2, ⟨by omega, by omega⟩, World.ownsRow_nil _ _ _ _, fun k f => (by cases f), iv_new hr, Int.le_refl _, Int.le_refl _, Nat.le_refl _, hw.trans (h2.mono hw.size)⟩
end
end Go.Proofs.Ytmgpfkckafdbmaa
