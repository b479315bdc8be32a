/-
  The law's cluster beside what the law keeps for itself (marked 9).
-/
import Derived.Test.YtoghaogcekappaaRStp
import Derived.Test.YtoghaogcekappaaRBegin
import Derived.Test.YtoghaogcekappaaRSame
namespace Go.Proofs.Ytoghaogcekappaa
set_option maxRecDepth 100000
open Go Go.RowKit Rp

section
variable {w0 w w' : World} {b : Nat} {t : Nat → Nat} {x x' : Cl} {m : CM}
theorem Cz.on (h : Cz w0 w b x t m) (hb : Below w.heap.size w w') : Cz w0 w' b x t m := ⟨h.low.trans (hb.mono h.low.size), h.t0, h.clu.on hb⟩
theorem Cz.moved (h : Cz w0 w b x t m) (hm : Moved w w' b t x') : ∃ t' m', Cz w0 w' b x' t' m' ∧ (∀ j, j < w.heap.size → t' j = t j) ∧ Kept (fun j => t j ≠ 0 ∧ t j < 8) w w' := by
  obtain ⟨t', m', h1, h2, h3⟩ := hm
  refine ⟨t', m', ⟨h.low.trans (h3.toBelow h.low.size (fun j e => ?_)), fun j hj => (h1 j (Nat.lt_of_lt_of_le hj h.low.size)).trans (h.t0 j hj), h2⟩, h1, h3⟩
  rcases Nat.lt_or_ge j w0.heap.size with q | q
  · exact absurd (h.t0 j q) e.1
  · exact q
/-- What the law keeps for itself is turned, or laid anew. -/
theorem Cz.own (h : Cz w0 w b x t m) (hk : Kept (fun j => w0.heap.size ≤ j ∧ t j = 9) w w') : Cz w0 w' b x (newT w t 9) m :=
  ⟨h.low.trans (hk.toBelow h.low.size (fun j e => e.1)), fun j hj => (newT_old (Nat.lt_of_lt_of_le hj h.low.size)).trans (h.t0 j hj), (h.clu.mark (fun j hj => newT_old hj)).far8 (hk.mono (fun j hj e => by rw [newT_old hj, e.2]; decide))⟩
/-- Messages that the law has seen. -/
structure Said (w0 w : World) (t : Nat → Nat) (v : Value) (sd : List PM) : Prop where
  row : MsgRow w w0.heap.size v sd
  t9 : ∀ j, v.ownBlock = some j → t j = 9
theorem Said.on {v : Value} {sd : List PM} (h : Said w0 w t v sd) (hb : Below w.heap.size w w') : Said w0 w' t v sd := ⟨h.row.on hb, h.t9⟩
theorem Said.moved {v : Value} {sd : List PM} {t' : Nat → Nat} (h : Said w0 w t v sd) (ht : ∀ j, j < w.heap.size → t' j = t j) (hk : Kept (fun j => t j ≠ 0 ∧ t j < 8) w w') : Said w0 w' t' v sd :=
  ⟨h.row.kept hk (fun j e q => by have := h.t9 j e; omega), fun j e => (ht j (h.row.lt e)).trans (h.t9 j e)⟩
theorem Cz.say (h : Cz w0 w b x t m) {v : Value} {sd : List PM} (hs : Said w0 w t v sd) (p : PM) (hl : sd.length ≤ 1000) :
    ∃ a c w2, (Builtin.append_ #[26, 26] 26 #[v, .slice (some ⟨w.heap.size, 0, none⟩) 1 1]).run Try.prog (w.alloc p.obj) = .ok (.slice a (sd.length + 1) c) w2 ∧
      Hid (Cz w0 w2 b x (newT w t 9) m ∧ Said w0 w2 (newT w t 9) (.slice a (sd ++ [p]).length c) (sd ++ [p])) := by
  have hA : Below w.heap.size w (w.alloc p.obj) := below_new w _
  have hsrc : Src (fun j => j = w.heap.size) (w.alloc p.obj) (some ⟨w.heap.size, 0, none⟩) 1 [p].length (msgsV [p]) := PM.at.src (show PM.at p (w.alloc p.obj) w.heap.size from heap_alloc_new w _) rfl
  obtain ⟨a, c, w2, hr, ho, hb, hk⟩ := app_msgs (w.alloc p.obj) w0.heap.size _ sd (hs.row.on hA) _ _ [p] hsrc (by simp; omega) (Nat.le_trans h.low.size hA.size)
  have el : (sd ++ [p]).length = sd.length + 1 := by simp
  have ho : MsgRow w2 w0.heap.size (.slice a (sd.length + 1) c) (sd ++ [p]) := ho
  have hb : (Value.slice a (sd.length + 1) c).ownBlock = _ ∨ ∃ y, (Value.slice a (sd.length + 1) c).ownBlock = some y ∧ _ := hb
  rw [← el] at ho hb
  refine ⟨a, c, w2, hr, Lib.hid ⟨h.own ((Kept.below hA).trans hk (fun j hj e => ⟨hs.row.above e, hs.t9 j e⟩)), ho, fun j e => ?_⟩⟩
  rcases hb with q | ⟨y, q, hy⟩
  · have e' : v.ownBlock = some j := by rw [← q]; exact e
    rw [newT_old (hs.row.lt e')]
    exact hs.t9 j e'
  · rw [q] at e
    injection e with e
    exact newT_new (by simp at hy; omega)
end
theorem OpsIn8.at {w : World} {v : Value} {l : List Op8} (h : OpsIn8 w v l) {i : Nat} {o : Op8} (hi : l[i]? = some o) : ∃ a c b off, v = .slice a l.length c ∧ a = some ⟨b, off, none⟩ ∧ OpRow8 w b (off + i * 4) o := by
  obtain ⟨_, a, c, h1, h2⟩ := h
  obtain ⟨b, off, h3, h4⟩ := h2 i o hi
  exact ⟨a, c, b, off, h1, h3, h4⟩
end Go.Proofs.Ytoghaogcekappaa
