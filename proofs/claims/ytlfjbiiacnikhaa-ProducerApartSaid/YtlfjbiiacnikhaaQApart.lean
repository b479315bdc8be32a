/-
  What one producer does changes nothing for others; what a fence does for its producer. Nothing of the program stands here. No condition.
-/
import Derived.Test.YtlfjbiiacnikhaaQModel
namespace Go.Proofs.Ytlfjbiiacnikhaa
namespace Pq

theorem find_put_self {s : List P} {b e q pos : Int} (h : find (put s b e q pos) b = none) : put s b e q pos = s := by
  unfold put at h ⊢
  split
  · next k =>
    rw [if_pos k] at h
    have := find_set_same s (more (get s b) pos)
    rw [show (more (get s b) pos).id = b from get_id s b] at this
    rw [this] at h
    cases h
  · rfl
theorem apart_put {s : List P} (h : Right s) (hl : s.length ≤ 48) {a b : Int} (hab : a ≠ b) (e q e' q' pos : Int) : look (put s b e q pos) a e' q' = look s a e' q' ∧ Right (put s b e q pos) ∧ (put s b e q pos).length ≤ 49 :=
  have h1 := put_len h b e q pos
  ⟨look_same (find_put hab) (by omega) (by omega), put_right h b e q pos, by omega⟩
theorem apart_fence {s u : List P} (h : Right s) (hl : s.length ≤ 48) {a b ep z : Int} (hab : a ≠ b) {e q pos : Int} (hf : fence (put s b e q pos) b = (some (u, ep), z)) (e' q' e2 q2 : Int) :
    look u a e' q' = look s a e' q' ∧ Right u ∧ ((look u b e2 q2).2 = 0 → (look (put s b e q pos) b e2 q2).2 = 25) := by
  obtain ⟨h1, h2, h3⟩ := apart_put h hl hab e q e' q' pos
  obtain ⟨k1, k2, k3, k4, k5, k6⟩ := fence_ok hf
  have hu := fence_right h2 hf
  have hlen : u.length < 50 := by
    rw [k4, set_len h2.2]
    split
    · next k =>
      rw [find_put_self k]
      omega
    · omega
  have hfind : find u a = find s a := by rw [k4, find_set_ne _ _ hab, find_put hab]
  refine ⟨look_same hfind hlen (by omega), hu, fun hz => ?_⟩
  obtain ⟨g1, g2, g3, g4, _, _, _⟩ := look_ok hz
  have hg : get u b = ⟨b, (get (put s b e q pos) b).ep + 1, 0, []⟩ := by rw [k4]; exact get_set_same _ _
  rw [hg] at g4
  have g4 : e2 = (get (put s b e q pos) b).ep + 1 := g4
  unfold look
  rw [if_neg (fun f => f ⟨g1, g2, g3⟩), if_neg (by omega), if_pos (by omega)]
end Pq
end Go.Proofs.Ytlfjbiiacnikhaa
