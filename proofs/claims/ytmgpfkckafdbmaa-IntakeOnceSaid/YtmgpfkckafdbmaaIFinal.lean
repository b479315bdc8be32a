/-
  What a partition's times do: Closed, Mark and Top never fall, records are accepted above Closed and up to Now + Ahead, and at most so many of each time (chapter 11, P11.7). Nothing of the program stands here. No condition.
-/
import Derived.Test.YtmgpfkckafdbmaaIModel
namespace Go.Proofs.Ytmgpfkckafdbmaa
namespace In
open Pq (inB)

def occ (ts : List Int) (t : Int) : Int := (ts.filter (fun u => decide (u = t))).length
theorem occ_nil (t : Int) : occ [] t = 0 := rfl
theorem occ_app (ts : List Int) (t u : Int) : occ (ts ++ [t]) u = occ ts u + if t = u then 1 else 0 := by
  unfold occ
  rw [List.filter_append, List.length_append]
  by_cases h : t = u
  · rw [if_pos h, List.filter_cons, if_pos (by simpa using h)]
    simp
  · rw [if_neg h, List.filter_cons, if_neg (by simpa using h)]
    simp
/-- What has been accepted so far, by its times. -/
structure Had (c : C) (s : St) (ts : List Int) : Prop where
  le : ∀ t ∈ ts, t ≤ s.top
  rate : ∀ t, occ ts t ≤ c.rate
  cnt : ∀ t, closed c s < t → cnt s.cs t = occ ts t
theorem had_new {c : C} (hc : c.right) : Had c new [] := by
  refine ⟨fun t h => (by cases h), fun t => ?_, fun t _ => rfl⟩
  rw [occ_nil]
  unfold C.right at hc
  omega
theorem mark_mono {c : C} {s t : St} (h : s.top ≤ t.top) : mark c s ≤ mark c t := by unfold mark; omega
theorem closed_mono' {c : C} {s t : St} (h : s.top ≤ t.top) : closed c s ≤ closed c t := by unfold closed; omega
theorem closed_mark {c : C} (hc : c.right) (s : St) : closed c s ≤ mark c s := by unfold closed mark; unfold C.right at hc; omega
theorem mark_top {c : C} (hc : c.right) {s : St} (h : 0 ≤ s.top) : mark c s < s.top := by unfold mark; unfold C.right at hc; omega
theorem top_apply (c : C) (s : St) (e : En) : s.top ≤ (apply c s e).1.top := by
  unfold apply
  split
  · split
    · show s.top ≤ max s.top e.tm
      omega
    · split
      · exact Int.le_refl _
      · exact Int.le_refl _
  · split
    · split <;> exact Int.le_refl _
    · split
      · split
        · exact Int.le_refl _
        · split
          · exact Int.le_refl _
          · show s.top ≤ max s.top e.tm
            omega
      · split
        · split <;> exact Int.le_refl _
        · exact Int.le_refl _
theorem had_raise {c : C} {s : St} {ts : List Int} (h : Had c s ts) (t : Int) : Had c (raise c s t) ts := by
  refine ⟨fun u hu => ?_, h.rate, fun u hu => ?_⟩
  · have := h.le u hu
    show u ≤ max s.top t
    omega
  · have h2 := h.cnt u (Int.lt_of_le_of_lt (closed_mono c s t) hu)
    show In.cnt (s.cs.filter _) u = _
    rw [cnt_filter, if_pos (by rw [closed_raise] at hu; exact hu)]
    exact h2
/-- A record that is accepted. -/
theorem had_take {c : C} {s : St} {ts : List Int} (ho : Ok c s) (h : Had c s ts) {e : En} (hl : (look c s e).2 = 0) :
    apply c s e = (if e.kd = 0 then (take c s e, (s.next, 0)) else apply c s e) ∧ closed c s < e.tm ∧ e.tm ≤ (take c s e).now + c.ahead ∧ Had c (take c s e) (ts ++ [e.tm]) := by
  obtain ⟨g1, g2, g3, g4, g5, g6, g7⟩ := look_zero hl
  refine ⟨?_, g4, g5, fun u hu => ?_, fun u => ?_, fun u hu => ?_⟩
  · split
    · next k =>
      unfold apply
      rw [if_pos k, if_pos hl, g7]
    · rfl
  · show u ≤ max s.top e.tm
    rcases List.mem_append.1 hu with f | f
    · have := h.le u f
      omega
    · rw [List.mem_singleton.1 f]
      omega
  · rw [occ_app]
    split
    · next k =>
      rw [← k, ← h.cnt e.tm g4]
      omega
    · have := h.rate u
      omega
  · have hm := closed_mono c s e.tm
    have hu2 : closed c s < u := Int.lt_of_le_of_lt hm hu
    have h2 := h.cnt u hu2
    show In.cnt ((bump s.cs e.tm).filter _) u = _
    rw [cnt_filter, if_pos (by exact hu), cnt_bump _ _ _ ho.up, occ_app]
    by_cases k : u = e.tm
    · rw [if_pos k, if_pos k.symm, ← k, h2]
    · rw [if_neg k, if_neg (fun f => k f.symm), h2]
      omega
/-- Anything else. -/
theorem had_other {c : C} {s : St} {ts : List Int} (h : Had c s ts) {e : En} (hl : ¬ (e.kd = 0 ∧ (look c s e).2 = 0)) : Had c (apply c s e).1 ts := by
  unfold apply
  split
  · next k =>
    split
    · next k2 => exact absurd ⟨k, k2⟩ hl
    · split
      · exact h
      · exact ⟨h.le, h.rate, h.cnt⟩
  · split
    · split
      · exact ⟨h.le, h.rate, h.cnt⟩
      · exact h
    · split
      · split
        · exact h
        · split
          · exact h
          · exact had_raise h _
      · split
        · split
          · exact h
          · exact ⟨h.le, h.rate, h.cnt⟩
        · exact h
/-- One entry: what the theorem of the chapter says of it. -/
theorem final_step {c : C} (hc : c.right) {s : St} {ts : List Int} (ho : Ok c s) (h : Had c s ts) (e : En) :
    closed c s ≤ closed c (apply c s e).1 ∧ mark c s ≤ mark c (apply c s e).1 ∧ s.top ≤ (apply c s e).1.top ∧
    closed c (apply c s e).1 ≤ mark c (apply c s e).1 ∧ (0 ≤ (apply c s e).1.top → mark c (apply c s e).1 < (apply c s e).1.top) ∧
    (e.kd = 0 → (apply c s e).2.2 = 0 → closed c s < e.tm ∧ e.tm ≤ (apply c s e).1.now + c.ahead) ∧
    Ok c (apply c s e).1 ∧ Had c (apply c s e).1 (if e.kd = 0 ∧ (apply c s e).2.2 = 0 then ts ++ [e.tm] else ts) := by
  have ht := top_apply c s e
  refine ⟨closed_mono' ht, mark_mono ht, ht, closed_mark hc _, mark_top hc, fun hk hz => ?_, ok_apply hc ho e, ?_⟩
  · rw [put_ok hk] at hz
    obtain ⟨q1, q2, q3, _⟩ := had_take ho h hz
    rw [if_pos hk] at q1
    rw [q1]
    exact ⟨q2, q3⟩
  · split
    · next k =>
      have hz := k.2
      rw [put_ok k.1] at hz
      obtain ⟨q1, _, _, q4⟩ := had_take ho h hz
      rw [if_pos k.1] at q1
      rw [q1]
      exact q4
    · next k =>
      refine had_other h (fun f => k ⟨f.1, ?_⟩)
      rw [put_ok f.1]
      exact f.2
/-- What is counted in the end. -/
theorem final_end {c : C} {s : St} {ts : List Int} (ho : Ok c s) (h : Had c s ts) {t : Int} (hm : t ∈ ts) : occ ts t ≤ c.rate ∧ t ≤ s.top ∧ (closed c s < t → cnt s.cs t = occ ts t) ∧ (t ≤ closed c s → cnt s.cs t = 0) :=
  ⟨h.rate t, h.le t hm, h.cnt t, fun q => cnt_low ho.up q⟩
end In
end Go.Proofs.Ytmgpfkckafdbmaa
