/-
  A region whose last operations wait for all others: a condition on the world that holds behind every operation but those.
-/
import Derived.Test.YtkmojcpiadpbaaaGreatDoorRMem
import Derived.OrdersHeld
import Derived.Deep.RegionHeld3
namespace Go.Proofs.YtkmojcpiadpbaaaGreatDoor
open Go

section
variable {P : Program} {ops : Array Oper} {Q : Exit → Act → World → Prop} {md : Region.Mode} {S : World → Prop} {Z : List Nat}
/-- b waits for i, maybe by way of others. -/
inductive Waits (md : Region.Mode) (ops : Array Oper) (i : Nat) : Nat → Prop
  | here : Waits md ops i i
  | next {b : Nat} {o : Oper} (e : _) : ops[b]? = some o → e ∈ o.after → Region.binds md e = true → Waits md ops i e.on → Waits md ops i b
def waitsB (md : Region.Mode) (ops : Array Oper) (i : Nat) : Nat → Nat → Bool
  | 0, b => b == i
  | n + 1, b => b == i || (match ops[b]? with
    | none => false
    | some o => o.after.toList.any fun e => Region.binds md e && waitsB md ops i n e.on)
theorem waits_of : ∀ (n b i : Nat), waitsB md ops i n b = true → Waits md ops i b
  | 0, b, i, h => by
    have : b = i := by simpa [waitsB] using h
    subst this
    exact .here
  | n + 1, b, i, h => by
    unfold waitsB at h
    rw [Bool.or_eq_true] at h
    rcases h with h | h
    · have : b = i := by simpa using h
      subst this
      exact .here
    · split at h
      · cases h
      · next o ho =>
        obtain ⟨e, he, h2⟩ := List.any_eq_true.1 h
        rw [Bool.and_eq_true] at h2
        exact .next e ho (by simpa using he) h2.1 (waits_of n e.on i h2.2)
/-- What has come up is closed under what it waited for. -/
def downB (md : Region.Mode) (ops : Array Oper) (listed : Array Bool) : Bool :=
  (List.range ops.size).all fun j => !(listed.getD j false) || (match ops[j]? with
    | none => true
    | some o => o.after.toList.all fun e => !(Region.binds md e) || listed.getD e.on false)
/-- None of those that wait for i has come up. -/
def Ahead (md : Region.Mode) (ops : Array Oper) (i : Nat) (listed : Array Bool) : Prop := ∀ b, Waits md ops i b → listed.getD b false = false
theorem ahead_of {i : Nat} {listed : Array Bool} (hd : downB md ops listed = true) (hi : listed.getD i false = false) : Ahead md ops i listed := by
  intro b hb
  induction hb with
  | here => exact hi
  | @next b o e ho he hbi _ ih =>
    cases hc : listed.getD b false with
    | false => rfl
    | true =>
      have hlt : b < ops.size := (Array.getElem?_eq_some_iff.1 ho).1
      have h1 := List.all_eq_true.1 hd b (List.mem_range.2 hlt)
      rw [hc, ho] at h1
      simp only [Bool.not_true, Bool.false_or] at h1
      have h2 := List.all_eq_true.1 h1 e (by simpa using he)
      rw [hbi, ih] at h2
      cases h2
theorem Ahead.not_ready {i b : Nat} {listed : Array Bool} (h : Ahead md ops i listed) (hb : Waits md ops i b) (hne : b ≠ i) : b ∉ Region.ready md ops listed := fun hr => by
  cases hb with
  | here => exact hne rfl
  | next e ho he hbi hw =>
    obtain ⟨_, o', ho', hall⟩ := mem_ready.1 hr
    rw [ho] at ho'
    injection ho' with ho'
    subst ho'
    have := hall e he hbi
    rw [h _ hw] at this
    cases this
theorem Ahead.set {i j : Nat} {listed : Array Bool} (h : Ahead md ops i listed) (hj : j ∈ Region.ready md ops listed) (hne : j ≠ i) : Ahead md ops i (listed.setIfInBounds j true) := fun b hb => by
  have hbj : j ≠ b := fun e => by subst e; exact h.not_ready hb hne hj
  rw [getD_set_ne false hbj]
  exact h b hb
/-- Whatever order is picked; S holds behind every operation but those of Z. -/
def wpAnyE (P : Program) (md : Region.Mode) (ops : Array Oper) (Q : Exit → Act → World → Prop) (S : World → Prop) (Z : List Nat) : Nat → Array Bool → Act → World → Prop
  | 0, listed, a, w => Region.ready md ops listed = [] ∧ Q .normal a w
  | fuel + 1, listed, a, w => (Region.ready md ops listed = [] → Q .normal a w) ∧
    ∀ i ∈ Region.ready md ops listed, wpOp P ops Q i (fun a' w' => (i ∈ Z ∨ S w') ∧ wpAnyE P md ops Q S Z fuel (listed.setIfInBounds i true) a' w') a w
theorem any_of_e : ∀ (fuel : Nat) (listed : Array Bool) (a : Act) (w : World), wpAnyE P md ops Q S Z fuel listed a w → wpAny P md ops Q fuel listed a w
  | 0, _, _, _, h => h
  | fuel + 1, _, _, _, h => ⟨h.1, fun i hi => wpOp_mono (fun a' w' h' => any_of_e fuel _ a' w' h'.2) (h.2 i hi)⟩
theorem e_first {i : Nat} {oi : Oper} {v : Value} (hi : ops[i]? = some oi) (hsel : ∀ (j : Nat) (o : Oper) cs b, ops[j]? = some o → o.op ≠ .select cs b)
    (hQ : ∀ c a w, Q (.panic c) (a.put oi.dst v) w → Q (.panic c) a w) (hz : ∀ z ∈ Z, Waits md ops i z ∧ z ≠ i) :
    ∀ (fuel : Nat) (listed : Array Bool) (a : Act) (w : World), Ahead md ops i listed →
      (∀ j oj, ops[j]? = some oj → j ≠ i → listed.getD j true = false → (∀ e ∈ oj.after, Region.binds md e = true → e.on ≠ i) → oi.apart ops oj = true) →
      i ∈ Region.ready md ops listed → YieldsIf P ops S oi v a → S w →
      wpAnyE P md ops Q S Z fuel (listed.setIfInBounds i true) (a.put oi.dst v) w → wpAnyE P md ops Q S Z (fuel + 1) listed a w := by
  intro fuel
  induction fuel with
  | zero =>
    intro listed a w _ _ hr hy hS H
    refine ⟨fun h0 => (by rw [h0] at hr; cases hr), fun j hj => ?_⟩
    rcases Nat.decEq j i with hji | hji
    · have := ready_mono hj hji
      rw [H.1] at this
      cases this
    · subst hji
      exact hy.wpOp hi hS ⟨Or.inr hS, H⟩
  | succ fuel ih =>
    intro listed a w hA hfree hr hy hS H
    refine ⟨fun h0 => (by rw [h0] at hr; cases hr), fun j hj => ?_⟩
    rcases Nat.decEq j i with hji | hji
    · have hjz : j ∉ Z := fun e => hA.not_ready (hz j e).1 (hz j e).2 hj
      have H2 := H.2 j (ready_mono hj hji)
      obtain ⟨hun, oj, hoj, hall⟩ := mem_ready.1 hj
      have hi0 : listed.getD i false = false := hA i .here
      have hno : ∀ e ∈ oj.after, Region.binds md e = true → e.on ≠ i := fun e he hb q => by
        have := hall e he hb
        rw [q, hi0] at this
        cases this
      refine wpOp_mono (fun a' w' h3 => ⟨h3.2.1, ih _ a' w' (hA.set hj hji) (fun k ok hk hki hkun hkno => hfree k ok hk hki ?_ hkno) (ready_mono hr (Ne.symm hji)) h3.1 (h3.2.1.resolve_left hjz) ?_⟩)
        (wpOp_putIf hoj (hfree j oj hoj hji hun hno) (fun cs b => hsel i oi cs b hi) (fun cs b => hsel j oj cs b hoj) hQ hy H2)
      · rcases Nat.decEq j k with q | q
        · rwa [getD_set_ne true q] at hkun
        · rw [← q]; exact hun
      · rw [Array.setIfInBounds_comm _ _ hji]
        exact h3.2.2
    · subst hji
      exact hy.wpOp hi hS ⟨Or.inr hS, H⟩
/-- The moves. -/
theorem e_take {i : Nat} {oi : Oper} {v : Value} {fuel : Nat} {listed : Array Bool} {a : Act} {w : World} (hi : ops[i]? = some oi) (hs : Region.noSelect ops = true) (hf : Region.free md ops listed i = true) (hr : (Region.ready md ops listed).contains i = true)
    (hd : (downB md ops listed && !(listed.getD i false) && Z.all fun z => waitsB md ops i ops.size z && !(z == i)) = true) (hQ : ∀ c a w, Q (.panic c) (a.put oi.dst v) w → Q (.panic c) a w) (hy : YieldsIf P ops S oi v a) (hS : S w)
    (h : wpAnyE P md ops Q S Z fuel (listed.setIfInBounds i true) (a.put oi.dst v) w) : wpAnyE P md ops Q S Z (fuel + 1) listed a w := by
  simp only [Bool.and_eq_true, Bool.not_eq_true', List.all_eq_true, beq_eq_false_iff_ne] at hd
  obtain ⟨⟨d1, d2⟩, d3⟩ := hd
  exact e_first hi (Region.noSelect_spec hs) hQ (fun z hz => ⟨waits_of _ _ _ (d3 z hz).1, (d3 z hz).2⟩) fuel listed a w (ahead_of d1 d2) (Region.free_spec hi hf) (by simpa using hr) hy hS h
theorem e_one {i : Nat} {o : Oper} {fuel : Nat} {listed : Array Bool} {a : Act} {w : World} (hr : Region.ready md ops listed = [i]) (ho : ops[i]? = some o) (hg : o.guard = none)
    (h : ∀ K : Act → World → Prop, (∀ a' w', (i ∈ Z ∨ S w') → wpAnyE P md ops Q S Z fuel (listed.setIfInBounds i true) a' w' → K a' w') → Oper.wp P o a w K Q) : wpAnyE P md ops Q S Z (fuel + 1) listed a w := by
  refine ⟨fun h0 => (by rw [hr] at h0; cases h0), fun j hj => ?_⟩
  rw [hr] at hj
  obtain rfl := List.mem_singleton.1 hj
  refine wpOp_step ho (fun K hK => ?_)
  rw [if_pos (by simp [Region.wanted, hg])]
  exact h K (fun a' w' h1 h2 => hK a' w' ⟨h1, h2⟩)
/-- Two that may come up. -/
theorem e_two {i j : Nat} {oi oj : Oper} {fuel : Nat} {listed : Array Bool} {a : Act} {w : World} (hr : Region.ready md ops listed = [i, j]) (hoi : ops[i]? = some oi) (hoj : ops[j]? = some oj) (hgi : oi.guard = none) (hgj : oj.guard = none)
    (h : ∀ K : Act → World → Prop, (∀ a' w', (i ∈ Z ∨ S w') → wpAnyE P md ops Q S Z fuel (listed.setIfInBounds i true) a' w' → K a' w') → Oper.wp P oi a w K Q)
    (h' : ∀ K : Act → World → Prop, (∀ a' w', (j ∈ Z ∨ S w') → wpAnyE P md ops Q S Z fuel (listed.setIfInBounds j true) a' w' → K a' w') → Oper.wp P oj a w K Q) : wpAnyE P md ops Q S Z (fuel + 1) listed a w := by
  refine ⟨fun h0 => (by rw [hr] at h0; cases h0), fun k hk => ?_⟩
  rw [hr] at hk
  rcases List.mem_cons.1 hk with rfl | hk
  · refine wpOp_step hoi (fun K hK => ?_)
    rw [if_pos (by simp [Region.wanted, hgi])]
    exact h K (fun a' w' h1 h2 => hK a' w' ⟨h1, h2⟩)
  · obtain rfl := List.mem_singleton.1 hk
    refine wpOp_step hoj (fun K hK => ?_)
    rw [if_pos (by simp [Region.wanted, hgj])]
    exact h' K (fun a' w' h1 h2 => hK a' w' ⟨h1, h2⟩)
theorem e_done {listed : Array Bool} {a : Act} {w : World} (hr : Region.ready md ops listed = []) (h : Q .normal a w) : ∀ fuel, wpAnyE P md ops Q S Z fuel listed a w
  | 0 => ⟨hr, h⟩
  | _ + 1 => ⟨fun _ => h, fun i hi => by rw [hr] at hi; cases hi⟩
theorem e_start {id : Nat} {a : Act} {w : World} (Z : List Nat) (S : World → Prop) (hm : P.follows .mixedOrders = true) (hS : S w.drew)
    (h : S w.drew → wpAnyE P .any ops Q S Z ops.size (Array.replicate ops.size false) a w.drew) : (Code.region id ops true).wp P Q a w :=
  wp_region_any hm (any_of_e _ _ _ _ (h hS))
end
end Go.Proofs.YtkmojcpiadpbaaaGreatDoor
