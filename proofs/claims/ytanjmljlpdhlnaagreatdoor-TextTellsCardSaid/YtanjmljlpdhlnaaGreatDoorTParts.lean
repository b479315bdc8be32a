/-
  parts of package text: it returns the parts of the pattern, in a slice of its own; of what was there nothing has turned. And matches, at whatever part.
-/
import Derived.Test.YtanjmljlpdhlnaaGreatDoorTSize
namespace Go.Proofs.YtanjmljlpdhlnaaGreatDoor
open Go Go.RowKit Go.Sort Wire Txt

theorem matches_c (x : List UInt8) (c : UInt8) (hx : x ≠ []) (hl : x.length ≤ 1000000000000) (w : World) :
    Calls Tryz.prog 40 #[.string ⟨x.toArray⟩, .int .u8 c.toNat] w fun e w' => e = .returned (.bool (fits x c)) ∧ Below w.heap.size w w' := by
  by_cases h0 : x = [63]
  · subst h0
    exact matches_any c w
  · by_cases h1 : x.length ≤ 2
    · obtain ⟨d, hd⟩ : ∃ d, x.getLast? = some d := ⟨x.getLast hx, List.getLast?_eq_some_getLast hx⟩
      exact (matches_byte x c d h0 h1 hd w).mono fun e w' ⟨he, hb⟩ => ⟨by rw [he, fits_byte x c d h0 h1 hd], hb⟩
    · cases x with
      | nil => exact absurd rfl hx
      | cons a x =>
        cases x with
        | nil => simp at h1
        | cons b s => exact matches_class a b s c (by rintro rfl; simp at h1) hl w

theorem infoString : (Tryz.prog.info? 9).map (fun i => (i.zero, i.size, i.bytes)) = some (some (.string ⟨#[]⟩), 1, 16) := by kernel_rfl

/-- v is a slice of the call's own (from block B on) that reads as these strings. -/
def OwnStrs (B : Nat) (v : Value) (l : List (List UInt8)) (w : World) : Prop := w.ownsRow B 9 1 v l.length (strs l)
theorem OwnStrs.nil (B : Nat) (w : World) : OwnStrs B (.slice none 0 0) [] w := World.ownsRow_nil _ _ _ _
theorem OwnStrs.on {B : Nat} {v : Value} {l : List (List UInt8)} {w w' : World} (h : OwnStrs B v l w) (hb : Below w.heap.size w w') : OwnStrs B v l w' := owned_on h hb
theorem OwnStrs.slice {B : Nat} {v : Value} {l : List (List UInt8)} {w : World} (h : OwnStrs B v l w) : ∃ a cap, v = .slice a l.length cap ∧ l.length ≤ cap ∧ cap ≤ 9223372036854775807 ∧ (l ≠ [] → ∃ g, a = some ⟨g, 0, none⟩ ∧ ∀ i x, l[i]? = some x → w.cell? ⟨g, i, none⟩ = some (.string ⟨x.toArray⟩)) := by
  unfold OwnStrs at h
  rcases h.2 with ⟨hv, h0⟩ | ⟨g, cap, cur, hv, hB, hh, hc, hm, hs, ht⟩
  · have : l = [] := List.eq_nil_of_length_eq_zero h0
    subst this
    exact ⟨none, 0, hv, Nat.le_refl _, by omega, fun h => absurd rfl h⟩
  · unfold maxLen at hm
    refine ⟨some ⟨g, 0, none⟩, cap, hv, hc, by omega, fun _ => ⟨g, rfl, fun i x hx => ?_⟩⟩
    have := h.cells (g := g) (by rw [hv]; rfl) i _ (strs_get hx)
    rw [Lib.add_plain, Nat.zero_add] at this
    exact this
/-- The block in which the strings lie, if there are any. -/
theorem OwnStrs.block {B : Nat} {A : Option Addr} {n cap : Nat} {l : List (List UInt8)} {w : World} (h : OwnStrs B (.slice A n cap) l w) : ∃ (g : Nat) (cur : Array Value), l ≠ [] → A = some ⟨g, 0, none⟩ ∧ B ≤ g ∧ w.heap[g]? = some (.cells cur 9 (0, 0)) ∧ ∀ (i : Nat) (x : List UInt8), l[i]? = some x → cur[i]? = some (.string ⟨x.toArray⟩) := by
  have hs := h
  unfold OwnStrs at h
  rcases h.2 with ⟨_, h0⟩ | ⟨g, cap', cur, hv, hB, hh, _⟩
  · exact ⟨0, #[], fun hne => absurd (List.eq_nil_of_length_eq_zero h0) hne⟩
  · refine ⟨g, cur, fun hne => ?_⟩
    obtain ⟨A', cap2, hv2, _, _, hc⟩ := hs.slice
    obtain ⟨g2, hg2, hc2⟩ := hc hne
    have e1 : A = some ⟨g, 0, none⟩ := by injection hv
    have e2 : A' = A := by injection hv2 with h1 _ _; exact h1.symm
    have e3 : g2 = g := by rw [e2, e1] at hg2; injection hg2 with hg2; injection hg2 with hg2; exact hg2.symm
    subst e3
    refine ⟨e1, hB, hh, fun i x hx => ?_⟩
    have := hc2 i x hx
    rw [Lib.cell_of_heap hh] at this
    exact this
theorem OwnStrs.row {B : Nat} {v : Value} {l : List (List UInt8)} {w : World} (h : OwnStrs B v l w) : RowAt w v (strs l) := by
  obtain ⟨a, cap, hv, h1, h2, h3⟩ := h.slice
  have hl : (strs l).length = l.length := by simp [strs]
  refine ⟨by omega, a, cap, by rw [hl]; exact hv, fun hne => ?_⟩
  obtain ⟨g, hg, hc⟩ := h3 (by rintro rfl; exact hne rfl)
  refine ⟨g, 0, hg, fun i x hx => ?_⟩
  have hi : i < l.length := by
    have := (List.getElem?_eq_some_iff.1 hx).1
    omega
  have := hc i l[i] (List.getElem?_eq_getElem hi)
  rw [Nat.zero_add, this, ← hx]
  simp [strs, hi]

set_option maxHeartbeats 1000000 in
set_option maxRecDepth 100000 in
theorem parts_c (p : List UInt8) (hp : p.length ≤ 1000000) (w : World) :
    Calls Tryz.prog 39 #[.string ⟨p.toArray⟩] w fun e w' => ∃ v, e = .returned v ∧ OwnStrs w.heap.size v (parts p) w' ∧ Below w.heap.size w w' := by
  obtain ⟨i0, hi, hz0, hz1, hz2⟩ := info_parts infoString
  go_enter Tryz.func39, Tryz.ntmps39
  go_wp2_with fail
  go_loopw [0, 3] (fun s v wr => ∃ (q : List UInt8) (l : List (List UInt8)), l.length + q.length ≤ p.length ∧ s = .string ⟨q.toArray⟩ ∧ Hid (parts p = l ++ parts q) ∧ wr.ownsRow w.heap.size 9 1 v l.length (strs l) ∧ Below w.heap.size w wr) (fun s _ _ => strLen s)
  case atStart => exact ⟨p, [], by simp, rfl, Lib.hid rfl, World.ownsRow_nil _ _ _ _, Below.refl _ _⟩
  case round =>
    obtain ⟨q, l, hq, rfl, HQ, hown, hb⟩ := hrel
    cases q with
    | nil =>
      go_wp2_with fail
      go_ret
      exact ⟨_, rfl, by rw [HQ.out, parts_nil, List.append_nil]; exact hown, hb⟩
    | cons c r =>
      have hs := psize_le (c :: r) (by simp)
      have HP := Lib.hid (parts_cons (c :: r) (by simp))
      have hql : (c :: r).length ≤ 1000000000000 := by omega
      have hz := hb.size
      go_wp2_with fail
      refine (size_c c r hql _).mono ?_
      rintro e w1 ⟨rfl, rfl⟩
      have hx1 := ba_take (c :: r) (psize (c :: r))
      have hlen : l.length ≤ 1000000 := by omega
      have hpl : psize (c :: r) ≤ r.length + 1 := hs.2
      go_wp2_with (at_builtin; refine wpList_append_own _ rfl _ _ 22 rfl w.heap.size 9 i0 (.string ⟨#[]⟩) 1 16 Tryz.underlying22 hi hz0 hz1 hz2 rfl (by decide) _ _ _ rfl (hown.alloc _) ⟨wr.heap.size, 0, none⟩ 1 1 [.string ⟨(List.take (psize (c :: r)) (c :: r)).toArray⟩] rfl rfl ?c1 ?c2 ?c3 ?c4 ?c5 ?_)
      case c1 =>
        intro j u hj
        match j, hj with
        | 0, hj => simp at hj; subst hj; simp [Addr.add]
      case c2 => intro u hu; simp at hu; subst hu; rfl
      case c3 => unfold maxLen; omega
      case c4 => omega
      case c5 => simp; omega
      intro v' w3 hown3 hgrow _
      have hb3 : Below w.heap.size w w3 := (hb.alloc hz _).grown hgrow (by simp; omega) (fun k hk => (hown.lt k hk).1)
      clear hx1
      go_wp2_with fail
      go_roundw
      case rel =>
        refine ⟨(c :: r).drop (psize (c :: r)), l ++ [(c :: r).take (psize (c :: r))], ?_, congrArg Value.string (ba_drop (c :: r) (psize (c :: r))), Lib.hid (by rw [HQ.out, HP.out]; simp), by simpa [strs] using hown3, hb3⟩
        rw [List.length_append, List.length_drop, List.length_singleton]
        simp only [List.length_cons] at *
        omega
      case measure =>
        have e := ba_drop (c :: r) (psize (c :: r))
        rw [List.length_cons] at e
        simp only [strLen, e, ba_size, List.length_drop, List.length_cons]
        omega
end Go.Proofs.YtanjmljlpdhlnaaGreatDoor
