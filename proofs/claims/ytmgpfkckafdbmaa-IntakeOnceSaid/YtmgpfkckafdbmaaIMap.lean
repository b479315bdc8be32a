/-
  The counts of a partition: a map from times to numbers, in a block of its own.
-/
import Derived.Test.YtmgpfkckafdbmaaQBase
import Derived.Test.YtmgpfkckafdbmaaIModel
import Derived.Maps.RangeWalk
import Derived.Maps.OwnOps
import Derived.Maps.OwnSet
namespace Go.Proofs.Ytmgpfkckafdbmaa
set_option maxRecDepth 100000
open Go Go.RowKit Go.Maps

def I64 (n : Int) : Prop := -9223372036854775808 ≤ n ∧ n ≤ 9223372036854775807
theorem lawIm : Keyed Try.prog 3 := int_keyed Try.underlying3
theorem keyIm {n : Int} (h : I64 n) : keyOf Try.prog 3 (.int .i64 n) = some (.int .i64 n) := keyOf_int_mk Try.underlying3 (WalkArith.wf_i64 h)
theorem sub_len : ∀ (l m : List Int), l.Pairwise (fun a b => a ≠ b) → (∀ x ∈ l, x ∈ m) → l.length ≤ m.length
  | [], _, _, _ => Nat.zero_le _
  | x :: l, m, hp, h => by
    have hx := h x (List.mem_cons_self ..)
    obtain ⟨h1, h2⟩ := List.pairwise_cons.1 hp
    have := sub_len l (m.erase x) h2 (fun y hy => (List.mem_erase_of_ne (fun e => h1 y hy e.symm)).2 (h y (List.mem_cons_of_mem _ hy)))
    rw [List.length_erase_of_mem hx] at this
    have h0 : 0 < m.length := List.length_pos_of_mem hx
    rw [List.length_cons]
    omega

/-- What a map says: of each time its number. -/
structure CntIs (D : DataW Unit) (cs : List (Int × Int)) : Prop where
  keys : ∀ kl, Maps.has D kl = true → ∃ t, I64 t ∧ kl = .int .i64 t ∧ In.cnt cs t ≠ 0
  vals : ∀ t, I64 t → In.cnt cs t ≠ 0 → Maps.has D (.int .i64 t) = true ∧ ∀ z, D.atKey (.int .i64 t) z = .lit (.int .i64 (In.cnt cs t))
def CntAt (w : World) (b : Nat) (cs : List (Int × Int)) : Prop :=
  ∃ D : DataW Unit, w.ownsMap Try.prog 3 (plainElem Try.prog 3) b cs.length D ∧ CntIs D cs
/-- A map has no more entries than there are times. -/
theorem cnt_tight {w : World} {b n : Nat} {D : DataW Unit} {cs : List (Int × Int)} (h : w.ownsMap Try.prog 3 (plainElem Try.prog 3) b n D) (hc : CntIs D cs) : CntAt w b cs := by
  refine ⟨D, ?_, hc⟩
  obtain ⟨es0, hD, hp, _⟩ := h.entries lawIm
  obtain ⟨es, clock, hb, F, hs, rfl⟩ := h
  refine ⟨es, clock, hb, F, ?_, rfl⟩
  injection hD with hD
  have hlen : es.size = es0.length := by rw [← hD, length_sorted]; simp
  rw [hlen]
  have hget : ∀ p ∈ es0, ∃ t : Int, p.1 = .int .i64 t ∧ t ∈ cs.map Prod.fst := fun p hp' => by
    obtain ⟨t, _, h1, h2⟩ := hc.keys p.1 (by
      rw [hD]
      exact List.any_eq_true.2 ⟨p, hp', WideAt.sameKey_self (by
        have := mem_sorted.1 (hD ▸ hp' : p ∈ (es.toList.map (WideElems.rg Try.prog 3 (plainElem Try.prog 3))).foldr DataW.insert [])
        obtain ⟨x, hx, rfl⟩ := List.mem_map.1 this
        obtain ⟨y, hy⟩ := F.reads x hx
        rw [WideElems.rg_of hy]
        exact lawIm.key (WideElems.rd_key hy))⟩)
    exact ⟨t, h1, List.mem_map.2 ⟨_, In.cnt_mem h2, rfl⟩⟩
  have hl : (es0.map (fun p => match p.1 with | .int _ i => i | _ => 0)).length = es0.length := by simp
  rw [← hl, show cs.length = (cs.map Prod.fst).length by simp]
  refine sub_len _ _ ?_ ?_
  · refine List.Pairwise.map (R := fun p q => p.1 ≠ q.1 ∧ p ∈ es0 ∧ q ∈ es0) _ ?_ ?_
    · rintro p q ⟨hne, hp1, hq1⟩ e
      obtain ⟨i, hi, _⟩ := hget p hp1
      obtain ⟨j, hj, _⟩ := hget q hq1
      rw [hi, hj] at e
      exact hne (by rw [hi, hj]; exact congrArg _ e)
    · exact List.Pairwise.imp_of_mem (fun {a b} ha hb h => ⟨h, ha, hb⟩) hp
  · intro x hx
    obtain ⟨p, hp1, rfl⟩ := List.mem_map.1 hx
    obtain ⟨i, e, hi⟩ := hget p hp1
    rw [e]
    exact hi
theorem CntIs.same {D : DataW Unit} {cs cs' : List (Int × Int)} (h : CntIs D cs) (hc : ∀ t, In.cnt cs' t = In.cnt cs t) : CntIs D cs' :=
  ⟨fun kl hk => by
    obtain ⟨t, h1, h2, h3⟩ := h.keys kl hk
    exact ⟨t, h1, h2, by rw [hc]; exact h3⟩, fun t ht hn => by
    rw [hc] at hn ⊢
    exact h.vals t ht hn⟩
theorem CntAt.same {w : World} {b : Nat} {cs cs' : List (Int × Int)} (h : CntAt w b cs) (hc : ∀ t, In.cnt cs' t = In.cnt cs t) : CntAt w b cs' := by
  obtain ⟨D, h1, h2⟩ := h
  exact cnt_tight h1 (h2.same hc)
theorem ownsMap_kept {H : Type} {w w' : World} {S : Nat → Prop} {P : Program} {k : TypeId} {R : Value → Option (DataW H × List MemPlace)} {b n : Nat} {D : DataW H} (h : w.ownsMap P k R b n D) (hk : Kept S w w') (hn : ¬ S b) : w'.ownsMap P k R b n D := by
  obtain ⟨es, clock, hb, r⟩ := h
  exact ⟨es, clock, hk.heap hb hn, r⟩
theorem CntAt.kept {w w' : World} {S : Nat → Prop} {b : Nat} {cs : List (Int × Int)} (h : CntAt w b cs) (hk : Kept S w w') (hn : ¬ S b) : CntAt w' b cs := by
  obtain ⟨D, h1, h2⟩ := h
  exact ⟨D, ownsMap_kept h1 hk hn, h2⟩
theorem CntAt.on {w w' : World} {b : Nat} {cs : List (Int × Int)} (h : CntAt w b cs) (hb : Below w.heap.size w w') : CntAt w' b cs := h.kept (Kept.below (S := fun _ => False) hb) (fun e => e)
theorem CntAt.lt {w : World} {b : Nat} {cs : List (Int × Int)} (h : CntAt w b cs) : b < w.heap.size := by
  obtain ⟨D, h1, _⟩ := h
  exact h1.lt
theorem CntAt.made (w : World) : CntAt (w.alloc (.map #[] 0)) w.heap.size [] := by
  refine ⟨.map [], World.ownsMap_made w _ _ _, ⟨fun kl h => ?_, fun t _ h => absurd rfl h⟩⟩
  simp [Maps.has] at h
theorem CntAt.look {w : World} {b : Nat} {cs : List (Int × Int)} (h : CntAt w b cs) {t : Int} (ht : I64 t) : (Instr.lookup 44 (.map (some b)) (.int .i64 t) false).run Try.prog w = .ok (.int .i64 (In.cnt cs t)) w := by
  obtain ⟨D, h1, h2⟩ := h
  have hz : (zeroValue 3).run Try.prog w = .ok (.int .i64 0) w := by kernel_rfl
  obtain ⟨c, hrun, hat, _⟩ := h1.lookup_int lawIm Try.underlying44 Try.underlying3 hz (keyIm ht)
  rw [hrun]
  by_cases h0 : In.cnt cs t = 0
  · have hno : Maps.has D (.int .i64 t) = false := by
      cases hh : Maps.has D (.int .i64 t) with
      | false => rfl
      | true =>
        obtain ⟨u, _, e, hu⟩ := h2.keys _ hh
        injection e with _ e
        exact absurd (by rw [← e]; exact h0) hu
    rw [Maps.atKey_of_not_has hno] at hat
    injection hat with hat
    injection hat with _ hat
    rw [h0, ← hat]
  · rw [(h2.vals t ht h0).2] at hat
    injection hat with hat
    injection hat with _ hat
    rw [hat]
theorem CntIs.isMap {w : World} {b n : Nat} {D : DataW Unit} (h1 : w.ownsMap Try.prog 3 (plainElem Try.prog 3) b n D) : Maps.IsMap D := by obtain ⟨es, hD, _⟩ := h1.entries lawIm; exact ⟨es, hD⟩
theorem CntAt.store {w : World} {b : Nat} {cs cs' : List (Int × Int)} (h : CntAt w b cs) (hl : cs.length ≤ 4294967296) {t n : Int} (ht : I64 t) (hn : I64 n) (h0 : n ≠ 0) (hc : ∀ u, In.cnt cs' u = if u = t then n else In.cnt cs u) :
    ∃ w', (Instr.mapUpdate 44 (.map (some b)) (.int .i64 t) (.int .i64 n)).run Try.prog w = .ok () w' ∧ CntAt w' b cs' ∧ Kept (fun k => k = b) w w' := by
  obtain ⟨D, h1, h2⟩ := h
  have hm := CntIs.isMap h1
  have hkey : WideAt.IsKeyLit (.int .i64 t) := lawIm.key (keyIm ht)
  obtain ⟨w', hrun, ho, hg⟩ := h1.update (val := .int .i64 n) lawIm Try.underlying44 (by unfold maxLen; omega) (keyIm ht) (plainElem_int (H := Unit) Try.underlying3 (WalkArith.wf_i64 hn))
  refine ⟨w', hrun, cnt_tight ho ⟨fun kl hk => ?_, fun u hu hcu => ?_⟩, Kept.grown hg (fun k e => (Option.some.inj e).symm)⟩
  · by_cases e : kl = .int .i64 t
    · exact ⟨t, ht, e, by rw [hc, if_pos rfl]; exact h0⟩
    · rw [Maps.has_put_other e] at hk
      obtain ⟨u, h3, h4, h5⟩ := h2.keys kl hk
      exact ⟨u, h3, h4, by rw [hc, if_neg (fun f => e (by rw [h4, f]))]; exact h5⟩
  · by_cases e : u = t
    · subst e
      rw [hc, if_pos rfl]
      exact ⟨Maps.has_put_same hm hkey _, fun z => Maps.atKey_put_same hm hkey _ _⟩
    · rw [hc, if_neg e] at hcu ⊢
      have hne : (Lit.int .i64 u) ≠ .int .i64 t := fun h => by injection h with _ h; exact e h
      exact ⟨by rw [Maps.has_put_other hne]; exact (h2.vals u hu hcu).1, fun z => by rw [Maps.atKey_put_other hne]; exact (h2.vals u hu hcu).2 z⟩
theorem CntAt.drop {w : World} {b : Nat} {cs cs' : List (Int × Int)} (h : CntAt w b cs) {t : Int} (ht : I64 t) (hc : ∀ u, In.cnt cs' u = if u = t then 0 else In.cnt cs u) (ty : TypeId) :
    ∃ w', (Builtin.delete_ #[44, 3] ty #[.map (some b), .int .i64 t]).run Try.prog w = .ok (.tuple #[]) w' ∧ CntAt w' b cs' ∧ Kept (fun k => k = b) w w' := by
  obtain ⟨D, h1, h2⟩ := h
  have hm := CntIs.isMap h1
  have hkey : WideAt.IsKeyLit (.int .i64 t) := lawIm.key (keyIm ht)
  obtain ⟨w', hrun, ho, hg⟩ := h1.drop lawIm Try.underlying44 (keyIm ht) ty
  refine ⟨w', hrun, cnt_tight ho ⟨fun kl hk => ?_, fun u hu hcu => ?_⟩, Kept.grown hg.grown (fun k e => (Option.some.inj e).symm)⟩
  · by_cases e : kl = .int .i64 t
    · subst e
      rw [Maps.has_del_same] at hk
      cases hk
    · rw [Maps.has_del_other e] at hk
      obtain ⟨u, h3, h4, h5⟩ := h2.keys kl hk
      exact ⟨u, h3, h4, by rw [hc, if_neg (fun f => e (by rw [h4, f]))]; exact h5⟩
  · by_cases e : u = t
    · subst e
      rw [hc, if_pos rfl] at hcu
      exact absurd rfl hcu
    · rw [hc, if_neg e] at hcu ⊢
      have hne : (Lit.int .i64 u) ≠ .int .i64 t := fun h => by injection h with _ h; exact e h
      exact ⟨by rw [Maps.has_del_other hne]; exact (h2.vals u hu hcu).1, fun z => by rw [Maps.atKey_del_other hne]; exact (h2.vals u hu hcu).2 z⟩
end Go.Proofs.Ytmgpfkckafdbmaa
