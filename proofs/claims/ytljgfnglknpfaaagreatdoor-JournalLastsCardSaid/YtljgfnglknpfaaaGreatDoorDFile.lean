/-
  A file in a heap: its bytes, its durable part, its pending sectors, each in memory of its own.
-/
import Derived.Test.YtljgfnglknpfaaaGreatDoorDPut
import Derived.Maps.RangeWalk
import Derived.Maps.OwnOps
import Derived.Deep.RegionLaw
namespace Go.Proofs.YtljgfnglknpfaaaGreatDoor
set_option maxRecDepth 100000
open Go Go.RowKit Go.Maps Dk

theorem lawI : Keyed Tryz.prog 3 := int_keyed Tryz.underlying3
theorem keyI {n : Int} (h : -9223372036854775808 ≤ n ∧ n ≤ 9223372036854775807) : keyOf Tryz.prog 3 (.int .i64 n) = some (.int .i64 n) := keyOf_int_mk Tryz.underlying3 (WalkArith.wf_i64 (by omega))

/-- No two of a list are one, and each is a number below N: the list is no longer than N. -/
theorem len_le_of_nodup : ∀ (N : Nat) (l : List Nat), l.Pairwise (fun a b => a ≠ b) → (∀ x ∈ l, x < N) → l.length ≤ N
  | 0, l, _, h => by
    cases l with
    | nil => simp
    | cons x l => exact absurd (h x (List.mem_cons_self ..)) (Nat.not_lt_zero _)
  | N + 1, l, hd, h => by
    have h1 := len_le_of_nodup N (l.filter fun x => x != N) (hd.filter _) (fun x hx => by
      have := List.mem_filter.1 hx
      have h2 := h x this.1
      have h3 : x ≠ N := by simpa using this.2
      omega)
    have h2 : (l.filter fun x => !(x != N)).length ≤ 1 := by
      have hp : (l.filter fun x => !(x != N)).Pairwise (fun a b => a ≠ b) := hd.filter _
      have hq : ∀ x ∈ l.filter fun x => !(x != N), x = N := fun x hx => by simpa using (List.mem_filter.1 hx).2
      match hm : l.filter fun x => !(x != N) with
      | [] => simp
      | [_] => simp
      | a :: b :: r =>
        rw [hm] at hp hq
        have e1 := hq a (by simp)
        have e2 := hq b (by simp)
        have := (List.pairwise_cons.1 hp).1 b (by simp)
        exact absurd (e1.trans e2.symm) this
    have h3 : l.length = (l.filter fun x => x != N).length + (l.filter fun x => !(x != N)).length := by
      clear h1 h2 h hd
      induction l with
      | nil => rfl
      | cons a l ih => simp only [List.filter_cons]; cases (a != N) <;> simp <;> omega
    omega
/-- A map whose keys are numbers below N has no more than N entries. -/
theorem own_tight {H : Type} {w : World} {R : Value → Option (DataW H × List MemPlace)} {b n N : Nat} {D : DataW H} (h : w.ownsMap Tryz.prog 3 R b n D) (hk : ∀ kl, Maps.has D kl = true → ∃ i : Nat, i < N ∧ kl = .int .i64 i) : w.ownsMap Tryz.prog 3 R b N D := by
  obtain ⟨es0, hD, hp, _⟩ := h.entries lawI
  obtain ⟨es, clock, hb, F, hs, rfl⟩ := h
  refine ⟨es, clock, hb, F, ?_, rfl⟩
  injection hD with hD
  have hlen : es.size = es0.length := by rw [← hD, length_sorted]; simp
  rw [hlen]
  have hget : ∀ p ∈ es0, ∃ i : Nat, i < N ∧ p.1 = .int .i64 i := fun p hp' => by
    refine hk p.1 ?_
    rw [hD]
    exact List.any_eq_true.2 ⟨p, hp', WideAt.sameKey_self (by
      have := mem_sorted.1 (hD ▸ hp' : p ∈ (es.toList.map (WideElems.rg Tryz.prog 3 R)).foldr DataW.insert [])
      obtain ⟨x, hx, rfl⟩ := List.mem_map.1 this
      obtain ⟨y, hy⟩ := F.reads x hx
      rw [WideElems.rg_of hy]
      exact lawI.key (WideElems.rd_key hy))⟩
  have hmap : ∃ l : List Nat, l.length = es0.length ∧ l.Pairwise (fun a b => a ≠ b) ∧ ∀ x ∈ l, x < N := by
    refine ⟨es0.map (fun p => match p.1 with | .int _ i => i.toNat | _ => 0), by simp, ?_, ?_⟩
    · refine List.Pairwise.map (R := fun p q => p.1 ≠ q.1 ∧ p ∈ es0 ∧ q ∈ es0) _ ?_ ?_
      · rintro p q ⟨hne, hp1, hq1⟩ e
        obtain ⟨i, _, hi⟩ := hget p hp1
        obtain ⟨j, _, hj⟩ := hget q hq1
        rw [hi, hj] at e
        have e' : (i : Int).toNat = (j : Int).toNat := e
        simp at e'
        exact hne (by rw [hi, hj, e'])
      · exact List.Pairwise.imp_of_mem (fun {a b} ha hb h => ⟨h, ha, hb⟩) hp
    · intro x hx
      obtain ⟨p, hp1, rfl⟩ := List.mem_map.1 hx
      obtain ⟨i, hi, e⟩ := hget p hp1
      rw [e]
      simpa using hi
  obtain ⟨l, hl, h1, h2⟩ := hmap
  rw [← hl]
  exact len_le_of_nodup N l h1 h2
theorem ownsMap_kept {H : Type} {w w' : World} {S : Nat → Prop} {P : Program} {k : TypeId} {R : Value → Option (DataW H × List MemPlace)} {b n : Nat} {D : DataW H} (h : w.ownsMap P k R b n D) (hk : Kept S w w') (hn : ¬ S b) : w'.ownsMap P k R b n D := by
  obtain ⟨es, clock, hb, r⟩ := h
  exact ⟨es, clock, hk.heap hb hn, r⟩

/-- The pending sectors of a file: a map from their numbers to true. -/
def PendAt (w : World) (b : Nat) (S : Nat → Bool) : Prop :=
  ∃ D : DataW Unit, w.ownsMap Tryz.prog 3 (plainElem Tryz.prog 4) b 262144 D ∧ (∀ kl, Maps.has D kl = true → ∃ n : Nat, n < 262144 ∧ kl = .int .i64 n ∧ S n = true) ∧
    ∀ n : Nat, S n = true → Maps.has D (.int .i64 n) = true ∧ ∀ z, D.atKey (.int .i64 n) z = .lit (.bool true)
theorem PendAt.kept {w w' : World} {S : Nat → Prop} {b : Nat} {s : Nat → Bool} (h : PendAt w b s) (hk : Kept S w w') (hn : ¬ S b) : PendAt w' b s := by
  obtain ⟨D, h1, h2⟩ := h
  exact ⟨D, ownsMap_kept h1 hk hn, h2⟩
theorem PendAt.lt {w : World} {b : Nat} {s : Nat → Bool} (h : PendAt w b s) : b < w.heap.size := by
  obtain ⟨D, h1, _⟩ := h
  exact h1.lt
theorem PendAt.made (w : World) : PendAt (w.alloc (.map #[] 0)) w.heap.size (fun _ => false) := by
  refine ⟨.map [], (World.ownsMap_made w _ _ _).mono (Nat.zero_le _), fun kl h => ?_, fun n h => by cases h⟩
  simp [Maps.has] at h
theorem PendAt.look {w : World} {b : Nat} {s : Nat → Bool} (h : PendAt w b s) (n : Nat) (hn : (n : Int) ≤ 9223372036854775807) : (Instr.lookup 76 (.map (some b)) (.int .i64 n) false).run Tryz.prog w = .ok (.bool (s n)) w := by
  obtain ⟨D, h1, h2, h3⟩ := h
  have hz : (zeroValue 4).run Tryz.prog w = .ok (.bool false) w := by kernel_rfl
  obtain ⟨v, ps, hrun, hv⟩ := h1.lookup (z := .bool false) lawI Tryz.underlying76 hz (plainElem_bool Tryz.underlying4 false) (keyI (n := (n : Int)) (by omega))
  rw [hrun]
  have hD : D.atKey (.int .i64 (n : Int)) (.lit (.bool false)) = .lit (.bool (s n)) := by
    cases hs : s n with
    | true => exact (h3 n hs).2 _
    | false =>
      refine Maps.atKey_of_not_has ?_ _
      cases hh : Maps.has D (.int .i64 (n : Int)) with
      | false => rfl
      | true =>
        obtain ⟨m, _, e, hm⟩ := h2 _ hh
        injection e with _ e
        have : n = m := by omega
        rw [this, hm] at hs
        cases hs
  rw [hD] at hv
  cases v with
  | bool x =>
    rw [plainElem_bool Tryz.underlying4] at hv
    simp at hv
    rw [hv.1]
  | _ => simp [plainElem, Tryz.underlying4] at hv
theorem PendAt.store {w : World} {b : Nat} {s : Nat → Bool} (h : PendAt w b s) (n : Nat) (hn : n < 262144) :
    ∃ w', (Instr.mapUpdate 76 (.map (some b)) (.int .i64 n) (.bool true)).run Tryz.prog w = .ok () w' ∧ PendAt w' b (fun m => s m || m == n) ∧ w.grownBy w' (some b) := by
  obtain ⟨D, h1, h2, h3⟩ := h
  obtain ⟨w', hrun, ho, hg⟩ := h1.update (val := .bool true) lawI Tryz.underlying76 (by unfold maxLen; omega) (keyI (n := (n : Int)) (by omega)) (plainElem_bool Tryz.underlying4 true)
  have hm : Maps.IsMap D := by obtain ⟨es, hD, _⟩ := h1.entries lawI; exact ⟨es, hD⟩
  have hkey : WideAt.IsKeyLit (.int .i64 (n : Int)) := lawI.key (keyI (n := (n : Int)) (by omega))
  have hhas : ∀ kl, Maps.has (D.put (.int .i64 (n : Int)) (.lit (.bool true))) kl = true → ∃ m : Nat, m < 262144 ∧ kl = .int .i64 m ∧ (s m || m == n) = true := by
    intro kl hk
    by_cases e : kl = .int .i64 (n : Int)
    · exact ⟨n, hn, e, by simp⟩
    · rw [Maps.has_put_other e] at hk
      obtain ⟨m, h4, h5, h6⟩ := h2 kl hk
      exact ⟨m, h4, h5, by simp [h6]⟩
  refine ⟨w', hrun, ⟨_, own_tight ho (fun kl hk => ?_), hhas, fun m hs => ?_⟩, hg⟩
  · obtain ⟨m, h4, h5, _⟩ := hhas kl hk
    exact ⟨m, h4, h5⟩
  · by_cases e : m = n
    · subst e
      exact ⟨Maps.has_put_same hm hkey _, fun z => Maps.atKey_put_same hm hkey _ _⟩
    · have hne : (Lit.int .i64 (m : Int)) ≠ .int .i64 (n : Int) := fun h => by injection h with _ h; omega
      have hs' : s m = true := by simpa [e] using hs
      exact ⟨by rw [Maps.has_put_other hne]; exact (h3 m hs').1, fun z => by rw [Maps.atKey_put_other hne]; exact (h3 m hs').2 z⟩

/-- A file's blocks. -/
structure FileAt (w : World) (p : Nat) (nv dv : Value) (mb : Nat) (f : F) : Prop where
  cell : w.heap[p]? = some (.cells #[nv, dv, .map (some mb)] 78 (0, 0))
  now : w.ownsRow 0 5 1 nv f.now.length (bytesV f.now)
  dur : w.ownsRow 0 5 1 dv f.dur.length (bytesV f.dur)
  pend : PendAt w mb f.pend
  apart : p ≠ mb ∧ nv.ownBlock ≠ some p ∧ nv.ownBlock ≠ some mb ∧ dv.ownBlock ≠ some p ∧ dv.ownBlock ≠ some mb ∧ ∀ k, nv.ownBlock = some k → dv.ownBlock ≠ some k
def InF (p : Nat) (nv dv : Value) (mb : Nat) (k : Nat) : Prop := k = p ∨ k = mb ∨ nv.ownBlock = some k ∨ dv.ownBlock = some k

theorem own_lt {w : World} {e : TypeId} {size : Nat} {v : Value} {n : Nat} {xs : List Value} (h : w.ownsRow 0 e size v n xs) {k : Nat} (hk : v.ownBlock = some k) : k < w.heap.size := (h.lt k hk).2
theorem FileAt.lt {w : World} {p : Nat} {nv dv : Value} {mb : Nat} {f : F} (h : FileAt w p nv dv mb f) {k : Nat} (hk : InF p nv dv mb k) : k < w.heap.size := by
  rcases hk with rfl | rfl | hk | hk
  · exact (Array.getElem?_eq_some_iff.1 h.cell).1
  · exact h.pend.lt
  · exact own_lt h.now hk
  · exact own_lt h.dur hk
theorem FileAt.kept {w w' : World} {S : Nat → Prop} {p : Nat} {nv dv : Value} {mb : Nat} {f : F} (h : FileAt w p nv dv mb f) (hk : Kept S w w') (hn : ∀ k, InF p nv dv mb k → ¬ S k) : FileAt w' p nv dv mb f :=
  ⟨hk.heap h.cell (hn p (Or.inl rfl)), own_kept h.now hk (fun k e => hn k (Or.inr (Or.inr (Or.inl e)))), own_kept h.dur hk (fun k e => hn k (Or.inr (Or.inr (Or.inr e)))), h.pend.kept hk (hn mb (Or.inr (Or.inl rfl))), h.apart⟩
theorem FileAt.c0 {w : World} {p : Nat} {nv dv : Value} {mb : Nat} {f : F} (h : FileAt w p nv dv mb f) : w.cell? ⟨p, 0, none⟩ = some nv := by rw [Lib.cell_of_heap h.cell]; rfl
theorem FileAt.c1 {w : World} {p : Nat} {nv dv : Value} {mb : Nat} {f : F} (h : FileAt w p nv dv mb f) : w.cell? ⟨p, 1, none⟩ = some dv := by rw [Lib.cell_of_heap h.cell]; rfl
theorem FileAt.c2 {w : World} {p : Nat} {nv dv : Value} {mb : Nat} {f : F} (h : FileAt w p nv dv mb f) : w.cell? ⟨p, 2, none⟩ = some (.map (some mb)) := by rw [Lib.cell_of_heap h.cell]; rfl
theorem FileAt.z {w : World} {p : Nat} {nv dv : Value} {mb : Nat} {f : F} (h : FileAt w p nv dv mb f) (o : Nat) : w.frozen? ⟨p, o, none⟩ = false := Lib.frozen_of_heap h.cell o
theorem cells3_set {w : World} {p : Nat} {a b c : Value} {T : TypeId} (h : w.heap[p]? = some (.cells #[a, b, c] T (0, 0))) (o : Nat) (v : Value) (_ho : o < 3) : (w.setCell ⟨p, o, none⟩ v).heap[p]? = some (.cells (#[a, b, c].setIfInBounds o v) T (0, 0)) := by
  simp [World.setCell, Array.getElem?_modify, h]
end Go.Proofs.YtljgfnglknpfaaaGreatDoor
