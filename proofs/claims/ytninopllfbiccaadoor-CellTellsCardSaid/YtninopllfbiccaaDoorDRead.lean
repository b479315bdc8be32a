/-
  disk's methods that read: Down, Size, Read; and those that set one cell: Start, Lose.
-/
import Derived.Test.YtninopllfbiccaaDoorDDisk
namespace Go.Proofs.YtninopllfbiccaaDoor
set_option maxRecDepth 100000
open Go Go.RowKit Go.Maps Dk

theorem size_c (d : Nat) (S : Nat → Prop) (X : D) (f : Int) (hf : -9223372036854775808 ≤ f ∧ f ≤ 9223372036854775807) (w : World) (h : DiskIn w d S X) :
    Calls Tryd.prog 27 #[.pointer (some ⟨d, 0, none⟩), .int .i64 f] w fun e w' => e = .returned (.int .i64 (X.size f)) ∧ w' = w := by
  obtain ⟨bm, blk, own, qv, kv, h, _⟩ := h
  have k0 := h.c0
  have hl := h.files.look2 f hf
  cases ho : ok f with
  | true =>
    rw [ho] at hl
    simp only [if_true] at hl
    have hi : f.toNat < 16 := by simp only [ok, decide_eq_true_eq] at ho; omega
    obtain ⟨nv, dv, mb, hF, _⟩ := h.file f.toNat hi
    obtain ⟨a, c, hnv, _⟩ := own_shape hF.now
    subst hnv
    have j0 := hF.c0
    have hs : X.size f = (X.file f.toNat).now.length := by unfold D.size; rw [ho]; rfl
    rw [hs]
    clear h hF hs ho
    go_enter Tryd.func27, Tryd.ntmps27
    go_wp2_with fail
    go_ret
    exact ⟨rfl, rfl⟩
  | false =>
    rw [ho] at hl
    simp only [Bool.false_eq_true, if_false] at hl
    have hs : X.size f = 0 := by unfold D.size; rw [ho]; rfl
    rw [hs]
    clear h hs ho
    go_enter Tryd.func27, Tryd.ntmps27
    go_wp2_with fail
    go_ret
    exact ⟨rfl, rfl⟩

set_option maxRecDepth 100000 in
theorem read_c (d : Nat) (S : Nat → Prop) (X : D) (f at' size : Int) (hf : -9223372036854775808 ≤ f ∧ f ≤ 9223372036854775807) (ha : at' ≤ 9223372036854775807) (hs : size ≤ 9223372036854775807) (w : World) (h : DiskIn w d S X) :
    Calls Tryd.prog 28 #[.pointer (some ⟨d, 0, none⟩), .int .i64 f, .int .i64 at', .int .i64 size] w fun e w' => e = .returned (.tuple #[.string ⟨(X.read f at' size).1.toArray⟩, .int .i64 (X.read f at' size).2]) ∧ w' = w := by
  obtain ⟨bm, blk, own, qv, kv, h, _⟩ := h
  have k0 := h.c0
  have k2 := h.c2
  have hl := h.files.look2 f hf
  unfold D.read
  cases hd : X.down with
  | true =>
    rw [hd] at k2
    clear h hl
    go_enter Tryd.func28, Tryd.ntmps28
    go_wp2_with fail
    go_ret2
    exact ⟨rfl, rfl⟩
  | false =>
    rw [hd] at k2
    cases ho : ok f with
    | false =>
      rw [ho] at hl
      simp only [Bool.false_eq_true, if_false] at hl
      clear h ho
      go_enter Tryd.func28, Tryd.ntmps28
      go_wp2_with fail
      go_ret2
      exact ⟨rfl, rfl⟩
    | true =>
      rw [ho] at hl
      simp only [if_true] at hl
      have hi : f.toNat < 16 := by simp only [ok, decide_eq_true_eq] at ho; omega
      obtain ⟨nv, dv, mb, hF, _⟩ := h.file f.toNat hi
      by_cases h1 : at' < 0
      · have e1 : decide (0 ≤ at') = false := by simp; omega
        rw [e1]
        clear h hF ho e1
        go_enter Tryd.func28, Tryd.ntmps28
        go_wp2_with fail
        go_ret2
        exact ⟨rfl, rfl⟩
      · by_cases h2 : size < 0
        · have e1 : decide (0 ≤ size) = false := by simp; omega
          rw [e1]
          simp only [Bool.and_false]
          clear h hF ho e1
          go_enter Tryd.func28, Tryd.ntmps28
          go_wp2_with fail
          go_ret2
          exact ⟨rfl, rfl⟩
        · obtain ⟨a, rfl⟩ : ∃ a : Nat, at' = a := ⟨at'.toNat, by omega⟩
          obtain ⟨s, rfl⟩ : ∃ s : Nat, size = s := ⟨size.toNat, by omega⟩
          have q := fread_c (blk f.toNat) nv dv mb _ a s w hF (h.inv.file f.toNat hi).small ha hs
          have e1 : decide (0 ≤ (a : Int)) = true := by simp
          have e2 : decide (0 ≤ (s : Int)) = true := by simp
          rw [e1, e2]
          simp only [Bool.and_self, if_true, Bool.false_eq_true, if_false, Int.toNat_natCast]
          have Q := Lib.hid q
          clear h hF ho e1 e2 q
          go_enter Tryd.func28, Tryd.ntmps28
          go_wp2_with (go_at_call 47; refine Q.out.mono ?_; rintro e w' ⟨rfl, rfl⟩)
          go_ret2
          exact ⟨rfl, rfl⟩

theorem cells6_set {w : World} {p : Nat} {a b c d e f : Value} {T : TypeId} (h : w.heap[p]? = some (.cells #[a, b, c, d, e, f] T (0, 0))) (o : Nat) (v : Value) (_ho : o < 6) : (w.setCell ⟨p, o, none⟩ v).heap[p]? = some (.cells (#[a, b, c, d, e, f].setIfInBounds o v) T (0, 0)) := by
  simp [World.setCell, Array.getElem?_modify, h]

/-- Other cells of a disk's own block, the rest as it was. -/
theorem DiskAt.recell {w w' : World} {d bm : Nat} {blk : Nat → Nat} {own : Nat → Nat → Prop} {qv kv : Value} {X : D} (h : DiskAt w d bm blk own qv kv X) (hk : Kept (fun k => k = d) w w') (down : Bool) (lost left : Nat)
    (hc : w'.heap[d]? = some (.cells #[.map (some bm), qv, .bool down, .int .i64 (lost : Int), .int .i64 (left : Int), kv] 60 (0, 0))) (h1 : (lost : Int) ≤ 9223372036854775807) (h2 : (left : Int) ≤ 9223372036854775807) :
    DiskAt w' d bm blk own qv kv { X with down := down, lost := lost, left := left } :=
  { cell := hc
    files := h.files.kept hk (fun e => h.apart.1 e.symm)
    queue := own_kept h.queue hk (fun k e e' => h.apart.2.1 (by rw [e, e']))
    keep := own_kept h.keep hk (fun k e e' => h.apart.2.2.2.1 (by rw [e, e']))
    file := fun i hi => (h.file i hi).kept hk (fun k ho => (h.ownNe i hi k ho).1)
    inv := D.set_inv h.inv lost left X.keep down, lost := h1, left := h2, keepIn := h.keepIn, keepLen := h.keepLen
    ownLt := fun i hi k ho => Nat.lt_of_lt_of_le (h.ownLt i hi k ho) hk.size
    ownNe := h.ownNe, ownOne := h.ownOne, apart := h.apart }

theorem start_c (d : Nat) (S : Nat → Prop) (X : D) (w : World) (h : DiskIn w d S X) : Calls Tryd.prog 26 #[.pointer (some ⟨d, 0, none⟩)] w fun e w' => e = .returned (.tuple #[]) ∧ DiskIn w' d S X.start ∧ Kept S w w' := by
  obtain ⟨bm, blk, own, qv, kv, h, hS⟩ := h
  have k2 := h.c2
  have z2 := h.z 2
  have H := Lib.hid h
  clear h
  go_enter Tryd.func26, Tryd.ntmps26
  go_wp2_with fail
  go_end0
  have hk := Kept.set d 2 w (.bool false)
  exact ⟨rfl, ⟨bm, blk, own, qv, kv, H.out.recell hk false X.lost X.left (cells6_set H.out.cell 2 (.bool false) (by omega)) H.out.lost H.out.left, hS⟩, hk.mono (fun k _ e => by subst e; exact hS _ (Or.inl rfl))⟩

theorem lose_c (d : Nat) (S : Nat → Prop) (X : D) (n : Int) (hn : n ≤ 9223372036854775807) (w : World) (h : DiskIn w d S X) : Calls Tryd.prog 16 #[.pointer (some ⟨d, 0, none⟩), .int .i64 n] w fun e w' => e = .returned (.tuple #[]) ∧ DiskIn w' d S (X.lose n) ∧ Kept S w w' := by
  obtain ⟨bm, blk, own, qv, kv, h, hS⟩ := h
  have k3 := h.c3
  have z3 := h.z 3
  have H := Lib.hid h
  obtain ⟨m, hm⟩ : ∃ m, m = n.toNat := ⟨_, rfl⟩
  have hmax : (if n < 0 then (0 : Int) else n) = (m : Int) := by split <;> omega
  have HM := Lib.hid hm
  have hmn : (m : Int) ≤ 9223372036854775807 := by omega
  clear h hm
  go_enter Tryd.func16, Tryd.ntmps16
  go_wp2_with fail
  go_end0
  have hk := Kept.set d 3 w (.int .i64 (m : Int))
  have hd : X.lose n = { X with down := X.down, lost := m, left := X.left } := by rw [HM.out]; rfl
  rw [hd]
  exact ⟨rfl, ⟨bm, blk, own, qv, kv, H.out.recell hk X.down m X.left (cells6_set H.out.cell 3 (.int .i64 (m : Int)) (by omega)) hmn H.out.left, hS⟩, hk.mono (fun k _ e => by subst e; exact hS _ (Or.inl rfl))⟩
end Go.Proofs.YtninopllfbiccaaDoor
