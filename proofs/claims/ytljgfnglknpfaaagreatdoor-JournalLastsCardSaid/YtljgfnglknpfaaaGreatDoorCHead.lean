/-
  cell: a header made durable; the header written and read.
-/
import Derived.Test.YtljgfnglknpfaaaGreatDoorCBase
import Derived.Deep.RegionLaw
namespace Go.Proofs.YtljgfnglknpfaaaGreatDoor
set_option maxRecDepth 100000
open Go Go.RowKit Go.Maps Dk

theorem cells5_set {w : World} {p : Nat} {a b c d e : Value} {T : TypeId} (h : w.heap[p]? = some (.cells #[a, b, c, d, e] T (0, 0))) (o : Nat) (v : Value) (_ho : o < 5) : (w.setCell ⟨p, o, none⟩ v).heap[p]? = some (.cells (#[a, b, c, d, e].setIfInBounds o v) T (0, 0)) := by
  simp [World.setCell, Array.getElem?_modify, h]

/-- What a method of a cell leaves: the disk, the cell, and what may have turned. -/
def CStep (w w' : World) (d b : Nat) (f : Int) (S : Nat → Prop) (X : D) (c : Ck.C) : Prop := DiskIn w' d (After S w) X ∧ CellAt w' b d f c ∧ Kept (fun k => S k ∨ k = b) w w'

theorem DiskIn.setCell {w : World} {d b o : Nat} {S : Nat → Prop} {X : D} {v : Value} (h : DiskIn w d S X) (hb : ¬ S b) : DiskIn (w.setCell ⟨b, o, none⟩ v) d S X := h.kept (Kept.set b o w v) (fun _ hk e => hb (e ▸ hk))

set_option maxRecDepth 100000 in
theorem secure_c (b d : Nat) (f : Int) (hf : -9223372036854775808 ≤ f ∧ f ≤ 9223372036854775807) (c : Ck.C) (S : Nat → Prop) (X : D) (w : World) (h : DiskIn w d S X) (hc : CellAt w b d f c) (hb : ¬ S b) :
    Calls Tryz.prog 60 #[.pointer (some ⟨b, 0, none⟩)] w fun e w' => e = .returned (.int .i64 (X.sync f).2) ∧ CStep w w' d b f S (X.sync f).1 { c with sure := (X.sync f).2 == 0 } := by
  have c0 := hc.c0
  have c1 := hc.c1
  have q : ∀ w0, Kept (fun _ => False) w w0 → Calls Tryz.prog 35 #[.pointer (some ⟨d, 0, none⟩), .int .i64 f] w0 fun e w' => e = .returned (.int .i64 (X.sync f).2) ∧ w'.frozen? ⟨b, 4, none⟩ = false ∧ w'.cell? ⟨b, 4, none⟩ = some (.bool c.sure) ∧ Hid (CStep w w' d b f S (X.sync f).1 c) := fun w0 hk0 => by
    refine (sync_c d S X f hf w0 (h.kept hk0 (fun _ _ e => e))).mono ?_
    rintro e w' ⟨rfl, h1, h2⟩
    have hc' : CellAt w' b d f c := (hc.kept hk0 (fun e => e)).kept h2 hb
    exact ⟨rfl, hc'.z 4, hc'.c4, h1.mono (fun k _ e => e.imp id (Nat.le_trans hk0.size)), hc', (hk0.mono (fun _ _ e => e.elim)).trans h2 (fun k _ e => Or.inl e)⟩
  have Q := Lib.hid q
  have hbl := hc.lt
  clear h hc q
  go_enter Tryz.func60, Tryz.ntmps60
  go_wp2_with fail
  go_region_law (go_simp; go_at_call 35; refine (Q.out _ (Kept.drew _ _)).mono ?_; rintro e w1 ⟨rfl, z4, k4, HP⟩)
  all_goals
    go_wp2_with fail
    go_ret
    obtain ⟨h1, h2, h3⟩ := HP.out
    exact ⟨rfl, h1.setCell (fun e => e.elim hb (fun e => absurd hbl (Nat.not_lt.2 e))), cells5_set h2 4 _ (by omega), h3.trans (Kept.set b 4 _ _) (fun k _ e => Or.inr e)⟩
end Go.Proofs.YtljgfnglknpfaaaGreatDoor
