/-
  A partition among others in one memory: the blocks that are written are known.
-/
import Derived.Test.YtmgpfkckafdbmaaIApply
import Derived.Test.YtmgpfkckafdbmaaINew
namespace Go.Proofs.Ytmgpfkckafdbmaa
set_option maxRecDepth 100000
open Go Go.RowKit Vl

/-- A partition whose known columns and table lie outside of the blocks F that are written. -/
structure HoldI (F : Nat → Prop) (w0 w : World) (b : Nat) (c : In.C) (p : IP) (s : In.St) (ks : List In.Kn) : Prop where
  at' : IxAt (fun k => ¬ F k) w b c p s
  lt : ∀ k, F k → k < w.heap.size
  kn : kns p.K = ks
  kz : Kz p.K
  b0 : w0.heap.size ≤ b
  m0 : w0.heap.size ≤ p.mb
theorem HoldI.fb {F : Nat → Prop} {w0 w : World} {b : Nat} {c : In.C} {p : IP} {s : In.St} {ks : List In.Kn} (h : HoldI F w0 w b c p s ks) : F b := Classical.not_not.1 h.at'.nb
theorem HoldI.fm {F : Nat → Prop} {w0 w : World} {b : Nat} {c : In.C} {p : IP} {s : In.St} {ks : List In.Kn} (h : HoldI F w0 w b c p s ks) : F p.mb := Classical.not_not.1 h.at'.nm
theorem HoldI.on {F : Nat → Prop} {w0 w w' : World} {b : Nat} {c : In.C} {p : IP} {s : In.St} {ks : List In.Kn} (h : HoldI F w0 w b c p s ks) (hb : Below w.heap.size w w') : HoldI F w0 w' b c p s ks :=
  ⟨h.at'.on hb, fun k hk => Nat.lt_of_lt_of_le (h.lt k hk) hb.size, h.kn, h.kz, h.b0, h.m0⟩
/-- Another partition has turned. -/
theorem HoldI.kept {F S : Nat → Prop} {w0 w w' : World} {b : Nat} {c : In.C} {p : IP} {s : In.St} {ks : List In.Kn} (h : HoldI F w0 w b c p s ks) (hk : Kept S w w') (hS : ∀ k, S k → F k) (h1 : ¬ S b) (h2 : ¬ S p.mb) : HoldI F w0 w' b c p s ks :=
  ⟨h.at'.kept hk (fun k _ f g => f (hS k g)) (fun k f g => by rcases f with rfl | rfl; exact h1 g; exact h2 g), fun k hk' => Nat.lt_of_lt_of_le (h.lt k hk') hk.size, h.kn, h.kz, h.b0, h.m0⟩
/-- More is written. -/
theorem HoldI.more {F F' : Nat → Prop} {w0 w w' : World} {b : Nat} {c : In.C} {p : IP} {s : In.St} {ks : List In.Kn} (h : HoldI F w0 w b c p s ks) (hb : Below w.heap.size w w') (hF : ∀ k, F k → F' k) (hn : ∀ k, k < w.heap.size → F' k → F k) (hlt : ∀ k, F' k → k < w'.heap.size) : HoldI F' w0 w' b c p s ks :=
  ⟨(h.at'.monoW (G' := fun k => ¬ F' k) (fun k hk f g => f (hn k hk g)) (fun f => f (hF _ h.fb)) (fun f => f (hF _ h.fm))).on hb, hlt, h.kn, h.kz, h.b0, h.m0⟩
def enOf (ks : List In.Kn) (e : EE) (row : List V) : In.En := ⟨e.kd, e.pr, e.ep, e.sq, e.tm, In.shape ks e.src.data.toList e.sc row⟩
/-- An entry, in a partition among others. -/
theorem HoldI.apply {F : Nat → Prop} {w0 w : World} {b : Nat} {c : In.C} {p : IP} {s : In.St} {ks : List In.Kn} (h : HoldI F w0 w b c p s ks) (hv : Iv c s) {e : EE} {row : List V} (he : EOk w e row) :
    Calls Try.prog 13 #[.pointer (some ⟨b, 0, none⟩), e.val] w fun r w' => r = .returned (.tuple #[.int .i64 (In.apply c s (enOf ks e row)).2.1, .int .i64 (In.apply c s (enOf ks e row)).2.2]) ∧
      Hid (∃ p', HoldI F w0 w' b c p' (In.apply c s (enOf ks e row)).1 ks ∧ p'.mb = p.mb ∧ Kept (InI b p) w w') := by
  have hq := apply_c h.at' (fun k hk f => by have := h.lt k f; omega) hv h.kz he
  have e1 : toEn p.K e row = enOf ks e row := by unfold toEn enOf; rw [h.kn]
  rw [e1] at hq
  refine hq.mono fun r w' ⟨h1, ta, tc, T, h2, h3⟩ => ⟨h1, Lib.hid ⟨_, ⟨h2, fun k hk => Nat.lt_of_lt_of_le (h.lt k hk) h3.size, h.kn, h.kz, h.b0, h.m0⟩, rfl, h3⟩⟩
/-- What an entry's numbers come to. -/
theorem Iv.apply {c : In.C} {s : In.St} (h : Iv c s) (e : In.En) (h1 : s.next + 1 ≤ 4611686018427387904) (h2 : s.refused + 1 ≤ 4611686018427387904) : Iv c (In.apply c s e).1 ∧ (In.apply c s e).1.next ≤ s.next + 1 ∧ (In.apply c s e).1.refused ≤ s.refused + 1 := by
  have hq : (In.apply c s e).1.next ≤ s.next + 1 ∧ (In.apply c s e).1.refused ≤ s.refused + 1 := by
    by_cases hz : (In.apply c s e).2.2 = 0
    · have hr := (In.apply_ok (c := c) (s := s) 0 hz).1
      refine ⟨?_, by rw [hr]; omega⟩
      by_cases k0 : e.kd = 0
      · rw [apply_kind0 c s e k0] at hz
        rw [In.apply_take k0 hz]
        exact Int.le_refl _
      · unfold In.apply
        rw [if_neg k0]
        split
        · split <;> (show s.next ≤ _; omega)
        · split
          · split
            · show s.next ≤ _; omega
            · split <;> (show s.next ≤ _; omega)
          · split
            · split <;> (show s.next ≤ _; omega)
            · show s.next ≤ _; omega
    · rw [In.apply_err hz]
      dsimp only
      refine ⟨by omega, ?_⟩
      split <;> omega
  exact ⟨⟨h.rt, In.ok_apply h.rt h.ok e, by omega, by omega⟩, hq⟩
theorem iv_new {c : In.C} (h : c.right) : Iv c In.new := ⟨h, In.ok_new c, by decide, by decide⟩
end Go.Proofs.Ytmgpfkckafdbmaa
