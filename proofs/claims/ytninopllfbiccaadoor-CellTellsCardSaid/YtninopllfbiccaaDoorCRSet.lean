/-
  The reference's Set is what the model says: the whole.
-/
import Derived.Test.YtninopllfbiccaaDoorCRSetB
import Derived.Test.YtninopllfbiccaaDoorCRSetC
namespace Go.Proofs.YtninopllfbiccaaDoor
set_option maxRecDepth 100000
open Go Go.RowKit Go.Maps Dk

/-- The reference's Set is what the model says. -/
theorem rset5_c (b r : Nat) (f : Int) (c : Ck.C) (S : Nat → Prop) (X : D) (s : List UInt8) (w : World) (h : RSetOk w r b f S X c) :
    Calls Tryd.prog 15 #[.pointer (some ⟨b, 0, none⟩), .string ⟨s.toArray⟩] w fun e w' => e = .returned (.int .i64 (Ck.setM X f c s).2.2) ∧ RCStep w w' r b f S (Ck.setM X f c s).1 (Ck.setM X f c s).2.1 := by
  by_cases hl : 65536 < s.length
  · have e : Ck.setM X f c s = (X, c, 6) := by unfold Ck.setM; rw [if_pos hl]
    rw [e]
    exact rset_long b r f c S X s hl w h
  · have hs : s.length ≤ 65536 := by omega
    unfold Ck.setM
    rw [if_neg hl]
    by_cases hc : c.sure = false ∧ c.slot ≠ 0
    · rw [if_pos hc]
      dsimp only
      by_cases hr : (X.sync f).2 = 0
      · rw [if_neg (fun e => e hr)]
        by_cases h1 : c.slot = 1
        · exact rset_C1 b r f c S X s hs w h h1 hc.1 _ _ (Prod.ext rfl hr) rfl
        · exact rset_C0 b r f c S X s hs w h hc.2 h1 hc.1 _ _ (Prod.ext rfl hr) rfl
      · rw [if_pos hr]
        exact rset_first b r f c S X s hs w h hc.2 hc.1 hr
    · rw [if_neg hc]
      cases h4 : c.sure with
      | true =>
        by_cases h1 : c.slot = 1
        · exact rset_B1 b r f c S X s hs w h h1 h4
        · exact rset_B0 b r f c S X s hs w h h1 h4
      | false =>
        have h0 : c.slot = 0 := Classical.byContradiction fun e => hc ⟨h4, e⟩
        exact rset_A b r f c S X s hs w h h0 h4
end Go.Proofs.YtninopllfbiccaaDoor
