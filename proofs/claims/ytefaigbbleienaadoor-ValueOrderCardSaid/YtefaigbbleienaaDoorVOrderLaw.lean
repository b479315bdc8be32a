/-
  ValueOrder returns true, for every four rows, short or not; of what was there nothing has turned.
-/
import Derived.Test.YtefaigbbleienaaDoorVOrder
namespace Go.Proofs.YtefaigbbleienaaDoor
open Go Go.RowKit Go.Sort Wire Txt Vl

theorem orderLaw_c (a b c t : List V) (xa xb xc xt : Value) (w : World) (hg : Good w) (ha : OArg w xa a) (hb : OArg w xb b) (hc : OArg w xc c) (ht : OArg w xt t) :
    Calls Tryd.prog 3 #[xa, xb, xc, xt] w fun e w' => e = .returned (.bool true) ∧ Below w.heap.size w w' := by
  cases h1 : shortR a 15 with
  | false => exact order_out1 a b c t xa xb xc xt w hg ha hb hc ht h1
  | true =>
    cases h2 : shortR b 15 with
    | false => exact order_out2 a b c t xa xb xc xt w hg ha hb hc ht h1 h2
    | true =>
      cases h3 : shortR c 15 with
      | false => exact order_out3 a b c t xa xb xc xt w hg ha hb hc ht h1 h2 h3
      | true =>
        cases h4 : shortR t 5 with
        | false => exact order_out4 a b c t xa xb xc xt w hg ha hb hc ht h1 h2 h3 h4
        | true => exact order_main a b c t xa xb xc xt w hg ha hb hc ht h1 h2 h3 h4
end Go.Proofs.YtefaigbbleienaaDoor
