/-
  CellReads: the walk.
-/
import Derived.Test.YtninopllfbiccaaDoorCBoth
namespace Go.Proofs.YtninopllfbiccaaDoor
set_option maxRecDepth 100000
open Go Go.RowKit Go.Maps Dk

set_option maxHeartbeats 1000000 in
set_option maxRecDepth 100000 in
theorem creads_out (s t : List UInt8) (hs : s.length ≤ 9223372036854775807) (htl : t.length ≤ 9223372036854775807) (f : Int) (w : World) (ht : Tab w) (he : ¬ (s.length ≤ 300 ∧ t.length ≤ 300)) :
    Calls Tryd.prog 4 #[.string ⟨s.toArray⟩, .string ⟨t.toArray⟩, .int .i64 f] w fun e w' => e = .returned (.bool true) ∧ Below w.heap.size w w' := by
  go_enter Tryd.func4, Tryd.ntmps4
  go_wp2_with fail
  refine (cSmall_c w ht).mono ?_
  rintro e w1 ⟨rfl, hb1⟩
  have HB := Lib.hid hb1
  clear hb1
  by_cases h1 : (300 : Int) < (s.length : Int)
  · clear he
    go_wp2_with fail
    go_ret
    exact ⟨rfl, HB.out⟩
  · by_cases h2 : (300 : Int) < (t.length : Int)
    · clear he
      go_wp2_with fail
      go_ret
      exact ⟨rfl, HB.out⟩
    · exact absurd ⟨by omega, by omega⟩ he

set_option maxHeartbeats 1000000 in
set_option maxRecDepth 100000 in
theorem creads_in (s t : List UInt8) (hs : s.length ≤ 300) (htl : t.length ≤ 300) (f : Int) (hf : In64 f) (w : World) (ht : Tab w) :
    Calls Tryd.prog 4 #[.string ⟨s.toArray⟩, .string ⟨t.toArray⟩, .int .i64 f] w fun e w' => e = .returned (.bool true) ∧ Below w.heap.size w w' := by
  have h1 : ¬ (300 : Int) < (s.length : Int) := by omega
  have h2 : ¬ (300 : Int) < (t.length : Int) := by omega
  have z0 : In64 0 := by unfold In64; omega
  have zb : In64 131072 := by unfold In64; omega
  have hsl : s.length ≤ 9223372036854775807 := by omega
  have htL : t.length ≤ 9223372036854775807 := by omega
  obtain ⟨Y1, hY1⟩ : ∃ Y1, (D.new.write f 0 s).1 = Y1 := ⟨_, rfl⟩
  obtain ⟨Y2, hY2⟩ : ∃ Y2, (Y1.write f 131072 t).1 = Y2 := ⟨_, rfl⟩
  go_enter Tryd.func4, Tryd.ntmps4
  go_wp2_with fail
  refine (cSmall_c w ht).mono ?_
  rintro e w1 ⟨rfl, hb1⟩
  go_wp2_with fail
  refine (dd_new hb1).mono ?_
  rintro e w2 ⟨d, rfl, g2⟩
  clear hb1
  go_wp2_with fail
  refine (both_new g2.out.2 g2.out.1).mono ?_
  rintro e w3 ⟨r, rfl, g3⟩
  clear g2
  go_wp2_with fail
  refine ((g3.out).left (RDa.solid r D.new) (fun U hU _ _ => pd_op (write_c d U D.new f 0 s hf z0 hsl w3 hU))).mono ?_
  rintro e w4 ⟨_, rfl, g4⟩
  rw [hY1] at g4
  clear g3
  go_wp2_with fail
  refine ((g4.out).right (PDa.solid d Y1) (fun U hU _ _ => rd_op (rd_write f 0 hf z0 s (by omega) hU))).mono ?_
  rintro e w5 ⟨_, rfl, g5⟩
  rw [hY1] at g5
  clear g4
  go_wp2_with fail
  refine ((g5.out).left (RDa.solid r Y1) (fun U hU _ _ => pd_op (write_c d U Y1 f 131072 t hf zb htL w5 hU))).mono ?_
  rintro e w6 ⟨_, rfl, g6⟩
  rw [hY2] at g6
  clear g5
  go_wp2_with fail
  refine ((g6.out).right (PDa.solid d Y2) (fun U hU _ _ => rd_op (rd_write f 131072 hf zb t (by omega) hU))).mono ?_
  rintro e w7 ⟨_, rfl, g7⟩
  rw [hY2] at g7
  clear g6
  obtain ⟨z, hz⟩ : ∃ z, Ck.openM Y2 f = z := ⟨_, rfl⟩
  obtain ⟨oc, z⟩ := z
  cases oc with
  | none =>
    go_wp2_with fail
    refine ((g7.out).left (RDa.solid r Y2) (fun U hU _ hb => pd_open_no ht hb hU hf hz)).mono ?_
    rintro e w8 ⟨_, rfl, g8⟩
    clear g7
    go_wp2_with fail
    refine ((g8.out).right (PDa.solid d Y2) (fun U hU _ _ => rd_open_no hU hz)).mono ?_
    rintro e w9 ⟨_, rfl, g9⟩
    clear g8 hz hY1 hY2
    go_wp2_with fail
    go_ret
    exact ⟨rfl, g9.out.base⟩
  | some c =>
    go_wp2_with fail
    refine ((g7.out).left (RDa.solid r Y2) (fun U hU _ hb => pd_open ht hb hU hf hz)).mono ?_
    rintro e w8 ⟨b, rfl, g8⟩
    clear g7
    go_wp2_with fail
    refine ((g8.out).right (PCa.solid d b f Y2 c) (fun U hU _ _ => rd_open hU hz)).mono ?_
    rintro e w9 ⟨b', rfl, g9⟩
    clear g8 hz hY1 hY2
    go_wp2_with fail
    refine (both_get (RCa.solid r b' f Y2 c) g9.out).mono ?_
    obtain ⟨bv, hbv⟩ : ∃ bv, (c.slot != 0) = bv := ⟨_, rfl⟩
    rw [hbv]
    rintro e w10 ⟨rfl, g10⟩
    clear g9
    go_wp2_with fail
    refine (both_rget (PCa.solid d b f Y2 c) g10.out).mono ?_
    rw [hbv]
    rintro e w11 ⟨rfl, g11⟩
    clear g10 hbv
    go_wp2_with fail
    go_ret
    exact ⟨rfl, g11.out.base⟩

theorem reads_law (s t : List UInt8) (hs : s.length ≤ 9223372036854775807) (htl : t.length ≤ 9223372036854775807) (f : Int) (hf : In64 f) (w : World) (ht : Tab w) :
    Calls Tryd.prog 4 #[.string ⟨s.toArray⟩, .string ⟨t.toArray⟩, .int .i64 f] w fun e w' => e = .returned (.bool true) ∧ Below w.heap.size w w' := by
  by_cases he : s.length ≤ 300 ∧ t.length ≤ 300
  · exact creads_in s t he.1 he.2 f hf w ht
  · exact creads_out s t hs htl f w ht he
end Go.Proofs.YtninopllfbiccaaDoor
