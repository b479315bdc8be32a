/-
  The reference of layer 3: Parse: it returns what chapter 3 says; of what was there nothing has turned.
-/
import Derived.Test.YthibikdnoogfoaaGreatDoorVRefB
import Derived.Test.YthibikdnoogfoaaGreatDoorTRefB
import Derived.Test.YthibikdnoogfoaaGreatDoorTRefD
namespace Go.Proofs.YthibikdnoogfoaaGreatDoor
open Go Go.RowKit Go.Sort Wire Txt Vl

theorem intV_some {s : List UInt8} {n : Int} (h : readDig s = some n) : intV s = .tuple #[.int .i64 n, .bool true] := by unfold intV; rw [h]
theorem intV_none {s : List UInt8} (h : readDig s = none) : intV s = .tuple #[.int .i64 0, .bool false] := by unfold intV; rw [h]
set_option maxRecDepth 100000 in
theorem refParse_true (w : World) : Calls Tryz.prog 27 #[.string ⟨#[116, 114, 117, 101]⟩] w fun e w' => e = .returned (.tuple #[.agg #[.int .i64 2, .int .i64 1, .string ⟨#[]⟩], .bool true]) ∧ Below w.heap.size w w' := by
  obtain ⟨w1, e1, hx, hb⟩ := box_new w ⟨0, 0, []⟩
  simp only at e1
  have c0 := hx.c0
  have c1 := hx.c1
  have c2 := hx.c2
  have z0 := hx.z 0
  have z1 := hx.z 1
  have z2 := hx.z 2
  go_enter Tryz.func27, Tryz.ntmps27
  go_wp2_with fail
  (try simp only [Exit.inBlock, Exit.then])
  refine bodyPost_ret (ret_box rfl _ _ w.heap.size ⟨2, 1, []⟩ rfl (hx.set3 2 1 [])) rfl ?_
  exact ⟨rfl, three_set hb (Below.refl _ _) _ _ _⟩
set_option maxRecDepth 100000 in
theorem refParse_false (w : World) : Calls Tryz.prog 27 #[.string ⟨#[102, 97, 108, 115, 101]⟩] w fun e w' => e = .returned (.tuple #[.agg #[.int .i64 2, .int .i64 0, .string ⟨#[]⟩], .bool true]) ∧ Below w.heap.size w w' := by
  obtain ⟨w1, e1, hx, hb⟩ := box_new w ⟨0, 0, []⟩
  simp only at e1
  have c0 := hx.c0
  have c1 := hx.c1
  have c2 := hx.c2
  have z0 := hx.z 0
  have z1 := hx.z 1
  have z2 := hx.z 2
  go_enter Tryz.func27, Tryz.ntmps27
  go_wp2_with fail
  (try simp only [Exit.inBlock, Exit.then])
  refine bodyPost_ret (ret_box rfl _ _ w.heap.size ⟨2, 0, []⟩ rfl (hx.set3 2 0 [])) rfl ?_
  exact ⟨rfl, three_set hb (Below.refl _ _) _ _ _⟩
set_option maxRecDepth 100000 in
theorem refParse_int (s : List UInt8) (n : Int) (h1 : ¬ s = [116, 114, 117, 101]) (h2 : ¬ s = [102, 97, 108, 115, 101]) (hd : readDig s = some n) (hs : s.length ≤ 1000000) (w : World) : Calls Tryz.prog 27 #[.string ⟨s.toArray⟩] w fun e w' => e = .returned (.tuple #[.agg #[.int .i64 0, .int .i64 n, .string ⟨#[]⟩], .bool true]) ∧ Below w.heap.size w w' := by
  obtain ⟨w1, e1, hx, hb⟩ := box_new w ⟨0, 0, []⟩
  simp only at e1
  have t1 : (s == [116, 114, 117, 101]) = false := by simpa using h1
  have t2 : (s == [102, 97, 108, 115, 101]) = false := by simpa using h2
  go_enter Tryz.func27, Tryz.ntmps27
  go_wp2_with fail
  refine (intR_c s (by omega) _).mono ?_
  rw [intV_some hd]
  rintro e w2 ⟨rfl, hb2⟩
  have hx2 := hx.on hb2
  have c0 := hx2.c0
  have c1 := hx2.c1
  have c2 := hx2.c2
  have z0 := hx2.z 0
  have z1 := hx2.z 1
  have z2 := hx2.z 2
  go_wp2_with fail
  (try simp only [Exit.inBlock, Exit.then])
  refine bodyPost_ret (ret_box rfl _ _ w.heap.size ⟨0, n, []⟩ rfl (hx2.set3 0 n [])) rfl ?_
  exact ⟨rfl, three_set hb hb2 _ _ _⟩
set_option maxRecDepth 100000 in
theorem refParse_text (s t : List UInt8) (h1 : ¬ s = [116, 114, 117, 101]) (h2 : ¬ s = [102, 97, 108, 115, 101]) (hd : readDig s = none) (hu : unquote s = some t) (ht : t.length ≤ 200) (hs : s.length ≤ 1000000) (w : World) : Calls Tryz.prog 27 #[.string ⟨s.toArray⟩] w fun e w' => e = .returned (.tuple #[.agg #[.int .i64 1, .int .i64 0, .string ⟨t.toArray⟩], .bool true]) ∧ Below w.heap.size w w' := by
  obtain ⟨w1, e1, hx, hb⟩ := box_new w ⟨0, 0, []⟩
  simp only at e1
  have t1 : (s == [116, 114, 117, 101]) = false := by simpa using h1
  have t2 : (s == [102, 97, 108, 115, 101]) = false := by simpa using h2
  go_enter Tryz.func27, Tryz.ntmps27
  go_wp2_with fail
  refine (intR_c s (by omega) _).mono ?_
  rw [intV_none hd]
  rintro e w2 ⟨rfl, hb2⟩
  have hx2 := hx.on hb2
  go_wp2_with fail
  refine (unquoteR_c s (by omega) _).mono ?_
  rw [unqV_some hu]
  rintro e w3 ⟨rfl, hb3⟩
  have hx3 := hx2.on hb3
  have c0 := hx3.c0
  have c1 := hx3.c1
  have c2 := hx3.c2
  have z0 := hx3.z 0
  have z1 := hx3.z 1
  have z2 := hx3.z 2
  go_wp2_with fail
  (try simp only [Exit.inBlock, Exit.then])
  refine bodyPost_ret (ret_box rfl _ _ w.heap.size ⟨1, 0, t⟩ rfl (hx3.set3 1 0 t)) rfl ?_
  exact ⟨rfl, three_set hb (chain hb2 hb3) _ _ _⟩
set_option maxRecDepth 100000 in
theorem refParse_long (s t : List UInt8) (h1 : ¬ s = [116, 114, 117, 101]) (h2 : ¬ s = [102, 97, 108, 115, 101]) (hd : readDig s = none) (hu : unquote s = some t) (ht : ¬ t.length ≤ 200) (hs : s.length ≤ 1000000) (w : World) : Calls Tryz.prog 27 #[.string ⟨s.toArray⟩] w fun e w' => e = .returned (.tuple #[.agg #[.int .i64 0, .int .i64 0, .string ⟨#[]⟩], .bool false]) ∧ Below w.heap.size w w' := by
  obtain ⟨w1, e1, hx, hb⟩ := box_new w ⟨0, 0, []⟩
  simp only at e1
  have t1 : (s == [116, 114, 117, 101]) = false := by simpa using h1
  have t2 : (s == [102, 97, 108, 115, 101]) = false := by simpa using h2
  go_enter Tryz.func27, Tryz.ntmps27
  go_wp2_with fail
  refine (intR_c s (by omega) _).mono ?_
  rw [intV_none hd]
  rintro e w2 ⟨rfl, hb2⟩
  have hx2 := hx.on hb2
  go_wp2_with fail
  refine (unquoteR_c s (by omega) _).mono ?_
  rw [unqV_some hu]
  rintro e w3 ⟨rfl, hb3⟩
  have hx3 := hx2.on hb3
  have c0 := hx3.c0
  have c1 := hx3.c1
  have c2 := hx3.c2
  have z0 := hx3.z 0
  have z1 := hx3.z 1
  have z2 := hx3.z 2
  go_wp2_with fail
  (try simp only [Exit.inBlock, Exit.then])
  refine bodyPost_ret (ret_box rfl _ _ w.heap.size ⟨0, 0, []⟩ rfl (hx3.set3 0 0 [])) rfl ?_
  exact ⟨rfl, three_set hb (chain hb2 hb3) _ _ _⟩
set_option maxRecDepth 100000 in
theorem refParse_no (s : List UInt8) (h1 : ¬ s = [116, 114, 117, 101]) (h2 : ¬ s = [102, 97, 108, 115, 101]) (hd : readDig s = none) (hu : unquote s = none) (hs : s.length ≤ 1000000) (w : World) : Calls Tryz.prog 27 #[.string ⟨s.toArray⟩] w fun e w' => e = .returned (.tuple #[.agg #[.int .i64 0, .int .i64 0, .string ⟨#[]⟩], .bool false]) ∧ Below w.heap.size w w' := by
  obtain ⟨w1, e1, hx, hb⟩ := box_new w ⟨0, 0, []⟩
  simp only at e1
  have t1 : (s == [116, 114, 117, 101]) = false := by simpa using h1
  have t2 : (s == [102, 97, 108, 115, 101]) = false := by simpa using h2
  go_enter Tryz.func27, Tryz.ntmps27
  go_wp2_with fail
  refine (intR_c s (by omega) _).mono ?_
  rw [intV_none hd]
  rintro e w2 ⟨rfl, hb2⟩
  have hx2 := hx.on hb2
  go_wp2_with fail
  refine (unquoteR_c s (by omega) _).mono ?_
  rw [unqV_none hu]
  rintro e w3 ⟨rfl, hb3⟩
  have hx3 := hx2.on hb3
  have c0 := hx3.c0
  have c1 := hx3.c1
  have c2 := hx3.c2
  have z0 := hx3.z 0
  have z1 := hx3.z 1
  have z2 := hx3.z 2
  go_wp2_with fail
  (try simp only [Exit.inBlock, Exit.then])
  refine bodyPost_ret (ret_box rfl _ _ w.heap.size ⟨0, 0, []⟩ rfl (hx3.set3 0 0 [])) rfl ?_
  exact ⟨rfl, three_set hb (chain hb2 hb3) _ _ _⟩
theorem refParse_c (s : List UInt8) (hs : s.length ≤ 1000000) (w : World) : Calls Tryz.prog 27 #[.string ⟨s.toArray⟩] w fun e w' => e = .returned (parseP s) ∧ Below w.heap.size w w' := by
  by_cases h1 : s = tTrue
  · subst h1
    exact (refParse_true w).mono fun e w' ⟨he, hb⟩ => ⟨by rw [he]; rfl, hb⟩
  · by_cases h2 : s = tFalse
    · subst h2
      exact (refParse_false w).mono fun e w' ⟨he, hb⟩ => ⟨by rw [he]; rfl, hb⟩
    · cases hd : readDig s with
      | some n =>
        have e0 : parseP s = .tuple #[.agg #[.int .i64 0, .int .i64 n, .string ⟨#[]⟩], .bool true] := by unfold parseP parseV; rw [if_neg h1, if_neg h2, hd]
        rw [e0]
        exact refParse_int s n h1 h2 hd hs w
      | none =>
        cases hu : unquote s with
        | none =>
          have e0 : parseP s = .tuple #[.agg #[.int .i64 0, .int .i64 0, .string ⟨#[]⟩], .bool false] := by unfold parseP parseV; rw [if_neg h1, if_neg h2, hd, hu]
          rw [e0]
          exact refParse_no s h1 h2 hd hu hs w
        | some t =>
          by_cases ht : t.length ≤ 200
          · have e0 : parseP s = .tuple #[.agg #[.int .i64 1, .int .i64 0, .string ⟨t.toArray⟩], .bool true] := by unfold parseP parseV; rw [if_neg h1, if_neg h2, hd, hu]; simp only; rw [if_pos ht]
            rw [e0]
            exact refParse_text s t h1 h2 hd hu ht hs w
          · have e0 : parseP s = .tuple #[.agg #[.int .i64 0, .int .i64 0, .string ⟨#[]⟩], .bool false] := by unfold parseP parseV; rw [if_neg h1, if_neg h2, hd, hu]; simp only; rw [if_neg ht]
            rw [e0]
            exact refParse_long s t h1 h2 hd hu ht hs w
end Go.Proofs.YthibikdnoogfoaaGreatDoor
