/-
  Parse of package value: it returns what chapter 3 says; of what was there nothing has turned.
-/
import Derived.Test.YthibikdnoogfoaaGreatDoorVCmp
import Derived.Test.YthibikdnoogfoaaGreatDoorTUnq
import Derived.Laws.ResultCell
import Derived.Laws.Rows
namespace Go.Proofs.YthibikdnoogfoaaGreatDoor
open Go Go.RowKit Go.Sort Wire Txt Vl

/-- Block b holds a value. -/
def Box (w : World) (b : Nat) (v : V) : Prop := w.heap[b]? = some (.cells #[.int .i64 v.k, .int .i64 v.n, .string ⟨v.s.toArray⟩] 31 (0, 0))
theorem Box.lt {w : World} {b : Nat} {v : V} (h : Box w b v) : b < w.heap.size := (Array.getElem?_eq_some_iff.1 h).1
theorem Box.on {w w' : World} {b : Nat} {v : V} (h : Box w b v) (hb : Below w.heap.size w w') : Box w' b v := (hb.block b h.lt).trans h
theorem Box.c0 {w : World} {b : Nat} {v : V} (h : Box w b v) : w.cell? ⟨b, 0, none⟩ = some (.int .i64 v.k) := by rw [Lib.cell_of_heap h]; rfl
theorem Box.c1 {w : World} {b : Nat} {v : V} (h : Box w b v) : w.cell? ⟨b, 1, none⟩ = some (.int .i64 v.n) := by rw [Lib.cell_of_heap h]; rfl
theorem Box.c2 {w : World} {b : Nat} {v : V} (h : Box w b v) : w.cell? ⟨b, 2, none⟩ = some (.string ⟨v.s.toArray⟩) := by rw [Lib.cell_of_heap h]; rfl
theorem Box.z {w : World} {b : Nat} {v : V} (h : Box w b v) (i : Nat) : w.frozen? ⟨b, i, none⟩ = false := Lib.frozen_of_heap h i
theorem box_new (w : World) (v : V) : ∃ w2, w.alloc (.cells #[.int .i64 v.k, .int .i64 v.n, .string ⟨v.s.toArray⟩] 31) = w2 ∧ Box w2 w.heap.size v ∧ Below w.heap.size w w2 := ⟨_, rfl, boxed_heap w v.k v.n v.s, boxed_below w v.k v.n v.s⟩
theorem three_set {w w1 w2 : World} (h1 : Below w.heap.size w w1) (h2 : Below w1.heap.size w1 w2) (x y z : Value) : Below w.heap.size w (((w2.setCell ⟨w.heap.size, 0, none⟩ x).setCell ⟨w.heap.size, 1, none⟩ y).setCell ⟨w.heap.size, 2, none⟩ z) :=
  (((chain h1 h2).setCell (p := ⟨w.heap.size, 0, none⟩) (Nat.le_refl _) _).setCell (p := ⟨w.heap.size, 1, none⟩) (Nat.le_refl _) _).setCell (p := ⟨w.heap.size, 2, none⟩) (Nat.le_refl _) _

theorem Box.set3 {w : World} {b : Nat} {v : V} (h : Box w b v) (k n : Int) (s : List UInt8) : Box (((w.setCell ⟨b, 0, none⟩ (.int .i64 k)).setCell ⟨b, 1, none⟩ (.int .i64 n)).setCell ⟨b, 2, none⟩ (.string ⟨s.toArray⟩)) b ⟨k, n, s⟩ := by
  unfold Box at *
  simp [World.setCell, Array.getElem?_modify, h]
theorem infoV : (Tryz.prog.info? 31).map (·.size) = some 3 := by kernel_rfl
/-- A value of a variable and a temporary are returned. -/
theorem ret_box {fn : Func} {p u : Tmp} (hr : fn.results = #[.cell p 31, .tmp u]) (tmps : Array Value) (w : World) (b : Nat) (v : V) (hp : tmps.getD p undef = .pointer (some ⟨b, 0, none⟩)) (h : Box w b v) :
    (results fn tmps).run Tryz.prog w = .ok (.tuple #[.agg #[.int .i64 v.k, .int .i64 v.n, .string ⟨v.s.toArray⟩], tmps.getD u undef]) w := by
  rw [results_cell_tmp hr, hp]
  simp only [asAddr, Sem.run_pure, Result.andThen_ok]
  rw [run_loadVar_row w b _ _ _ _ _ h Tryz.underlying31 rfl (by rw [infoV]; rfl)]
  rfl

/-- What Parse returns. -/
def parseP (s : List UInt8) : Value := match parseV s with
  | some v => .tuple #[.agg #[.int .i64 v.k, .int .i64 v.n, .string ⟨v.s.toArray⟩], .bool true]
  | none => .tuple #[.agg #[.int .i64 0, .int .i64 0, .string ⟨#[]⟩], .bool false]
theorem parse_true (w : World) : Calls Tryz.prog 26 #[.string ⟨#[116, 114, 117, 101]⟩] w fun e w' => e = .returned (.tuple #[.agg #[.int .i64 2, .int .i64 1, .string ⟨#[]⟩], .bool true]) ∧ Below w.heap.size w w' := by
  obtain ⟨w1, e1, hx, hb⟩ := box_new w ⟨0, 0, []⟩
  simp only at e1
  go_enter Tryz.func26, Tryz.ntmps26
  go_wp2_with fail
  refine (vBool_c true _).mono ?_
  rintro e w2 ⟨rfl, hb2⟩
  have hx2 := hx.on hb2
  have c0 := hx2.c0
  have c1 := hx2.c1
  have c2 := hx2.c2
  have z0 := hx2.z 0
  have z1 := hx2.z 1
  have z2 := hx2.z 2
  go_wp2_with fail
  (try simp only [Exit.inBlock, Exit.then])
  refine bodyPost_ret (ret_box rfl _ _ w.heap.size ⟨2, 1, []⟩ rfl (hx2.set3 2 1 [])) rfl ?_
  exact ⟨rfl, three_set hb hb2 _ _ _⟩
theorem parse_false (w : World) : Calls Tryz.prog 26 #[.string ⟨#[102, 97, 108, 115, 101]⟩] w fun e w' => e = .returned (.tuple #[.agg #[.int .i64 2, .int .i64 0, .string ⟨#[]⟩], .bool true]) ∧ Below w.heap.size w w' := by
  obtain ⟨w1, e1, hx, hb⟩ := box_new w ⟨0, 0, []⟩
  simp only at e1
  go_enter Tryz.func26, Tryz.ntmps26
  go_wp2_with fail
  refine (vBool_c false _).mono ?_
  rintro e w2 ⟨rfl, hb2⟩
  have hx2 := hx.on hb2
  have c0 := hx2.c0
  have c1 := hx2.c1
  have c2 := hx2.c2
  have z0 := hx2.z 0
  have z1 := hx2.z 1
  have z2 := hx2.z 2
  go_wp2_with fail
  (try simp only [Exit.inBlock, Exit.then])
  refine bodyPost_ret (ret_box rfl _ _ w.heap.size ⟨2, 0, []⟩ rfl (hx2.set3 2 0 [])) rfl ?_
  exact ⟨rfl, three_set hb hb2 _ _ _⟩
set_option maxRecDepth 100000 in
theorem parse_int (s : List UInt8) (n : Int) (h1 : ¬ s = [116, 114, 117, 101]) (h2 : ¬ s = [102, 97, 108, 115, 101]) (hd : readDig s = some n) (hs : s.length ≤ 10000000) (w : World) (hg : Good w) : Calls Tryz.prog 26 #[.string ⟨s.toArray⟩] w fun e w' => e = .returned (.tuple #[.agg #[.int .i64 0, .int .i64 n, .string ⟨#[]⟩], .bool true]) ∧ Below w.heap.size w w' := by
  obtain ⟨w1, e1, hx, hb⟩ := box_new w ⟨0, 0, []⟩
  simp only at e1
  have hg1 := hg.on hb
  have t1 : (s == [116, 114, 117, 101]) = false := by simpa using h1
  have t2 : (s == [102, 97, 108, 115, 101]) = false := by simpa using h2
  go_enter Tryz.func26, Tryz.ntmps26
  go_wp2_with fail
  refine (int_ok s n hd (by omega) _ hg1).mono ?_
  rintro e w2 ⟨rfl, hb2⟩
  have hx2 := hx.on hb2
  go_wp2_with fail
  refine (vInt_c n _).mono ?_
  rintro e w3 ⟨rfl, hb3⟩
  have hx3 := hx2.on hb3
  have c0 := hx3.c0
  have c1 := hx3.c1
  have c2 := hx3.c2
  have z0 := hx3.z 0
  have z1 := hx3.z 1
  have z2 := hx3.z 2
  go_wp2_with fail
  (try simp only [Exit.inBlock, Exit.then])
  refine bodyPost_ret (ret_box rfl _ _ w.heap.size ⟨0, n, []⟩ rfl (hx3.set3 0 n [])) rfl ?_
  exact ⟨rfl, three_set hb (chain hb2 hb3) _ _ _⟩
set_option maxRecDepth 100000 in
theorem parse_text (s t : List UInt8) (h1 : ¬ s = [116, 114, 117, 101]) (h2 : ¬ s = [102, 97, 108, 115, 101]) (hd : readDig s = none) (hu : unquote s = some t) (ht : t.length ≤ 200) (hs : s.length ≤ 10000000) (w : World) (hg : Good w) : Calls Tryz.prog 26 #[.string ⟨s.toArray⟩] w fun e w' => e = .returned (.tuple #[.agg #[.int .i64 1, .int .i64 0, .string ⟨t.toArray⟩], .bool true]) ∧ Below w.heap.size w w' := by
  obtain ⟨w1, e1, hx, hb⟩ := box_new w ⟨0, 0, []⟩
  simp only at e1
  have hg1 := hg.on hb
  have t1 : (s == [116, 114, 117, 101]) = false := by simpa using h1
  have t2 : (s == [102, 97, 108, 115, 101]) = false := by simpa using h2
  go_enter Tryz.func26, Tryz.ntmps26
  go_wp2_with fail
  refine (int_no s hd (by omega) _ hg1).mono ?_
  rintro e w2 ⟨rfl, hb2⟩
  have hx2 := hx.on hb2
  have hg2 := hg1.on hb2
  go_wp2_with fail
  refine (unquote_c s hs _ hg2).mono ?_
  rw [unqV_some hu]
  rintro e w3 ⟨rfl, hb3⟩
  have hx3 := hx2.on hb3
  go_wp2_with fail
  refine (vText_c t _).mono ?_
  rintro e w4 ⟨rfl, hb4⟩
  have hx4 := hx3.on hb4
  go_wp2_with fail
  refine (right_c 1 0 t _).mono ?_
  rw [show rightV ⟨1, 0, t⟩ = true by simp [rightV, ht]]
  rintro e w5 ⟨rfl, hb5⟩
  have hx5 := hx4.on hb5
  go_wp2_with fail
  refine (vText_c t _).mono ?_
  rintro e w6 ⟨rfl, hb6⟩
  have hx6 := hx5.on hb6
  have c0 := hx6.c0
  have c1 := hx6.c1
  have c2 := hx6.c2
  have z0 := hx6.z 0
  have z1 := hx6.z 1
  have z2 := hx6.z 2
  go_wp2_with fail
  (try simp only [Exit.inBlock, Exit.then])
  refine bodyPost_ret (ret_box rfl _ _ w.heap.size ⟨1, 0, t⟩ rfl (hx6.set3 1 0 t)) rfl ?_
  exact ⟨rfl, three_set hb (chain hb2 (chain hb3 (chain hb4 (chain hb5 hb6)))) _ _ _⟩
set_option maxRecDepth 100000 in
theorem parse_long (s t : List UInt8) (h1 : ¬ s = [116, 114, 117, 101]) (h2 : ¬ s = [102, 97, 108, 115, 101]) (hd : readDig s = none) (hu : unquote s = some t) (ht : ¬ t.length ≤ 200) (hs : s.length ≤ 10000000) (w : World) (hg : Good w) : Calls Tryz.prog 26 #[.string ⟨s.toArray⟩] w fun e w' => e = .returned (.tuple #[.agg #[.int .i64 0, .int .i64 0, .string ⟨#[]⟩], .bool false]) ∧ Below w.heap.size w w' := by
  obtain ⟨w1, e1, hx, hb⟩ := box_new w ⟨0, 0, []⟩
  simp only at e1
  have hg1 := hg.on hb
  have t1 : (s == [116, 114, 117, 101]) = false := by simpa using h1
  have t2 : (s == [102, 97, 108, 115, 101]) = false := by simpa using h2
  go_enter Tryz.func26, Tryz.ntmps26
  go_wp2_with fail
  refine (int_no s hd (by omega) _ hg1).mono ?_
  rintro e w2 ⟨rfl, hb2⟩
  have hx2 := hx.on hb2
  have hg2 := hg1.on hb2
  go_wp2_with fail
  refine (unquote_c s hs _ hg2).mono ?_
  rw [unqV_some hu]
  rintro e w3 ⟨rfl, hb3⟩
  have hx3 := hx2.on hb3
  go_wp2_with fail
  refine (vText_c t _).mono ?_
  rintro e w4 ⟨rfl, hb4⟩
  have hx4 := hx3.on hb4
  go_wp2_with fail
  refine (right_c 1 0 t _).mono ?_
  rw [show rightV ⟨1, 0, t⟩ = false by simp [rightV]; omega]
  rintro e w5 ⟨rfl, hb5⟩
  have hx5 := hx4.on hb5
  have c0 := hx5.c0
  have c1 := hx5.c1
  have c2 := hx5.c2
  have z0 := hx5.z 0
  have z1 := hx5.z 1
  have z2 := hx5.z 2
  go_wp2_with fail
  (try simp only [Exit.inBlock, Exit.then])
  refine bodyPost_ret (ret_box rfl _ _ w.heap.size ⟨0, 0, []⟩ rfl (hx5.set3 0 0 [])) rfl ?_
  exact ⟨rfl, three_set hb (chain hb2 (chain hb3 (chain hb4 hb5))) _ _ _⟩
set_option maxRecDepth 100000 in
theorem parse_no (s : List UInt8) (h1 : ¬ s = [116, 114, 117, 101]) (h2 : ¬ s = [102, 97, 108, 115, 101]) (hd : readDig s = none) (hu : unquote s = none) (hs : s.length ≤ 10000000) (w : World) (hg : Good w) : Calls Tryz.prog 26 #[.string ⟨s.toArray⟩] w fun e w' => e = .returned (.tuple #[.agg #[.int .i64 0, .int .i64 0, .string ⟨#[]⟩], .bool false]) ∧ Below w.heap.size w w' := by
  obtain ⟨w1, e1, hx, hb⟩ := box_new w ⟨0, 0, []⟩
  simp only at e1
  have hg1 := hg.on hb
  have t1 : (s == [116, 114, 117, 101]) = false := by simpa using h1
  have t2 : (s == [102, 97, 108, 115, 101]) = false := by simpa using h2
  go_enter Tryz.func26, Tryz.ntmps26
  go_wp2_with fail
  refine (int_no s hd (by omega) _ hg1).mono ?_
  rintro e w2 ⟨rfl, hb2⟩
  have hx2 := hx.on hb2
  have hg2 := hg1.on hb2
  go_wp2_with fail
  refine (unquote_c s hs _ hg2).mono ?_
  rw [unqV_none hu]
  rintro e w3 ⟨rfl, hb3⟩
  have hx3 := hx2.on hb3
  have c0 := hx3.c0
  have c1 := hx3.c1
  have c2 := hx3.c2
  have z0 := hx3.z 0
  have z1 := hx3.z 1
  have z2 := hx3.z 2
  go_wp2_with fail
  (try simp only [Exit.inBlock, Exit.then])
  refine bodyPost_ret (ret_box rfl _ _ w.heap.size ⟨0, 0, []⟩ rfl (hx3.set3 0 0 [])) rfl ?_
  exact ⟨rfl, three_set hb (chain hb2 hb3) _ _ _⟩
theorem parse_c (s : List UInt8) (hs : s.length ≤ 10000000) (w : World) (hg : Good w) : Calls Tryz.prog 26 #[.string ⟨s.toArray⟩] w fun e w' => e = .returned (parseP s) ∧ Below w.heap.size w w' := by
  by_cases h1 : s = tTrue
  · subst h1
    exact (parse_true w).mono fun e w' ⟨he, hb⟩ => ⟨by rw [he]; rfl, hb⟩
  · by_cases h2 : s = tFalse
    · subst h2
      exact (parse_false w).mono fun e w' ⟨he, hb⟩ => ⟨by rw [he]; rfl, hb⟩
    · cases hd : readDig s with
      | some n =>
        have e0 : parseP s = .tuple #[.agg #[.int .i64 0, .int .i64 n, .string ⟨#[]⟩], .bool true] := by unfold parseP parseV; rw [if_neg h1, if_neg h2, hd]
        rw [e0]
        exact parse_int s n h1 h2 hd hs w hg
      | none =>
        cases hu : unquote s with
        | none =>
          have e0 : parseP s = .tuple #[.agg #[.int .i64 0, .int .i64 0, .string ⟨#[]⟩], .bool false] := by unfold parseP parseV; rw [if_neg h1, if_neg h2, hd, hu]
          rw [e0]
          exact parse_no s h1 h2 hd hu hs w hg
        | some t =>
          by_cases ht : t.length ≤ 200
          · have e0 : parseP s = .tuple #[.agg #[.int .i64 1, .int .i64 0, .string ⟨t.toArray⟩], .bool true] := by unfold parseP parseV; rw [if_neg h1, if_neg h2, hd, hu]; simp only; rw [if_pos ht]
            rw [e0]
            exact parse_text s t h1 h2 hd hu ht hs w hg
          · have e0 : parseP s = .tuple #[.agg #[.int .i64 0, .int .i64 0, .string ⟨#[]⟩], .bool false] := by unfold parseP parseV; rw [if_neg h1, if_neg h2, hd, hu]; simp only; rw [if_neg ht]
            rw [e0]
            exact parse_long s t h1 h2 hd hu ht hs w hg
theorem parseP_some {s : List UInt8} {v : V} (h : parseV s = some v) : parseP s = .tuple #[.agg #[.int .i64 v.k, .int .i64 v.n, .string ⟨v.s.toArray⟩], .bool true] := by unfold parseP; rw [h]
theorem parseP_none {s : List UInt8} (h : parseV s = none) : parseP s = .tuple #[.agg #[.int .i64 0, .int .i64 0, .string ⟨#[]⟩], .bool false] := by unfold parseP; rw [h]
end Go.Proofs.YthibikdnoogfoaaGreatDoor
