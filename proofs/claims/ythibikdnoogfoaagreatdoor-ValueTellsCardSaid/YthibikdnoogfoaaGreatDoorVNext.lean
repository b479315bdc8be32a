/-
  The closure of ParseRow: it reads one value more, or reports that there is none; it writes to the two variables that it holds alone, and to the row that the call itself has made.
-/
import Derived.Test.YthibikdnoogfoaaGreatDoorVExt
import Derived.Deep.AppendLies
import Derived.Deep.RegionHeld3
import Derived.Deep.DrawnRows
namespace Go.Proofs.YthibikdnoogfoaaGreatDoor
open Go Go.RowKit Go.Sort Wire Txt Vl

theorem cutPre_c (s p : List UInt8) (w : World) : Calls Tryz.prog 69 #[.string ⟨s.toArray⟩, .string ⟨p.toArray⟩] w fun e w' => e = .returned (.tuple #[.string ⟨(Lib.trimPrefix s p).toArray⟩, .bool (Lib.hasPrefix s p)]) ∧ w = w' :=
  (Tryz.strings_CutPrefix ⟨s.toArray⟩ ⟨p.toArray⟩ w).mono fun e w' ⟨he, hw⟩ => ⟨by rw [he], hw.symm⟩
theorem cutSuf_c (s p : List UInt8) (hs : s.length ≤ 10000000) (w : World) : Calls Tryz.prog 70 #[.string ⟨s.toArray⟩, .string ⟨p.toArray⟩] w fun e w' => e = .returned (.tuple #[.string ⟨(Lib.trimSuffix s p).toArray⟩, .bool (Lib.hasSuffix s p)]) ∧ w = w' :=
  (Tryz.strings_CutSuffix ⟨s.toArray⟩ ⟨p.toArray⟩ w (by rw [ba_size]; omega)).mono fun e w' ⟨he, hw⟩ => ⟨by rw [he], hw.symm⟩
theorem trimPre_yes {s p : List UInt8} (h : Lib.hasPrefix s p = true) : Lib.trimPrefix s p = s.drop p.length := by unfold Lib.trimPrefix; rw [if_pos h]
theorem trimPre_no {s p : List UInt8} (h : Lib.hasPrefix s p = false) : Lib.trimPrefix s p = s := by unfold Lib.trimPrefix; rw [if_neg (by simp [h])]
theorem trimPre_le (s p : List UInt8) : (Lib.trimPrefix s p).length ≤ s.length := by unfold Lib.trimPrefix; split <;> simp

/-- A variable that holds a string; one that holds a slice of values. -/
def StrAt (w : World) (b : Nat) (s : List UInt8) : Prop := w.heap[b]? = some (.cells #[.string ⟨s.toArray⟩] 9 (0, 0))
def SlcAt (w : World) (b : Nat) (v : Value) : Prop := w.heap[b]? = some (.cells #[v] 22 (0, 0))
theorem StrAt.lt {w : World} {b : Nat} {s : List UInt8} (h : StrAt w b s) : b < w.heap.size := (Array.getElem?_eq_some_iff.1 h).1
theorem SlcAt.lt {w : World} {b : Nat} {v : Value} (h : SlcAt w b v) : b < w.heap.size := (Array.getElem?_eq_some_iff.1 h).1
theorem StrAt.on {w w' : World} {b : Nat} {s : List UInt8} (h : StrAt w b s) (hb : Below w.heap.size w w') : StrAt w' b s := (hb.block b h.lt).trans h
theorem SlcAt.on {w w' : World} {b : Nat} {v : Value} (h : SlcAt w b v) (hb : Below w.heap.size w w') : SlcAt w' b v := (hb.block b h.lt).trans h
theorem StrAt.c {w : World} {b : Nat} {s : List UInt8} (h : StrAt w b s) : w.cell? ⟨b, 0, none⟩ = some (.string ⟨s.toArray⟩) := by rw [Lib.cell_of_heap h]; rfl
theorem SlcAt.c {w : World} {b : Nat} {v : Value} (h : SlcAt w b v) : w.cell? ⟨b, 0, none⟩ = some v := by rw [Lib.cell_of_heap h]; rfl
theorem StrAt.z {w : World} {b : Nat} {s : List UInt8} (h : StrAt w b s) : w.frozen? ⟨b, 0, none⟩ = false := Lib.frozen_of_heap h 0
theorem SlcAt.z {w : World} {b : Nat} {v : Value} (h : SlcAt w b v) : w.frozen? ⟨b, 0, none⟩ = false := Lib.frozen_of_heap h 0
/-- The cells of a row. -/
def cellsV (l : List V) : List Value := l.flatMap fun v => [.int .i64 v.k, .int .i64 v.n, .string ⟨v.s.toArray⟩]
theorem cellsV_snoc (l : List V) (v : V) : cellsV (l ++ [v]) = cellsV l ++ [.int .i64 v.k, .int .i64 v.n, .string ⟨v.s.toArray⟩] := by simp [cellsV]
def Own (B : Nat) (v : Value) (l : List V) (w : World) : Prop := w.ownsRow B 31 3 v l.length (cellsV l)

theorem slice_to (a : List UInt8) (n : Nat) (h : n ≤ a.length) (wx : World) :
    (Instr.slice 9 (.string ⟨a.toArray⟩) none (some (.int .i64 n)) none).run Tryz.prog wx = .ok (.string ⟨(a.take n).toArray⟩) wx := by
  rw [run_slice_string_to_if wx 9 _ _ _ Tryz.underlying9, if_pos ⟨by omega, by rw [ba_size]; omega⟩, Int.toNat_natCast, ba_take]
theorem slice_from (a : List UInt8) (n : Nat) (h : n ≤ a.length) (wx : World) :
    (Instr.slice 9 (.string ⟨a.toArray⟩) (some (.int .i64 n)) none none).run Tryz.prog wx = .ok (.string ⟨(a.drop n).toArray⟩) wx := by
  rw [run_slice_string_from_if wx 9 _ _ _ Tryz.underlying9, if_pos ⟨by omega, by rw [ba_size]; omega⟩, Int.toNat_natCast, ba_size, ba_drop]
theorem next_fail (p r a : List UInt8) (R W : Nat) (found ok : Bool) (v : V) (ha : Lib.trimPrefix r p = a) (hf : Lib.hasPrefix r p = found) (hp : parseP (a.take (extent a)) = .tuple #[.agg #[.int .i64 v.k, .int .i64 v.n, .string ⟨v.s.toArray⟩], .bool ok])
    (hfo : (found && ok) = false) (hal : a.length ≤ 10000000) (w : World) (hg : Good w) (hR : StrAt w R r) :
    Calls Tryz.prog 71 #[.string ⟨p.toArray⟩, .pointer (some ⟨R, 0, none⟩), .pointer (some ⟨W, 0, none⟩)] w fun e w' => e = .returned (.bool false) ∧ Below w.heap.size w w' := by
  have cr := hR.c
  have hxl := extent_le a
  have hsl := slice_to a (extent a) hxl
  have htl : (a.take (extent a)).length ≤ 10000000 := by rw [List.length_take]; omega
  have HA := Lib.hid ha
  have HF := Lib.hid hf
  have HP := Lib.hid hp
  clear ha hf hp
  go_enter Tryz.func71, Tryz.ntmps71
  go_wp2_with fail
  refine (cutPre_c r p _).mono ?_
  rw [HA.out, HF.out]
  rintro e w1 ⟨rfl, rfl⟩
  go_wp2_with fail
  refine (extent_c a hal _ hg).mono ?_
  rintro e w2 ⟨rfl, hb2⟩
  have hg2 := hg.on hb2
  go_wp2_with fail
  refine (parse_c _ htl _ hg2).mono ?_
  rw [HP.out]
  rintro e w3 ⟨rfl, hb3⟩
  obtain ⟨w4, e4, hx4, hb4⟩ := box_new w3 v
  cases found with
  | false =>
    go_wp2_with fail
    go_ret
    exact ⟨rfl, chain hb2 (chain hb3 hb4)⟩
  | true =>
    cases ok with
    | false =>
      go_wp2_with fail
      go_ret
      exact ⟨rfl, chain hb2 (chain hb3 hb4)⟩
    | true => cases hfo
theorem next_no (p r : List UInt8) (R W : Nat) (hr : r.length ≤ 10000000) (h : stepP p r = none) (w : World) (hg : Good w) (hR : StrAt w R r) :
    Calls Tryz.prog 71 #[.string ⟨p.toArray⟩, .pointer (some ⟨R, 0, none⟩), .pointer (some ⟨W, 0, none⟩)] w fun e w' => e = .returned (.bool false) ∧ Below w.heap.size w w' := by
  have htl := trimPre_le r p
  cases hf : Lib.hasPrefix r p with
  | false =>
    cases hv : parseV ((Lib.trimPrefix r p).take (extent (Lib.trimPrefix r p))) with
    | some v => exact next_fail p r _ R W false true v rfl hf (parseP_some hv) rfl (by omega) w hg hR
    | none => exact next_fail p r _ R W false false ⟨0, 0, []⟩ rfl hf (parseP_none hv) rfl (by omega) w hg hR
  | true =>
    have ht := trimPre_yes hf
    unfold stepP at h
    rw [if_pos hf] at h
    have hv : parseV ((r.drop p.length).take (extent (r.drop p.length))) = none := by simpa using h
    exact next_fail p r _ R W true false ⟨0, 0, []⟩ ht hf (parseP_none hv) rfl (by rw [List.length_drop]; omega) w hg hR

/-- What the closure leaves behind: the rest, and the row with one value more. -/
def NextPost (B R W : Nat) (l : List V) (v : V) (r' : List UInt8) (w : World) (e : Ending) (w' : World) : Prop :=
  e = .returned (.bool true) ∧ StrAt w' R r' ∧ (∃ sv, SlcAt w' W sv ∧ Own B sv (l ++ [v]) w') ∧ Below B w w' ∧ w.heap.size ≤ w'.heap.size
theorem own_ne {B b : Nat} {sv : Value} {l : List V} {w : World} {c : Array Value} {t : TypeId} {fz : Nat × Nat} (h : Own B sv l w) (hb : w.heap[b]? = some (.cells c t fz)) (ht : t ≠ 31) : some b ≠ sv.ownBlock := by
  intro he
  rcases h.2 with ⟨rfl, _⟩ | ⟨g', cap, cur, rfl, _, hh, _⟩
  · cases he
  · injection he with he
    subst he
    rw [hb] at hh
    injection hh with hh
    injection hh with _ h2
    exact ht h2
theorem grown_block {w w5 : World} {o : Obj} {row : Option Nat} (hg : ((w.alloc o).drew).grownBy w5 row) {b : Nat} (hb : b < w.heap.size) (hne : some b ≠ row) : w5.heap[b]? = w.heap[b]? :=
  (hg.block b (show b < (w.alloc o).heap.size by simp; omega) hne).trans (Lib.alloc_old w o b hb)
theorem StrAt.set {w : World} {b : Nat} {s : List UInt8} (h : StrAt w b s) (t : List UInt8) : StrAt (w.setCell ⟨b, 0, none⟩ (.string ⟨t.toArray⟩)) b t := by
  unfold StrAt at *
  simp [World.setCell, Array.getElem?_modify, h]
theorem SlcAt.set {w : World} {b : Nat} {v : Value} (h : SlcAt w b v) (x : Value) : SlcAt (w.setCell ⟨b, 0, none⟩ x) b x := by
  unfold SlcAt at *
  simp [World.setCell, Array.getElem?_modify, h]
theorem set_other (w : World) {b c : Nat} (x : Value) (h : b ≠ c) : (w.setCell ⟨c, 0, none⟩ x).heap[b]? = w.heap[b]? := Below.heap_setCell _ _ _ _ h
theorem own_set {B : Nat} {sv : Value} {l : List V} {w : World} (h : Own B sv l w) {b : Nat} (x : Value) (hne : some b ≠ sv.ownBlock) : Own B sv l (w.setCell ⟨b, 0, none⟩ x) := by
  refine ⟨h.1, ?_⟩
  rcases h.2 with h2 | ⟨g, cap, cur, rfl, hB, hh, hr⟩
  · exact Or.inl h2
  · refine Or.inr ⟨g, cap, cur, rfl, hB, ?_, hr⟩
    rw [set_other w x (fun e => hne (by rw [← e]; rfl))]
    exact hh
theorem next_end {B R W : Nat} {l : List V} {v : V} {r r' : List UInt8} {sv : Value} {w w4 w5 : World} {o : Obj} {g cap : Nat} (hRW : R ≠ W) (hB : B ≤ w.heap.size) (hBR : B ≤ R) (hBW : B ≤ W) (hb4 : Below w.heap.size w w4) (hown4 : Own B sv l w4)
    (hgrow : ((w4.alloc o).drew).grownBy w5 sv.ownBlock) (hR5 : StrAt w5 R r) (hW5 : SlcAt w5 W sv) (hown5 : Own B (.slice (some ⟨g, 0, none⟩) (l.length + 1) cap) (l ++ [v]) w5) :
    NextPost B R W l v r' w (.returned (.bool true)) ((w5.setCell ⟨W, 0, none⟩ (.slice (some ⟨g, 0, none⟩) (l.length + 1) cap)).setCell ⟨R, 0, none⟩ (.string ⟨r'.toArray⟩)) := by
  have n1 := own_ne hown5 hW5 (by decide)
  have n2 := own_ne hown5 hR5 (by decide)
  have hz := hb4.size
  have hzg := hgrow.size
  have hb5 : Below B w w5 := (((hb4.mono hB).alloc (by omega) o).drew).grown hgrow (by show B ≤ (w4.alloc o).heap.size; simp; omega) (fun k hk => (hown4.lt k hk).1)
  refine ⟨rfl, ?_, ⟨_, ?_, own_set (own_set hown5 _ n1) _ n2⟩, (hb5.setCell (p := ⟨W, 0, none⟩) hBW _).setCell (p := ⟨R, 0, none⟩) hBR _, ?_⟩
  · exact StrAt.set (s := r) (show StrAt _ R r from (set_other w5 _ hRW).trans hR5) r'
  · exact (set_other _ _ (Ne.symm hRW)).trans (hW5.set _)
  · have hzg' : (w4.alloc o).heap.size ≤ w5.heap.size := hzg
    simp at hzg'
    simp [World.setCell]
    omega
attribute [local go_sem ↓] Go.wp_at_zero Go.wp_at_succ
theorem infoVal : (Tryz.prog.info? 31).map (fun i => (i.zero, i.size, i.bytes)) = some (some (.agg #[.int .i64 0, .int .i64 0, .string ⟨#[]⟩]), 3, 32) := by kernel_rfl
set_option maxHeartbeats 4000000 in
set_option maxRecDepth 100000 in
theorem next_go (p r a : List UInt8) (B R W : Nat) (l : List V) (sv : Value) (v : V) (ha : Lib.trimPrefix r p = a) (hf : Lib.hasPrefix r p = true) (hp : parseP (a.take (extent a)) = .tuple #[.agg #[.int .i64 v.k, .int .i64 v.n, .string ⟨v.s.toArray⟩], .bool true])
    (hal : a.length ≤ 10000000) (hll : l.length ≤ 10000000) (w : World) (hg : Good w) (hR : StrAt w R r) (hW : SlcAt w W sv) (hown : Own B sv l w) (hBR : B ≤ R) (hBW : B ≤ W) (hB : B ≤ w.heap.size) :
    Calls Tryz.prog 71 #[.string ⟨p.toArray⟩, .pointer (some ⟨R, 0, none⟩), .pointer (some ⟨W, 0, none⟩)] w (NextPost B R W l v (a.drop (extent a)) w) := by
  obtain ⟨i0, hi, hz0, hz1, hz2⟩ := info_parts infoVal
  have cr := hR.c
  have hxl := extent_le a
  have hsl := slice_to a (extent a) hxl
  have hsf := slice_from a (extent a) hxl
  have htl : (a.take (extent a)).length ≤ 10000000 := by rw [List.length_take]; omega
  have HA := Lib.hid ha
  have HF := Lib.hid hf
  have HP := Lib.hid hp
  clear ha hf hp
  go_enter Tryz.func71, Tryz.ntmps71
  go_wp2_with fail
  refine (cutPre_c r p _).mono ?_
  rw [HA.out, HF.out]
  rintro e w1 ⟨rfl, rfl⟩
  go_wp2_with fail
  refine (extent_c a hal _ hg).mono ?_
  rintro e w2 ⟨rfl, hb2⟩
  have hg2 := hg.on hb2
  go_wp2_with fail
  refine (parse_c _ htl _ hg2).mono ?_
  rw [HP.out]
  rintro e w3 ⟨rfl, hb3⟩
  have hb23 := chain hb2 hb3
  obtain ⟨w4, e4, hx4, hb4⟩ := box_new w3 v
  have hR4 := (hR.on hb23).on hb4
  have hW4 := (hW.on hb23).on hb4
  have hown4 : Own B sv l w4 := owned_on (owned_on hown hb23) hb4
  have cR := hR4.c
  have zR := hR4.z
  have cW := hW4.c
  have zW := hW4.z
  have x0 := hx4.c0
  have x1 := hx4.c1
  have x2 := hx4.c2
  have nR := own_ne hown4 hR4 (by decide)
  have nW := own_ne hown4 hW4 (by decide)
  have lR := hR4.lt
  have lW := hW4.lt
  have hRW : R ≠ W := by
    rintro rfl
    rw [StrAt, show w4.heap[R]? = _ from hW4] at hR4
    injection hR4 with h
    injection h with _ h
    exact absurd h (by decide)
  have hbb4 : Below w.heap.size w w4 := chain hb2 (chain hb3 hb4)
  have hz4 := hbb4.size
  go_wp2_with fail
  go_region_law ((refine step_append_lies _ (by rfl) _ _ _ (by rfl) B 31 i0 (.agg #[.int .i64 0, .int .i64 0, .string ⟨#[]⟩]) 3 32 Tryz.underlying22 hi hz0 hz1 hz2 rfl (by decide) sv l.length (cellsV l) (by rfl) (World.ownsRow.drew (World.ownsRow.alloc hown4 _)) ⟨w4.heap.size, 0, none⟩ 1 1 _ (by rfl) (by rfl) (World.news_of_block (cs := #[_, _, _]) (fr := (0, 0)) (heap_alloc_new w4 _)) (by simp [Value.oneCell']) (by omega) (by unfold maxLen; omega) (by omega) (by simp; omega) (w4.heap.size + 1) (by simp) ?_; intro g cap w5 hown5 hgrow hat hlt5; have hW5 : SlcAt w5 W sv := (grown_block hgrow lW nW).trans hW4; have hR5 : StrAt w5 R r := (grown_block hgrow lR nR).trans hR4; have mW := hW5.c; have yW := hW5.z; have mR := hR5.c; have yR := hR5.z))
  all_goals
    go_wp2_with fail
    go_ret
    exact next_end hRW hB hBR hBW hbb4 hown4 hgrow hR5 hW5 (by unfold Own; rw [List.length_append, cellsV_snoc]; exact hown5)
theorem next_ok (p r : List UInt8) (B R W : Nat) (l : List V) (sv : Value) (v : V) (r' : List UInt8) (h : stepP p r = some (v, r')) (hr : r.length ≤ 10000000) (hll : l.length ≤ 10000000) (w : World) (hg : Good w) (hR : StrAt w R r) (hW : SlcAt w W sv) (hown : Own B sv l w) (hBR : B ≤ R) (hBW : B ≤ W) (hB : B ≤ w.heap.size) :
    Calls Tryz.prog 71 #[.string ⟨p.toArray⟩, .pointer (some ⟨R, 0, none⟩), .pointer (some ⟨W, 0, none⟩)] w (NextPost B R W l v r' w) := by
  unfold stepP at h
  by_cases hf : Lib.hasPrefix r p = true
  · rw [if_pos hf] at h
    cases hv : parseV ((r.drop p.length).take (extent (r.drop p.length))) with
    | none => rw [hv] at h; cases h
    | some x =>
      rw [hv] at h
      simp only [Option.map_some, Option.some.injEq, Prod.mk.injEq] at h
      obtain ⟨h1, h2⟩ := h
      subst h1 h2
      exact next_go p r _ B R W l sv x (trimPre_yes hf) hf (parseP_some hv) (by rw [List.length_drop]; omega) hll w hg hR hW hown hBR hBW hB
  · rw [if_neg hf] at h; cases h
end Go.Proofs.YthibikdnoogfoaaGreatDoor
