/-
  take, Read and ReadRow of package value: each returns what chapter 3 says; of what was there nothing has turned.
-/
import Derived.Test.YthibikdnoogfoaaGreatDoorVNext
import Derived.Test.YthibikdnoogfoaaGreatDoorVParseR
import Derived.Test.YthibikdnoogfoaaGreatDoorReadB
import Derived.Deep.LoopGhost
namespace Go.Proofs.YthibikdnoogfoaaGreatDoor
open Go Go.RowKit Go.Sort Wire Txt Vl

theorem Box.only {w w' : World} {b c : Nat} {v : V} (h : Box w c v) (ho : Only b w w') (hne : c ≠ b) : Box w' c v := (ho.block c h.lt (by intro e; injection e with e; exact hne e)).trans h
theorem only_alloc (b : Nat) (w : World) (o : Obj) : Only b w (w.alloc o) := Only.of ((Below.refl _ _).alloc (Nat.le_refl _) _)
/-- A value of a variable is returned. -/
theorem ret_box1 {fn : Func} {p : Tmp} (hr : fn.results = #[.cell p 31]) (tmps : Array Value) (w : World) (b : Nat) (v : V) (hp : tmps.getD p undef = .pointer (some ⟨b, 0, none⟩)) (h : Box w b v) :
    (results fn tmps).run Tryz.prog w = .ok (.agg #[.int .i64 v.k, .int .i64 v.n, .string ⟨v.s.toArray⟩]) w :=
  results_cell_row hr tmps w b _ _ _ _ hp h Tryz.underlying31 rfl (by rw [infoV]; rfl)
theorem three_only {b c : Nat} {w w1 w2 : World} (h1 : Only b w w1) (h2 : Only b w1 w2) (hc : w.heap.size ≤ c) (hcb : c ≠ b) (x y z : Value) : Only b w (((w2.setCell ⟨c, 0, none⟩ x).setCell ⟨c, 1, none⟩ y).setCell ⟨c, 2, none⟩ z) := by
  have h := h1.trans h2
  refine ⟨h.os, h.tape, h.output, by simp [World.setCell]; exact h.size, fun i hi hne => ?_⟩
  have hic : i ≠ c := by omega
  rw [Below.heap_setCell _ _ _ _ hic, Below.heap_setCell _ _ _ _ hic, Below.heap_setCell _ _ _ _ hic]
  exact h.block i hi hne
/-- What take returns: the value, if there is one; else anything, and the reader has failed. -/
def TakePost (b : Nat) (r : List UInt8) (f : Bool) (w : World) (e : Ending) (w' : World) : Prop :=
  ∃ v : V, e = .returned (.agg #[.int .i64 v.k, .int .i64 v.n, .string ⟨v.s.toArray⟩]) ∧ Only b w w' ∧ ((∃ r', rdV r = some (v, r') ∧ Rd w' b r' f) ∨ (rdV r = none ∧ Rd w' b [] true))
theorem take_end {b : Nat} {r : List UInt8} {f : Bool} {w w1 w2 : World} (k n : Int) (s : List UInt8) (h1 : Only b w w1) (h2 : Only b w1 w2) (hb : b < w.heap.size) {r2 : List UInt8} {f2 : Bool} (hr : Rd w2 b r2 f2)
    (hc : (∃ r', rdV r = some (⟨k, n, s⟩, r') ∧ r2 = r' ∧ f2 = f) ∨ (rdV r = none ∧ r2 = [] ∧ f2 = true)) :
    TakePost b r f w (.returned (.agg #[.int .i64 k, .int .i64 n, .string ⟨s.toArray⟩])) (((w2.setCell ⟨w.heap.size, 0, none⟩ (.int .i64 k)).setCell ⟨w.heap.size, 1, none⟩ (.int .i64 n)).setCell ⟨w.heap.size, 2, none⟩ (.string ⟨s.toArray⟩)) := by
  have hbn : b ≠ w.heap.size := by omega
  have hrr : Rd (((w2.setCell ⟨w.heap.size, 0, none⟩ (.int .i64 k)).setCell ⟨w.heap.size, 1, none⟩ (.int .i64 n)).setCell ⟨w.heap.size, 2, none⟩ (.string ⟨s.toArray⟩)) b r2 f2 := by
    unfold Rd
    rw [Below.heap_setCell _ _ _ _ hbn, Below.heap_setCell _ _ _ _ hbn, Below.heap_setCell _ _ _ _ hbn]
    exact hr
  refine ⟨⟨k, n, s⟩, rfl, three_only h1 h2 (Nat.le_refl _) (Ne.symm hbn) _ _ _, ?_⟩
  rcases hc with ⟨r', h, rfl, rfl⟩ | ⟨h, rfl, rfl⟩
  · exact Or.inl ⟨_, h, hrr⟩
  · exact Or.inr ⟨h, hrr⟩
def IntPost (b : Nat) (r : List UInt8) (f : Bool) (w : World) (e : Ending) (w' : World) : Prop :=
  ∃ (n : Int) (r' : List UInt8) (f' : Bool), e = .returned (.int .i64 n) ∧ Rd w' b r' f' ∧ Only b w w' ∧ ((rInt 59 r = some (n, r') ∧ f' = f) ∨ (rInt 59 r = none ∧ r' = [] ∧ f' = true))
theorem intM_c (b : Nat) (r : List UInt8) (f : Bool) (hlen : r.length < 4294967281) (w : World) (hg : Good w) (h : Rd w b r f) :
    Calls Tryz.prog 81 #[.pointer (some ⟨b, 0, none⟩)] w (IntPost b r f w) := by
  cases hr : rInt 59 r with
  | some p =>
    obtain ⟨n, r'⟩ := p
    exact (rIntM_ok b r f n r' hr hlen w hg h).mono fun e w' ⟨he, h1, h2⟩ => ⟨n, r', f, he, h1, h2, Or.inl ⟨hr, rfl⟩⟩
  | none => exact (rIntM_no b r f hr hlen w hg h).mono fun e w' ⟨he, h1, h2⟩ => ⟨0, [], true, he, h1, h2, Or.inr ⟨hr, rfl, rfl⟩⟩
def TextPost (b : Nat) (r : List UInt8) (f : Bool) (w : World) (e : Ending) (w' : World) : Prop :=
  ∃ (s r' : List UInt8) (f' : Bool), e = .returned (.string ⟨s.toArray⟩) ∧ Rd w' b r' f' ∧ Only b w w' ∧ ((rText r = some (s, r') ∧ f' = f) ∨ (rText r = none ∧ r' = [] ∧ f' = true))
theorem textM_c (b : Nat) (r : List UInt8) (f : Bool) (hlen : r.length < 4294967281) (w : World) (hg : Good w) (h : Rd w b r f) :
    Calls Tryz.prog 82 #[.pointer (some ⟨b, 0, none⟩)] w (TextPost b r f w) := by
  cases hr : rText r with
  | some p =>
    obtain ⟨t, r'⟩ := p
    exact (rTextM_ok b r f t r' hr hlen w hg h).mono fun e w' ⟨he, h1, h2⟩ => ⟨t, r', f, he, h1, h2, Or.inl ⟨hr, rfl⟩⟩
  | none => exact (rTextM_no b r f hr hlen w hg h).mono fun e w' ⟨he, h1, h2⟩ => ⟨[], [], true, he, h1, h2, Or.inr ⟨hr, rfl, rfl⟩⟩
theorem rInt_nil : rInt 59 [] = none := rfl
theorem rText_nil : rText [] = none := rfl
theorem rdV_of {r : List UInt8} {k n : Int} {s r1 r2 r3 : List UInt8} (h1 : rInt 59 r = some (k, r1)) (h2 : rInt 59 r1 = some (n, r2)) (h3 : rText r2 = some (s, r3)) : rdV r = some (⟨k, n, s⟩, r3) := by
  unfold rdV
  rw [h1]
  simp only [Option.bind_some]
  rw [h2]
  simp only [Option.bind_some]
  rw [h3]
  rfl
theorem rdV_no1 {r : List UInt8} (h1 : rInt 59 r = none) : rdV r = none := by unfold rdV; rw [h1]; rfl
theorem rdV_no2 {r r1 : List UInt8} {k : Int} (h1 : rInt 59 r = some (k, r1)) (h2 : rInt 59 r1 = none) : rdV r = none := by unfold rdV; rw [h1]; simp only [Option.bind_some]; rw [h2]; rfl
theorem rdV_no3 {r r1 r2 : List UInt8} {k n : Int} (h1 : rInt 59 r = some (k, r1)) (h2 : rInt 59 r1 = some (n, r2)) (h3 : rText r2 = none) : rdV r = none := by unfold rdV; rw [h1]; simp only [Option.bind_some]; rw [h2]; simp only [Option.bind_some]; rw [h3]; rfl
theorem take_case {r r1 r2 r3 s : List UInt8} {f f1 f2 f3 : Bool} {k n : Int} (h1 : (rInt 59 r = some (k, r1) ∧ f1 = f) ∨ (rInt 59 r = none ∧ r1 = [] ∧ f1 = true)) (h2 : (rInt 59 r1 = some (n, r2) ∧ f2 = f1) ∨ (rInt 59 r1 = none ∧ r2 = [] ∧ f2 = true))
    (h3 : (rText r2 = some (s, r3) ∧ f3 = f2) ∨ (rText r2 = none ∧ r3 = [] ∧ f3 = true)) : (∃ r', rdV r = some (⟨k, n, s⟩, r') ∧ r3 = r' ∧ f3 = f) ∨ (rdV r = none ∧ r3 = [] ∧ f3 = true) := by
  rcases h1 with ⟨g1, rfl⟩ | ⟨g1, rfl, rfl⟩
  · rcases h2 with ⟨g2, rfl⟩ | ⟨g2, rfl, rfl⟩
    · rcases h3 with ⟨g3, rfl⟩ | ⟨g3, rfl, rfl⟩
      · exact Or.inl ⟨r3, rdV_of g1 g2 g3, rfl, rfl⟩
      · exact Or.inr ⟨rdV_no3 g1 g2 g3, rfl, rfl⟩
    · rcases h3 with ⟨g3, rfl⟩ | ⟨g3, rfl, rfl⟩
      · rw [rText_nil] at g3; cases g3
      · exact Or.inr ⟨rdV_no2 g1 g2, rfl, rfl⟩
  · rcases h2 with ⟨g2, rfl⟩ | ⟨g2, rfl, rfl⟩
    · rw [rInt_nil] at g2; cases g2
    · rcases h3 with ⟨g3, rfl⟩ | ⟨g3, rfl, rfl⟩
      · rw [rText_nil] at g3; cases g3
      · exact Or.inr ⟨rdV_no1 g1, rfl, rfl⟩
theorem int_short {r r' : List UInt8} {f f' : Bool} {n : Int} (h : (rInt 59 r = some (n, r') ∧ f' = f) ∨ (rInt 59 r = none ∧ r' = [] ∧ f' = true)) : r'.length ≤ r.length := by
  rcases h with ⟨h, _⟩ | ⟨_, rfl, _⟩
  · exact Nat.le_of_lt (rInt_shorter (by decide) h)
  · simp
theorem take_c (b : Nat) (r : List UInt8) (f : Bool) (hlen : r.length < 4294967281) (w : World) (hg : Good w) (hb6 : 4 ≤ b) (h : Rd w b r f) :
    Calls Tryz.prog 56 #[.pointer (some ⟨b, 0, none⟩)] w (TakePost b r f w) := by
  have hbl := h.lt
  obtain ⟨w1, e1, hx1, hb1⟩ := box_new w ⟨0, 0, []⟩
  simp only at e1
  have hr1 := h.on hb1
  have ho1 : Only b w w1 := Only.of hb1
  have hg1 := hg.on hb1
  have hbn : w.heap.size ≠ b := by omega
  go_enter Tryz.func56, Tryz.ntmps56
  go_wp2_with fail
  refine (intM_c b r f hlen _ hg1 hr1).mono ?_
  rintro e w2 ⟨k, r2, f2, rfl, hr2, ho2, hc2⟩
  have hl2 := int_short hc2
  have hg2 := hg1.only ho2 hb6
  have hx2 := hx1.only ho2 hbn
  have H2 := Lib.hid hc2
  clear hc2
  go_wp2_with fail
  refine (intM_c b r2 f2 (by omega) _ hg2 hr2).mono ?_
  rintro e w3 ⟨n, r3, f3, rfl, hr3, ho3, hc3⟩
  have hl3 := int_short hc3
  have hg3 := hg2.only ho3 hb6
  have hx3 := hx2.only ho3 hbn
  have H3 := Lib.hid hc3
  clear hc3
  go_wp2_with fail
  refine (textM_c b r3 f3 (by omega) _ hg3 hr3).mono ?_
  rintro e w4 ⟨s, r4, f4, rfl, hr4, ho4, hc4⟩
  have hx4 := hx3.only ho4 hbn
  have H4 := Lib.hid hc4
  clear hc4
  have c0 := hx4.c0
  have c1 := hx4.c1
  have c2 := hx4.c2
  have z0 := hx4.z 0
  have z1 := hx4.z 1
  have z2 := hx4.z 2
  go_wp2_with fail
  (try simp only [Exit.inBlock, Exit.then])
  refine bodyPost_ret (ret_box1 rfl _ _ w.heap.size ⟨k, n, s⟩ rfl (hx4.set3 k n s)) rfl ?_
  exact take_end k n s ho1 ((ho2.trans ho3).trans ho4) hbl hr4 (take_case H2.out H3.out H4.out)

/-- What Read returns. -/
def readP (s : List UInt8) : Value := match readV s with
  | some v => .tuple #[.agg #[.int .i64 v.k, .int .i64 v.n, .string ⟨v.s.toArray⟩], .bool true]
  | none => .tuple #[.agg #[.int .i64 0, .int .i64 0, .string ⟨#[]⟩], .bool false]
theorem readP_some {s : List UInt8} {v : V} (h : readV s = some v) : readP s = .tuple #[.agg #[.int .i64 v.k, .int .i64 v.n, .string ⟨v.s.toArray⟩], .bool true] := by unfold readP; rw [h]
theorem readP_none {s : List UInt8} (h : readV s = none) : readP s = .tuple #[.agg #[.int .i64 0, .int .i64 0, .string ⟨#[]⟩], .bool false] := by unfold readP; rw [h]
theorem read_c (s : List UInt8) (hs : s.length ≤ 10000000) (w : World) (hg : Good w) : Calls Tryz.prog 24 #[.string ⟨s.toArray⟩] w fun e w' => e = .returned (readP s) ∧ Below w.heap.size w w' := by
  obtain ⟨w1, e1, hx1, hb1⟩ := box_new w ⟨0, 0, []⟩
  simp only at e1
  have hg1 := hg.on hb1
  have hgs := hg1.big
  have hwz : w.heap.size < w1.heap.size := by rw [← e1]; simp
  go_enter Tryz.func24, Tryz.ntmps24
  go_wp2_with fail
  refine (rOpen_c s _).mono ?_
  rintro e w2 ⟨rfl, hr2, hb2⟩
  have hg2 := hg1.on hb2
  have hx2 := hx1.on hb2
  have hbb2 := chain hb1 hb2
  go_wp2_with fail
  refine (take_c w1.heap.size s false (by omega) _ hg2 hgs hr2).mono ?_
  rintro e w3 ⟨v, rfl, ho3, hc3⟩
  have hx3 := hx2.only ho3 (by omega)
  have hb3 : Below w.heap.size w w3 := hbb2.trans (ho3.below (by omega) hbb2.size)
  obtain ⟨w4, e4, hy4, hb4⟩ := box_new w3 v
  have hx4 := hx3.on hb4
  have hbb4 : Below w.heap.size w w4 := hb3.trans (hb4.mono hb3.size)
  have c0 := hx4.c0
  have c1 := hx4.c1
  have c2 := hx4.c2
  have z0 := hx4.z 0
  have z1 := hx4.z 1
  have z2 := hx4.z 2
  have y0 := hy4.c0
  have y1 := hy4.c1
  have y2 := hy4.c2
  have hset : ∀ x y z : Value, Below w.heap.size w (((w4.setCell ⟨w.heap.size, 0, none⟩ x).setCell ⟨w.heap.size, 1, none⟩ y).setCell ⟨w.heap.size, 2, none⟩ z) := fun x y z => ((hbb4.setCell (p := ⟨w.heap.size, 0, none⟩) (Nat.le_refl _) _).setCell (p := ⟨w.heap.size, 1, none⟩) (Nat.le_refl _) _).setCell (p := ⟨w.heap.size, 2, none⟩) (Nat.le_refl _) _
  have HS := Lib.hid hset
  clear hset
  rcases hc3 with ⟨r', hv, hr3⟩ | ⟨hv, hr3⟩
  · have hr4 := hr3.on hb4
    cases r' with
    | nil =>
      have HR := Lib.hid (show readV s = some v by unfold readV; rw [hv]; rfl)
      clear hv
      go_wp2_with fail
      refine (rDone_c _ _ _ _ hr4).mono ?_
      rintro e w5 ⟨rfl, rfl⟩
      go_wp2_with fail
      (try simp only [Exit.inBlock, Exit.then])
      refine bodyPost_ret (ret_box rfl _ _ w.heap.size v rfl (hx4.set3 v.k v.n v.s)) rfl ?_
      exact ⟨by rw [readP_some HR.out]; rfl, HS.out _ _ _⟩
    | cons x r' =>
      have HR := Lib.hid (show readV s = none by unfold readV; rw [hv]; rfl)
      clear hv
      go_wp2_with fail
      refine (rDone_c _ _ _ _ hr4).mono ?_
      rintro e w5 ⟨rfl, rfl⟩
      go_wp2_with fail
      (try simp only [Exit.inBlock, Exit.then])
      refine bodyPost_ret (ret_box rfl _ _ w.heap.size ⟨0, 0, []⟩ rfl (hx4.set3 0 0 [])) rfl ?_
      exact ⟨by rw [readP_none HR.out]; rfl, HS.out _ _ _⟩
  · have hr4 := hr3.on hb4
    have HR := Lib.hid (show readV s = none by unfold readV; rw [hv]; rfl)
    clear hv
    go_wp2_with fail
    refine (rDone_c _ _ _ _ hr4).mono ?_
    rintro e w5 ⟨rfl, rfl⟩
    go_wp2_with fail
    (try simp only [Exit.inBlock, Exit.then])
    refine bodyPost_ret (ret_box rfl _ _ w.heap.size ⟨0, 0, []⟩ rfl (hx4.set3 0 0 [])) rfl ?_
    exact ⟨by rw [readP_none HR.out]; rfl, HS.out _ _ _⟩

theorem own_only {B b : Nat} {sv : Value} {l : List V} {w w' : World} (h : Own B sv l w) (ho : Only b w w') (hne : some b ≠ sv.ownBlock) : Own B sv l w' := by
  refine ⟨h.1, ?_⟩
  rcases h.2 with h2 | ⟨g, cap, cur, rfl, hB, hh, hr⟩
  · exact Or.inl h2
  · refine Or.inr ⟨g, cap, cur, rfl, hB, ?_, hr⟩
    rw [ho.block g (Array.getElem?_eq_some_iff.1 hh).1 (fun e => hne (by rw [← e]; rfl))]
    exact hh
theorem rd_ne {B b : Nat} {sv : Value} {l : List V} {w : World} {r : List UInt8} {f : Bool} (h : Own B sv l w) (hr : Rd w b r f) : some b ≠ sv.ownBlock := own_ne h hr (by decide)
/-- What the reader has come to behind k values. -/
def Many (q : List UInt8) (k : Nat) (l : List V) (r : List UInt8) (f : Bool) : Prop := (rMany rdV k q = some (l, r) ∧ f = false) ∨ (rMany rdV k q = none ∧ r = [] ∧ f = true)
theorem many_next {q r : List UInt8} {k : Nat} {l : List V} {v : V} {r' : List UInt8} (h : Many q k l r false) (hv : rdV r = some (v, r')) : Many q (k + 1) (l ++ [v]) r' false := by
  rcases h with ⟨h, _⟩ | ⟨_, _, h⟩
  · left
    refine ⟨?_, rfl⟩
    simp only [rMany, h, Option.bind_some, hv]
    rfl
  · cases h
theorem many_fail {q r : List UInt8} {k : Nat} {l : List V} (l' : List V) (h : Many q k l r false) (hv : rdV r = none) : Many q (k + 1) l' [] true := by
  rcases h with ⟨h, _⟩ | ⟨_, _, h⟩
  · right
    refine ⟨?_, rfl, rfl⟩
    simp only [rMany, h, Option.bind_some, hv]
    rfl
  · cases h
theorem many_none {q r : List UInt8} {k n : Nat} {l : List V} {f : Bool} (h : Many q k l r f) (hr : r = []) (hk : k < n) : rMany rdV n q = none := by
  rcases h with ⟨h, _⟩ | ⟨h, _, _⟩
  · refine rMany_none (k := k + 1) ?_ (by omega)
    simp only [rMany, h, Option.bind_some, hr]
    rfl
  · exact rMany_none h (by omega)
theorem readR_no {s q : List UInt8} {n : Int} (h1 : rNum 59 s = some (n, q)) (h2 : rMany rdV n.toNat q = none) : readR s = none := by
  unfold readR
  rw [h1]
  simp only [Option.bind_some]
  rw [h2]
  rfl
/-- What ReadRow returns. -/
def ReadPost (s : List UInt8) (w : World) (e : Ending) (w' : World) : Prop :=
  ((∃ sv l, e = .returned (.tuple #[sv, .bool true]) ∧ readR s = some l ∧ l.length ≤ s.length ∧ Own w.heap.size sv l w') ∨ (e = .returned (.tuple #[.slice none 0 0, .bool false]) ∧ readR s = none)) ∧ Below w.heap.size w w'
set_option maxHeartbeats 1000000 in
set_option maxRecDepth 100000 in
theorem readRow_no (s : List UInt8) (hs : s.length ≤ 10000000) (hn : rNum 59 s = none) (w : World) (hg : Good w) : Calls Tryz.prog 28 #[.string ⟨s.toArray⟩] w (ReadPost s w) := by
  have HR := Lib.hid (show readR s = none by unfold readR; rw [hn]; rfl)
  have HN := Lib.hid hn
  clear hn
  go_enter Tryz.func28, Tryz.ntmps28
  go_wp2_with fail
  refine (rOpen_c s _).mono ?_
  rintro e w1 ⟨rfl, hr1, hb1⟩
  have hg1 := hg.on hb1
  go_wp2_with fail
  refine (rNumM_no _ s false HN.out (by omega) _ hg1 hr1).mono ?_
  rintro e w2 ⟨rfl, hr2, ho2⟩
  have hbb2 : Below w.heap.size w w2 := hb1.trans (ho2.below (Nat.le_refl _) hb1.size)
  go_wp2_with fail
  refine wp_loop_rounds 1 ?_
  rw [rounds_succ]
  go_wp2_with fail
  refine (rDone_c _ _ _ _ hr2).mono ?_
  rintro e w3 ⟨rfl, rfl⟩
  go_wp2_with fail
  go_ret2
  exact ⟨Or.inr ⟨rfl, HR.out⟩, hbb2⟩
set_option maxHeartbeats 2000000 in
set_option maxRecDepth 100000 in
theorem readRow_some (s q : List UInt8) (n : Int) (hs : s.length ≤ 10000000) (hn : rNum 59 s = some (n, q)) (w : World) (hg : Good w) : Calls Tryz.prog 28 #[.string ⟨s.toArray⟩] w (ReadPost s w) := by
  obtain ⟨i0, hi, hz0, hz1, hz2⟩ := info_parts infoVal
  obtain ⟨hn0, hn1, hn2⟩ := (rNum_iff 59 (by decide) s n q).1 hn
  clear hn2
  have hql := rNum_shorter (by decide) hn
  obtain ⟨m, rfl⟩ : ∃ m : Nat, n = m := ⟨n.toNat, by omega⟩
  have hm63 : m ≤ 9223372036854775807 := by unfold InR at hn1; omega
  have HN := Lib.hid hn
  clear hn hn0 hn1
  go_enter Tryz.func28, Tryz.ntmps28
  go_wp2_with fail
  refine (rOpen_c s _).mono ?_
  rintro e w1 ⟨rfl, hr1, hb1⟩
  have hg1 := hg.on hb1
  go_wp2_with fail
  refine (rNumM_ok _ s false m q HN.out (by omega) _ hg1 hr1).mono ?_
  rintro e w2 ⟨rfl, hr2, ho2⟩
  have hbb2 : Below w.heap.size w w2 := hb1.trans (ho2.below (Nat.le_refl _) hb1.size)
  clear hb1 hr1 ho2 hg1
  go_wp2_with fail
  go_loopg [5, 10] m (fun g s5 s10 wr => ∃ (k : Nat) (l : List V) (r : List UInt8) (f : Bool), k ≤ m ∧ g = m - k ∧ s10 = .int .i64 k ∧ l.length = k ∧ Hid (Many q k l r f) ∧ (f = false → k + r.length ≤ s.length) ∧ k ≤ s.length + 1 ∧ r.length ≤ s.length ∧ Rd wr w.heap.size r f ∧ Own w.heap.size s5 l wr ∧ Below w.heap.size w wr)
  case atStart => exact ⟨0, [], q, false, by omega, rfl, rfl, rfl, Lib.hid (Or.inl ⟨rfl, rfl⟩), by omega, by omega, by omega, hr2, ⟨rfl, Or.inl ⟨rfl, rfl⟩⟩, hbb2⟩
  case round =>
    obtain ⟨k, l, r, f, hk, rfl, rfl, hlk, HM, hkr, hks, hrs, hr, hown, hb⟩ := hrel
    clear hr2 hbb2
    have hgr := hg.on hb
    have hz := hb.size
    by_cases hlt : k < m
    · by_cases he : r = []
      · have HZ := Lib.hid (readR_no HN.out (show rMany rdV ((m : Int)).toNat q = none by rw [Int.toNat_natCast]; exact many_none HM.out he hlt))
        have hrl : r.length = 0 := by rw [he]; rfl
        clear he
        go_wp2_with fail
        refine (rLeft_c _ _ _ _ hr).mono ?_
        rintro e w3 ⟨rfl, rfl⟩
        go_wp2_with fail
        go_ret2
        exact ⟨Or.inr ⟨rfl, HZ.out⟩, hb⟩
      · have hf : f = false := by
          rcases HM.out with ⟨_, h⟩ | ⟨_, h, _⟩
          · exact h
          · exact absurd h he
        subst hf
        have hrl : r.length ≠ 0 := fun h => he (List.eq_nil_of_length_eq_zero h)
        have hkr' := hkr rfl
        clear he hkr
        go_wp2_with fail
        refine (rLeft_c _ _ _ _ hr).mono ?_
        rintro e w3 ⟨rfl, rfl⟩
        have hq0 : ((r.length : Int) == 0) = false := by simpa using hrl
        go_wp2_with fail
        refine (take_c w.heap.size r false (by omega) _ hgr hg.big hr).mono ?_
        rintro e w4 ⟨v, rfl, ho4, hc4⟩
        have hown4 := own_only hown ho4 (rd_ne hown hr)
        have hb4 := hb.trans (ho4.below (Nat.le_refl _) hz)
        have hz4 := hb4.size
        have H4 := Lib.hid hc4
        clear hc4
        go_wp2_with (at_builtin; refine wpList_append_own _ rfl _ _ 22 rfl w.heap.size 31 i0 (.agg #[.int .i64 0, .int .i64 0, .string ⟨#[]⟩]) 3 32 Tryz.underlying22 hi hz0 hz1 hz2 rfl (by decide) _ _ _ rfl (World.ownsRow.alloc hown4 _) ⟨w4.heap.size, 0, none⟩ 1 1 [.int .i64 v.k, .int .i64 v.n, .string ⟨v.s.toArray⟩] rfl rfl ?c1 ?c2 ?c3 ?c4 ?c5 ?_)
        case c1 => exact fun j u hj => World.news_of_block (cs := #[.int .i64 v.k, .int .i64 v.n, .string ⟨v.s.toArray⟩]) (fr := (0, 0)) (heap_alloc_new w4 _) j u hj
        case c2 => intro u hu; simp at hu; rcases hu with rfl | rfl | rfl <;> rfl
        case c3 => unfold maxLen; omega
        case c4 => omega
        case c5 => simp; omega
        intro v' w5 hown5 hgrow _
        have hb5 : Below w.heap.size w w5 := (hb4.alloc hz4 _).grown hgrow (by simp; omega) (fun k hk => (World.ownsRow.lt hown4 k hk).1)
        have hblk : w5.heap[w.heap.size]? = w4.heap[w.heap.size]? := (hgrow.block _ (by have := hr.lt; have := ho4.size; simp; omega) (rd_ne hown hr)).trans (Lib.alloc_old w4 _ _ (by have := hr.lt; have := ho4.size; omega))
        have hown6 : Own w.heap.size v' (l ++ [v]) w5 := by unfold Own; rw [List.length_append, cellsV_snoc, hlk]; exact hown5
        clear hown5 hgrow
        go_wp2_with fail
        rcases H4.out with ⟨r', hv, hr4⟩ | ⟨hv, hr4⟩
        · have hsh := rdV_shorter hv
          go_roundg (m - (k + 1))
          case measure => omega
          case rel => exact ⟨k + 1, l ++ [v], r', false, by omega, rfl, by go_num, by simp [hlk], Lib.hid (many_next HM.out hv), fun _ => by omega, by omega, by omega, hblk.trans hr4, hown6, hb5⟩
        · go_roundg (m - (k + 1))
          case measure => omega
          case rel => exact ⟨k + 1, l ++ [v], [], true, by omega, rfl, by go_num, by simp [hlk], Lib.hid (many_fail _ HM.out hv), (fun h => by cases h), by omega, by simp, hblk.trans hr4, hown6, hb5⟩
    · obtain rfl : k = m := by omega
      go_wp2_with fail
      refine (rDone_c _ _ _ _ hr).mono ?_
      rcases HM.out with ⟨hm, rfl⟩ | ⟨hm, rfl, rfl⟩
      · cases r with
        | nil =>
          have HZ := Lib.hid (show readR s = some l by
            unfold readR
            rw [HN.out]
            simp only [Option.bind_some, Int.toNat_natCast]
            rw [hm]
            rfl)
          clear hm
          rintro e w3 ⟨rfl, rfl⟩
          go_wp2_with fail
          go_ret2
          exact ⟨Or.inl ⟨_, l, rfl, HZ.out, by simp at hkr; omega, hown⟩, hb⟩
        | cons c r =>
          have HZ := Lib.hid (show readR s = none by
            unfold readR
            rw [HN.out]
            simp only [Option.bind_some, Int.toNat_natCast]
            rw [hm]
            rfl)
          clear hm
          rintro e w3 ⟨rfl, rfl⟩
          go_wp2_with fail
          go_ret2
          exact ⟨Or.inr ⟨rfl, HZ.out⟩, hb⟩
      · have HZ := Lib.hid (readR_no HN.out (show rMany rdV ((k : Int)).toNat q = none by rw [Int.toNat_natCast]; exact hm))
        clear hm
        rintro e w3 ⟨rfl, rfl⟩
        go_wp2_with fail
        go_ret2
        exact ⟨Or.inr ⟨rfl, HZ.out⟩, hb⟩
theorem readRow_c (s : List UInt8) (hs : s.length ≤ 10000000) (w : World) (hg : Good w) : Calls Tryz.prog 28 #[.string ⟨s.toArray⟩] w (ReadPost s w) := by
  cases hn : rNum 59 s with
  | none => exact readRow_no s hs hn w hg
  | some p =>
    obtain ⟨n, q⟩ := p
    exact readRow_some s q n hs hn w hg
end Go.Proofs.YthibikdnoogfoaaGreatDoor
