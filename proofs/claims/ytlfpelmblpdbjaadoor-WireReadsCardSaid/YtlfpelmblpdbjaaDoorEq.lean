/-
  equal: a reader that stands before the encoding of a value reads just that value, and is behind it then.
-/
import Derived.Test.YtlfpelmblpdbjaaDoorValB
namespace Go.Proofs.YtlfpelmblpdbjaaDoor
open Go Go.RowKit Go.Sort Wire

theorem Good.drew {w : World} (h : Good w) : Good w.drew := h.on ⟨rfl, rfl, rfl, Nat.le_refl _, fun _ _ => rfl⟩
theorem Only.drewN (b : Nat) (w : World) (k : Nat) : Only b w (w.drewN k) := ⟨rfl, rfl, rfl, Nat.le_refl _, fun _ _ _ => rfl⟩
theorem Only.cell {b : Nat} {w w' : World} (h : Only b w w') {p : Addr} (hp : p.block < w.heap.size) (hb : b ≠ p.block) : w'.cell? p = w.cell? p :=
  World.cell?_of_block (w := w) (h.block p.block hp (by intro e; injection e with e; exact hb e.symm))
theorem box_after {b B o : Nat} {w1 w2 : World} {v : Value} (h : Only b w1.drew w2) (hB : B < w1.heap.size) (hb : b < B) (c : w1.cell? ⟨B, o, none⟩ = some v) : w2.cell? ⟨B, o, none⟩ = some v :=
  (h.cell (p := ⟨B, o, none⟩) hB (by show b ≠ B; omega)).trans c
theorem list_read {α : Type} {p : List UInt8 → Option (α × List UInt8)} {conv : List α → List Value} {T : TypeId} {r q : List UInt8} {l : List α} {b : Nat} {w w' : World} {e : Ending} (hr : rList p r = some (l, q))
    (hp : (∃ l q v, rList p r = some (l, q) ∧ e = .returned v ∧ w'.ownsRow w.heap.size T 1 v l.length (conv l) ∧ Rd w' b q false) ∨ (rList p r = none ∧ e = .returned (.slice none 0 0) ∧ Rd w' b [] true)) :
    ∃ v, e = .returned v ∧ RowAt w' v (conv l) ∧ Rd w' b q false := by
  rcases hp with ⟨l', q', v, h1, h2, h3, h4⟩ | ⟨h1, _⟩
  · rw [hr] at h1
    injection h1 with h1
    injection h1 with h1 h1'
    subst h1 h1'
    exact ⟨v, h2, owned_row h3, h4⟩
  · rw [hr] at h1; cases h1
theorem read0 (n : Int) (h : InR n) (q : List UInt8) : rNum 59 (eNum (numv n) ++ q) = some (numv n, q) := by
  have := numv_in h
  rw [(rNum_iff 59 (by decide) _ _ _).2 ⟨this.2, this.1, ?_⟩]
  unfold eNum eInt
  rw [if_neg (by omega)]
  simp
theorem read1 (n : Int) (h : InR n) (q : List UInt8) : rInt 59 (eInt n ++ q) = some (n, q) := (rInt59_iff _ _ _).2 ⟨h, rfl⟩
theorem read2 (s : List UInt8) (h : s.length ≤ 1000000000000) (q : List UInt8) : rText (eText s ++ q) = some (s, q) := (rText_iff _ _ _).2 ⟨by unfold InR; omega, rfl⟩
theorem read3 (l : List Int) (h : ∀ y ∈ l, InR y) (hl : l.length ≤ 1000000000000) (q : List UInt8) : rList (rInt 59) (eList eInt l ++ q) = some (l, q) :=
  (rList_iff (ok := InR) (enc := eInt) (fun s a r => rInt59_iff s a r) _ _ _).2 ⟨by unfold InR; omega, h, rfl⟩
theorem read4 (t : List (List UInt8)) (h : texts t ≤ 1000) (hl : t.length ≤ 1000000000000) (q : List UInt8) : rList rText (eList eText t ++ q) = some (t, q) := by
  refine (rList_iff (ok := fun t => InR t.length) (enc := eText) (fun s a r => rText_iff s a r) _ _ _).2 ⟨by unfold InR; omega, fun a ha => ?_, rfl⟩
  have key : ∀ t : List (List UInt8), a ∈ t → a.length ≤ texts t := by
    intro t
    induction t with
    | nil => intro h; cases h
    | cons s t ih =>
      intro h
      rw [texts_cons]
      rcases List.mem_cons.1 h with rfl | h
      · omega
      · have := ih h; omega
  have := key t ha
  show InR (a.length : Int)
  unfold InR
  omega
/-- What equal does where the encoding of the value stands ahead. -/
def EqPost (b : Nat) (q : List UInt8) (w : World) (e : Ending) (w' : World) : Prop := e = .returned (.bool true) ∧ Rd w' b q false ∧ Only b w w'

set_option maxHeartbeats 1000000 in
set_option maxRecDepth 100000 in
theorem equal0_c (x : Val) (v3 v4 : Value) (hj : x.k % 5 = 0) (_hsz : x.size ≤ 400) (b : Nat) (q : List UInt8) (hlen : (x.enc ++ q).length < 4294967281) (_hb6 : 6 ≤ b) (w0 w : World) (hw0 : Below w0.heap.size w0 w) (_hb0' : w0.heap.size ≤ b) (hg : Good w) (hr : Rd w b (x.enc ++ q) false) (hx : ValAt w0 x v3 v4) :
    Calls Tryd.prog 43 #[.pointer (some ⟨b, 0, none⟩), x.agg v3 v4] w (EqPost b q w) := by
  have HJ := Lib.hid hj
  have hb0 : Below w.heap.size w (w.alloc (.cells #[.int .i64 x.k, .int .i64 x.n, .string ⟨x.s.toArray⟩, v3, v4] 25)) := (Below.refl _ _).alloc (Nat.le_refl _) _
  have hg0 := hg.on hb0
  have hr0 := hr.on hb0
  rw [enc0 x hj] at hr0 hlen
  obtain ⟨hk, hn, hs, hl, h3, h4⟩ := hx
  have hbw := hr.lt
  have HR := Lib.hid (read0 x.n hn q)
  clear hj hl hr
  unfold Val.agg
  go_enter Tryd.func43, Tryd.ntmps43
  go_wp2_with fail
  refine (kind_j x.k 0 hk HJ.out _ _ _ _ _).mono ?_
  rintro e w1 ⟨rfl, hb1⟩
  have hbx := box_there hb1
  have c1 : w1.cell? ⟨w.heap.size, 1, none⟩ = some (.int .i64 x.n) := by rw [Lib.cell_of_heap hbx]; rfl
  have c2 : w1.cell? ⟨w.heap.size, 2, none⟩ = some (.string ⟨x.s.toArray⟩) := by rw [Lib.cell_of_heap hbx]; rfl
  have c3 : w1.cell? ⟨w.heap.size, 3, none⟩ = some v3 := by rw [Lib.cell_of_heap hbx]; rfl
  have c4 : w1.cell? ⟨w.heap.size, 4, none⟩ = some v4 := by rw [Lib.cell_of_heap hbx]; rfl
  have hg1 := hg0.on hb1
  have hr1 := hr0.on hb1
  have hb2 := chain hb0 hb1
  have hw1 : w.heap.size < w1.heap.size := (Array.getElem?_eq_some_iff.1 hbx).1
  have hw1' : Below w0.heap.size w0 w1 := hw0.trans (hb2.mono hw0.size)
  clear hbx hb1 hb0 hg0 hg hr0
  go_wp2_with fail
  go_region_with (first
    | (go_at_call 24; refine (rNumM_ok b _ false _ q HR.out hlen _ hg1.drew hr1).mono ?_; rintro v w2 ⟨rfl, hr2, ho2⟩; have d1 := box_after ho2 hw1 hbw c1; have d2 := box_after ho2 hw1 hbw c2; have d3 := box_after ho2 hw1 hbw c3; have d4 := box_after ho2 hw1 hbw c4)
    | (go_at_call 57; refine (number_c x.n hn _).mono ?_; rintro v w9 ⟨rfl, rfl⟩))
  all_goals go_wp2_with fail
  all_goals go_ret
  all_goals exact ⟨ret_bool (by simp), hr2, ((Only.of hb2).trans (Only.drewN b w1 1)).trans ho2⟩

set_option maxHeartbeats 1000000 in
set_option maxRecDepth 100000 in
theorem equal1_c (x : Val) (v3 v4 : Value) (hj : x.k % 5 = 1) (_hsz : x.size ≤ 400) (b : Nat) (q : List UInt8) (hlen : (x.enc ++ q).length < 4294967281) (_hb6 : 6 ≤ b) (w0 w : World) (hw0 : Below w0.heap.size w0 w) (_hb0' : w0.heap.size ≤ b) (hg : Good w) (hr : Rd w b (x.enc ++ q) false) (hx : ValAt w0 x v3 v4) :
    Calls Tryd.prog 43 #[.pointer (some ⟨b, 0, none⟩), x.agg v3 v4] w (EqPost b q w) := by
  have HJ := Lib.hid hj
  have hb0 : Below w.heap.size w (w.alloc (.cells #[.int .i64 x.k, .int .i64 x.n, .string ⟨x.s.toArray⟩, v3, v4] 25)) := (Below.refl _ _).alloc (Nat.le_refl _) _
  have hg0 := hg.on hb0
  have hr0 := hr.on hb0
  rw [enc1 x hj] at hr0 hlen
  obtain ⟨hk, hn, hs, hl, h3, h4⟩ := hx
  have hbw := hr.lt
  have HR := Lib.hid (read1 x.n hn q)
  clear hj hl hr
  unfold Val.agg
  go_enter Tryd.func43, Tryd.ntmps43
  go_wp2_with fail
  refine (kind_j x.k 1 hk HJ.out _ _ _ _ _).mono ?_
  rintro e w1 ⟨rfl, hb1⟩
  have hbx := box_there hb1
  have c1 : w1.cell? ⟨w.heap.size, 1, none⟩ = some (.int .i64 x.n) := by rw [Lib.cell_of_heap hbx]; rfl
  have c2 : w1.cell? ⟨w.heap.size, 2, none⟩ = some (.string ⟨x.s.toArray⟩) := by rw [Lib.cell_of_heap hbx]; rfl
  have c3 : w1.cell? ⟨w.heap.size, 3, none⟩ = some v3 := by rw [Lib.cell_of_heap hbx]; rfl
  have c4 : w1.cell? ⟨w.heap.size, 4, none⟩ = some v4 := by rw [Lib.cell_of_heap hbx]; rfl
  have hg1 := hg0.on hb1
  have hr1 := hr0.on hb1
  have hb2 := chain hb0 hb1
  have hw1 : w.heap.size < w1.heap.size := (Array.getElem?_eq_some_iff.1 hbx).1
  have hw1' : Below w0.heap.size w0 w1 := hw0.trans (hb2.mono hw0.size)
  clear hbx hb1 hb0 hg0 hg hr0
  go_wp2_with fail
  go_region_with (first
    | (go_at_call 26; refine (rIntM_ok b _ false _ q HR.out hlen _ hg1.drew hr1).mono ?_; rintro v w2 ⟨rfl, hr2, ho2⟩; have d1 := box_after ho2 hw1 hbw c1; have d2 := box_after ho2 hw1 hbw c2; have d3 := box_after ho2 hw1 hbw c3; have d4 := box_after ho2 hw1 hbw c4))
  all_goals go_wp2_with fail
  all_goals go_ret
  all_goals exact ⟨ret_bool (by simp), hr2, ((Only.of hb2).trans (Only.drewN b w1 1)).trans ho2⟩

set_option maxHeartbeats 1000000 in
set_option maxRecDepth 100000 in
theorem equal2_c (x : Val) (v3 v4 : Value) (hj : x.k % 5 = 2) (_hsz : x.size ≤ 400) (b : Nat) (q : List UInt8) (hlen : (x.enc ++ q).length < 4294967281) (_hb6 : 6 ≤ b) (w0 w : World) (hw0 : Below w0.heap.size w0 w) (_hb0' : w0.heap.size ≤ b) (hg : Good w) (hr : Rd w b (x.enc ++ q) false) (hx : ValAt w0 x v3 v4) :
    Calls Tryd.prog 43 #[.pointer (some ⟨b, 0, none⟩), x.agg v3 v4] w (EqPost b q w) := by
  have HJ := Lib.hid hj
  have hb0 : Below w.heap.size w (w.alloc (.cells #[.int .i64 x.k, .int .i64 x.n, .string ⟨x.s.toArray⟩, v3, v4] 25)) := (Below.refl _ _).alloc (Nat.le_refl _) _
  have hg0 := hg.on hb0
  have hr0 := hr.on hb0
  rw [enc2 x hj] at hr0 hlen
  obtain ⟨hk, hn, hs, hl, h3, h4⟩ := hx
  have hbw := hr.lt
  have HR := Lib.hid (read2 x.s (small_text _hsz) q)
  clear hj hl hr
  unfold Val.agg
  go_enter Tryd.func43, Tryd.ntmps43
  go_wp2_with fail
  refine (kind_j x.k 2 hk HJ.out _ _ _ _ _).mono ?_
  rintro e w1 ⟨rfl, hb1⟩
  have hbx := box_there hb1
  have c1 : w1.cell? ⟨w.heap.size, 1, none⟩ = some (.int .i64 x.n) := by rw [Lib.cell_of_heap hbx]; rfl
  have c2 : w1.cell? ⟨w.heap.size, 2, none⟩ = some (.string ⟨x.s.toArray⟩) := by rw [Lib.cell_of_heap hbx]; rfl
  have c3 : w1.cell? ⟨w.heap.size, 3, none⟩ = some v3 := by rw [Lib.cell_of_heap hbx]; rfl
  have c4 : w1.cell? ⟨w.heap.size, 4, none⟩ = some v4 := by rw [Lib.cell_of_heap hbx]; rfl
  have hg1 := hg0.on hb1
  have hr1 := hr0.on hb1
  have hb2 := chain hb0 hb1
  have hw1 : w.heap.size < w1.heap.size := (Array.getElem?_eq_some_iff.1 hbx).1
  have hw1' : Below w0.heap.size w0 w1 := hw0.trans (hb2.mono hw0.size)
  clear hbx hb1 hb0 hg0 hg hr0
  go_wp2_with fail
  go_region_with (first
    | (go_at_call 28; refine (rTextM_ok b _ false _ q HR.out hlen _ hg1.drew hr1).mono ?_; rintro v w2 ⟨rfl, hr2, ho2⟩; have d1 := box_after ho2 hw1 hbw c1; have d2 := box_after ho2 hw1 hbw c2; have d3 := box_after ho2 hw1 hbw c3; have d4 := box_after ho2 hw1 hbw c4))
  all_goals go_wp2_with fail
  all_goals go_ret
  all_goals exact ⟨ret_bool (by simp), hr2, ((Only.of hb2).trans (Only.drewN b w1 1)).trans ho2⟩

set_option maxHeartbeats 1000000 in
set_option maxRecDepth 100000 in
theorem equal3_c (x : Val) (v3 v4 : Value) (hj : x.k % 5 = 3) (_hsz : x.size ≤ 400) (b : Nat) (q : List UInt8) (hlen : (x.enc ++ q).length < 4294967281) (_hb6 : 6 ≤ b) (w0 w : World) (hw0 : Below w0.heap.size w0 w) (hb0' : w0.heap.size ≤ b) (hg : Good w) (hr : Rd w b (x.enc ++ q) false) (hx : ValAt w0 x v3 v4) :
    Calls Tryd.prog 43 #[.pointer (some ⟨b, 0, none⟩), x.agg v3 v4] w (EqPost b q w) := by
  have HJ := Lib.hid hj
  have hb0 : Below w.heap.size w (w.alloc (.cells #[.int .i64 x.k, .int .i64 x.n, .string ⟨x.s.toArray⟩, v3, v4] 25)) := (Below.refl _ _).alloc (Nat.le_refl _) _
  have hg0 := hg.on hb0
  have hr0 := hr.on hb0
  rw [enc3 x hj] at hr0 hlen
  obtain ⟨hk, hn, hs, hl, h3, h4⟩ := hx
  have hbw := hr.lt
  have HL := Lib.hid hl
  have HR := Lib.hid (read3 x.l hl (by unfold Val.size at _hsz; omega) q)
  clear hj hl hr
  unfold Val.agg
  go_enter Tryd.func43, Tryd.ntmps43
  go_wp2_with fail
  refine (kind_j x.k 3 hk HJ.out _ _ _ _ _).mono ?_
  rintro e w1 ⟨rfl, hb1⟩
  have hbx := box_there hb1
  have c1 : w1.cell? ⟨w.heap.size, 1, none⟩ = some (.int .i64 x.n) := by rw [Lib.cell_of_heap hbx]; rfl
  have c2 : w1.cell? ⟨w.heap.size, 2, none⟩ = some (.string ⟨x.s.toArray⟩) := by rw [Lib.cell_of_heap hbx]; rfl
  have c3 : w1.cell? ⟨w.heap.size, 3, none⟩ = some v3 := by rw [Lib.cell_of_heap hbx]; rfl
  have c4 : w1.cell? ⟨w.heap.size, 4, none⟩ = some v4 := by rw [Lib.cell_of_heap hbx]; rfl
  have hg1 := hg0.on hb1
  have hr1 := hr0.on hb1
  have hb2 := chain hb0 hb1
  have hw1 : w.heap.size < w1.heap.size := (Array.getElem?_eq_some_iff.1 hbx).1
  have hw1' : Below w0.heap.size w0 w1 := hw0.trans (hb2.mono hw0.size)
  clear hbx hb1 hb0 hg0 hg hr0
  go_wp2_with fail
  go_region_with (first
    | (go_at_call 31; refine (rNumsM_c b _ false (fun h => by cases h) hlen _ hg1.drew _hb6 hr1).mono ?_; rintro v w2 ⟨ho2, hp⟩; obtain ⟨vv, rfl, hrow, hr2⟩ := list_read HR.out hp; have d1 := box_after ho2 hw1 hbw c1; have d2 := box_after ho2 hw1 hbw c2; have d3 := box_after ho2 hw1 hbw c3; have d4 := box_after ho2 hw1 hbw c4; have hrow2 := h3.on (hw1'.drew.trans (ho2.below hb0' hw1'.size)) (Nat.le_refl _))
    | (go_at_call 30; refine (sameNums_c x.l vv v3 _ hrow hrow2).mono ?_; rintro v w3 ⟨rfl, hb3⟩; have hr3 := hr2.on hb3))
  all_goals go_wp2_with fail
  all_goals go_ret
  all_goals exact ⟨rfl, hr3, (((Only.of hb2).trans (Only.drewN b w1 1)).trans ho2).trans (Only.of hb3)⟩

set_option maxHeartbeats 1000000 in
set_option maxRecDepth 100000 in
theorem equal4_c (x : Val) (v3 v4 : Value) (hj : x.k % 5 = 4) (_hsz : x.size ≤ 400) (b : Nat) (q : List UInt8) (hlen : (x.enc ++ q).length < 4294967281) (_hb6 : 6 ≤ b) (w0 w : World) (hw0 : Below w0.heap.size w0 w) (hb0' : w0.heap.size ≤ b) (hg : Good w) (hr : Rd w b (x.enc ++ q) false) (hx : ValAt w0 x v3 v4) :
    Calls Tryd.prog 43 #[.pointer (some ⟨b, 0, none⟩), x.agg v3 v4] w (EqPost b q w) := by
  have HJ := Lib.hid hj
  have hb0 : Below w.heap.size w (w.alloc (.cells #[.int .i64 x.k, .int .i64 x.n, .string ⟨x.s.toArray⟩, v3, v4] 25)) := (Below.refl _ _).alloc (Nat.le_refl _) _
  have hg0 := hg.on hb0
  have hr0 := hr.on hb0
  rw [enc4 x hj] at hr0 hlen
  obtain ⟨hk, hn, hs, hl, h3, h4⟩ := hx
  have hbw := hr.lt
  have HR := Lib.hid (read4 x.t (by unfold Val.size at _hsz; omega) (by unfold Val.size at _hsz; omega) q)
  clear hj hl hr
  unfold Val.agg
  go_enter Tryd.func43, Tryd.ntmps43
  go_wp2_with fail
  refine (kind_j x.k 4 hk HJ.out _ _ _ _ _).mono ?_
  rintro e w1 ⟨rfl, hb1⟩
  have hbx := box_there hb1
  have c1 : w1.cell? ⟨w.heap.size, 1, none⟩ = some (.int .i64 x.n) := by rw [Lib.cell_of_heap hbx]; rfl
  have c2 : w1.cell? ⟨w.heap.size, 2, none⟩ = some (.string ⟨x.s.toArray⟩) := by rw [Lib.cell_of_heap hbx]; rfl
  have c3 : w1.cell? ⟨w.heap.size, 3, none⟩ = some v3 := by rw [Lib.cell_of_heap hbx]; rfl
  have c4 : w1.cell? ⟨w.heap.size, 4, none⟩ = some v4 := by rw [Lib.cell_of_heap hbx]; rfl
  have hg1 := hg0.on hb1
  have hr1 := hr0.on hb1
  have hb2 := chain hb0 hb1
  have hw1 : w.heap.size < w1.heap.size := (Array.getElem?_eq_some_iff.1 hbx).1
  have hw1' : Below w0.heap.size w0 w1 := hw0.trans (hb2.mono hw0.size)
  clear hbx hb1 hb0 hg0 hg hr0
  go_wp2_with fail
  go_region_with (first
    | (go_at_call 34; refine (rTextsM_c b _ false (fun h => by cases h) hlen _ hg1.drew _hb6 hr1).mono ?_; rintro v w2 ⟨ho2, hp⟩; obtain ⟨vv, rfl, hrow, hr2⟩ := list_read HR.out hp; have d1 := box_after ho2 hw1 hbw c1; have d2 := box_after ho2 hw1 hbw c2; have d3 := box_after ho2 hw1 hbw c3; have d4 := box_after ho2 hw1 hbw c4; have hrow2 := h4.on (hw1'.drew.trans (ho2.below hb0' hw1'.size)) (Nat.le_refl _))
    | (go_at_call 33; refine (sameTexts_c x.t vv v4 _ hrow hrow2).mono ?_; rintro v w3 ⟨rfl, hb3⟩; have hr3 := hr2.on hb3))
  all_goals go_wp2_with fail
  all_goals go_ret
  all_goals exact ⟨rfl, hr3, (((Only.of hb2).trans (Only.drewN b w1 1)).trans ho2).trans (Only.of hb3)⟩

theorem equal_c (x : Val) (v3 v4 : Value) (hsz : x.size ≤ 400) (b : Nat) (q : List UInt8) (hlen : (x.enc ++ q).length < 4294967281) (hb6 : 6 ≤ b) (w0 w : World) (hw0 : Below w0.heap.size w0 w) (hb0' : w0.heap.size ≤ b) (hg : Good w) (hr : Rd w b (x.enc ++ q) false) (hx : ValAt w0 x v3 v4) :
    Calls Tryd.prog 43 #[.pointer (some ⟨b, 0, none⟩), x.agg v3 v4] w (EqPost b q w) := by
  rcases kinds5 x.k with h | h | h | h | h
  · exact equal0_c x v3 v4 h hsz b q hlen hb6 w0 w hw0 hb0' hg hr hx
  · exact equal1_c x v3 v4 h hsz b q hlen hb6 w0 w hw0 hb0' hg hr hx
  · exact equal2_c x v3 v4 h hsz b q hlen hb6 w0 w hw0 hb0' hg hr hx
  · exact equal3_c x v3 v4 h hsz b q hlen hb6 w0 w hw0 hb0' hg hr hx
  · exact equal4_c x v3 v4 h hsz b q hlen hb6 w0 w hw0 hb0' hg hr hx
end Go.Proofs.YtlfpelmblpdbjaaDoor
