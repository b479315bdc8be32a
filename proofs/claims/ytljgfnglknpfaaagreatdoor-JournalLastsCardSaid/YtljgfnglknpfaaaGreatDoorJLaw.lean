/-
  The laws' helpers: the comparison of two lists of strings, texts, few, disky; a journal on a machine that nothing is scheduled for; the examples of the chapter hold.
-/
import Derived.Test.YtljgfnglknpfaaaGreatDoorJOp
namespace Go.Proofs.YtljgfnglknpfaaaGreatDoor
set_option maxRecDepth 100000
open Go Go.RowKit Go.Sort Dk

theorem below_drewN6 {w w1 : World} {B : Nat} (h : RowKit.Below B w w1) (n : Nat) : RowKit.Below B w (w1.drewN n) := ⟨h.os, h.tape, h.output, h.size, h.block⟩
theorem take_eq_next {α : Type} (a b : List α) (k : Nat) (x : α) (ha : a[k]? = some x) (hb : b[k]? = some x) (h : a.take k = b.take k) : a.take (k + 1) = b.take (k + 1) := by
  rw [List.take_add_one, List.take_add_one, ha, hb, h]
set_option maxHeartbeats 1000000 in
theorem sameT_c (a b : List (List UInt8)) (va vb : Value) (w : World) (ha : SrcV w 1 va a.length (strsV a)) (hb : SrcV w 1 vb b.length (strsV b)) (hbl : b.length ≤ 9223372036854775807) :
    Calls Tryz.prog 15 #[va, vb] w fun e w' => e = .returned (.bool (decide (a = b))) ∧ RowKit.Below w.heap.size w w' := by
  have ha0 := ha
  have hb0 := hb
  obtain ⟨A, ca, rfl, _⟩ := ha0
  obtain ⟨B, cb, rfl, _⟩ := hb0
  have HA := Lib.hid ha
  have HB := Lib.hid hb
  clear ha hb
  by_cases hlen : a.length = b.length
  · have q0 : ((a.length : Int) == (b.length : Int)) = true := by rw [hlen]; simp
    have HL := Lib.hid hlen
    clear hlen
    go_enter Tryz.func15, Tryz.ntmps15
    go_wp2_with fail
    go_loopw [5] (fun i wr => ∃ k : Nat, k ≤ a.length ∧ i = .int .i64 k ∧ Hid (a.take k = b.take k) ∧ RowKit.Below w.heap.size w wr) (fun i _ => a.length - (intOf i).toNat)
    case atStart => exact ⟨0, Nat.zero_le _, rfl, Lib.hid rfl, Below.refl _ _⟩
    case round =>
      obtain ⟨k, hk, rfl, HT, hbk⟩ := hrel
      by_cases hlt : k < a.length
      · obtain ⟨x, hx⟩ : ∃ x, a[k]? = some x := ⟨a[k], List.getElem?_eq_getElem hlt⟩
        obtain ⟨y, hy⟩ : ∃ y, b[k]? = some y := ⟨b[k]'(by rw [← HL.out]; exact hlt), List.getElem?_eq_getElem (by rw [← HL.out]; exact hlt)⟩
        obtain ⟨b1, o1, rfl, c1⟩ := SrcV.str HA.out hx
        obtain ⟨b2, o2, rfl, c2⟩ := SrcV.str HB.out hy
        have k1 : wr.cell? ⟨b1, o1 + k, none⟩ = some (.string ⟨x.toArray⟩) := by rw [hbk.cell (lt_of_cell c1)]; exact c1
        have k2 : wr.cell? ⟨b2, o2 + k, none⟩ = some (.string ⟨y.toArray⟩) := by rw [hbk.cell (lt_of_cell c2)]; exact c2
        have hkb : (k : Int) < (b.length : Int) := by have := HL.out; omega
        have hka : (k : Int) < (a.length : Int) := by omega
        have hk0 : (0 : Int) ≤ k := by omega
        have HX := Lib.hid hx
        have HY := Lib.hid hy
        clear hx hy c1 c2
        by_cases hxy : x = y
        · subst hxy
          have HN := Lib.hid (take_eq_next a b k x HX.out HY.out HT.out)
          go_wp2_with fail
          go_quiet (fail)
          go_wp2_with fail
          go_roundw
          case rel => exact ⟨k + 1, by omega, by go_num, HN, below_drewN6 hbk _⟩
          case measure => simp [intOf]; omega
        · have hq : (x == y) = false := by simpa using hxy
          have HD := Lib.hid (show decide (a = b) = false by
            rw [decide_eq_false_iff_not]
            intro he
            have h1 := HX.out
            rw [he, HY.out] at h1
            injection h1 with h1
            exact hxy h1.symm)
          clear hxy
          go_wp2_with fail
          go_quiet (fail)
          go_wp2_with fail
          go_ret
          exact ⟨ret_bool HD.out.symm, below_drewN6 hbk _⟩
      · have HD := Lib.hid (show decide (a = b) = true by
          rw [decide_eq_true_eq]
          have h := HT.out
          rw [List.take_of_length_le (by omega), List.take_of_length_le (by have := HL.out; omega)] at h
          exact h)
        go_wp2_with fail
        go_ret
        exact ⟨ret_bool HD.out.symm, hbk⟩
  · have q0 : ((a.length : Int) == (b.length : Int)) = false := by simp; omega
    have HD := Lib.hid (show decide (a = b) = false by rw [decide_eq_false_iff_not]; rintro rfl; exact hlen rfl)
    clear hlen
    go_enter Tryz.func15, Tryz.ntmps15
    go_wp2_with fail
    go_ret
    exact ⟨ret_bool HD.out.symm, Below.refl _ _⟩

theorem sameT_true (a : List (List UInt8)) (va vb : Value) (w : World) (ha : SrcV w 1 va a.length (strsV a)) (hb : SrcV w 1 vb a.length (strsV a)) (hbl : a.length ≤ 9223372036854775807) :
    Calls Tryz.prog 15 #[va, vb] w fun e w' => e = .returned (.bool true) ∧ RowKit.Below w.heap.size w w' := by
  refine (sameT_c a a va vb w ha hb hbl).mono ?_
  rintro e w' ⟨rfl, h⟩
  rw [decide_eq_true (rfl : a = a)]
  exact ⟨rfl, h⟩
def textsM (s : List (List UInt8)) : Bool := s.all (fun x => decide (x.length ≤ 200)) && decide (s.length ≤ 8)
theorem textsM_out {s : List (List UInt8)} (h : textsM s = true) : s.length ≤ 8 ∧ ∀ x ∈ s, x.length ≤ 200 := by
  unfold textsM at h
  rw [Bool.and_eq_true, List.all_eq_true, decide_eq_true_eq] at h
  exact ⟨h.2, fun x hx => by simpa using h.1 x hx⟩
set_option maxHeartbeats 1000000 in
theorem texts_c (v : Value) (s : List (List UInt8)) (w : World) (h : SrcV w 1 v s.length (strsV s)) (hl : s.length ≤ 9223372036854775807) : Calls Tryz.prog 20 #[v] w fun e w' => e = .returned (.bool (textsM s)) ∧ w' = w := by
  have h0 := h
  obtain ⟨a, c, rfl, _⟩ := h0
  have HC := Lib.hid h
  clear h
  obtain ⟨L, hL⟩ : ∃ L, L = s.length := ⟨_, rfl⟩
  rw [← hL] at hl ⊢
  have HL := Lib.hid hL
  clear hL
  go_enter Tryz.func20, Tryz.ntmps20
  go_wp2_with fail
  go_loopw [3] (fun v3 wr => ∃ k : Nat, k ≤ L ∧ v3 = .int .i64 (k : Int) ∧ (∀ x ∈ s.take k, x.length ≤ 200) ∧ wr = w) (fun v3 _ => L - (intOf v3).toNat)
  case atStart => exact ⟨0, Nat.zero_le _, rfl, by simp, rfl⟩
  case round =>
    obtain ⟨k, hk, rfl, hf, hw⟩ := hrel
    rw [hw]
    clear hw
    have HF := Lib.hid hf
    clear hf
    by_cases hkl : k < L
    · have hkl' : (k : Int) < (L : Int) := by omega
      obtain ⟨x, hx⟩ : ∃ x, s[k]? = some x := ⟨s[k]'(by have := HL.out; omega), List.getElem?_eq_getElem _⟩
      obtain ⟨b, off, rfl, c0⟩ := SrcV.str HC.out hx
      have HX := Lib.hid hx
      clear hx
      by_cases h1 : 200 < x.length
      · have h1' : (200 : Int) < (x.length : Int) := by omega
        have HN := Lib.hid h1
        clear h1
        go_wp2_with fail
        go_ret
        refine ⟨?_, rfl⟩
        have : s.all (fun x => decide (x.length ≤ 200)) = false := by
          rw [List.all_eq_false]
          exact ⟨x, List.mem_of_getElem? HX.out, by have := HN.out; simp; omega⟩
        unfold textsM
        rw [this]
        rfl
      · have h1' : ¬ (200 : Int) < (x.length : Int) := by omega
        have HN := Lib.hid h1
        clear h1
        go_wp2_with fail
        go_roundw
        case rel =>
          refine ⟨k + 1, hkl, by go_num, fun y hy => ?_, (by first | rfl | trivial)⟩
          rw [List.take_add_one, HX.out] at hy
          rcases List.mem_append.1 hy with hy | hy
          · exact HF.out y hy
          · simp at hy; rw [hy]; have := HN.out; omega
        case measure => simp [intOf]; omega
    · have hkl' : ¬ (k : Int) < (L : Int) := by omega
      have htk : s.take k = s := List.take_of_length_le (by have := HL.out; omega)
      have hall : s.all (fun x => decide (x.length ≤ 200)) = true := List.all_eq_true.2 (fun x hx => by simpa using HF.out x (by rw [htk]; exact hx))
      have hfm : textsM s = decide ((L : Int) ≤ 8) := by
        unfold textsM
        rw [hall, Bool.true_and, ← HL.out]
        simp
        omega
      have HFM := Lib.hid hfm
      clear htk hall hfm
      go_wp2_with fail
      go_ret
      rw [HFM.out]
      exact ⟨rfl, rfl⟩

def fine6 (x : Op6) : Bool := textsM x.l && decide (x.keep.length ≤ 50)
def few6 (l : List Op6) : Bool := l.all fine6 && decide (l.length ≤ 25)
theorem few6_out {l : List Op6} (h : few6 l = true) : l.length ≤ 25 ∧ ∀ x ∈ l, textsM x.l = true ∧ x.keep.length ≤ 50 := by
  unfold few6 at h
  rw [Bool.and_eq_true, List.all_eq_true, decide_eq_true_eq] at h
  refine ⟨h.2, fun x hx => ?_⟩
  have := h.1 x hx
  unfold fine6 at this
  rw [Bool.and_eq_true, decide_eq_true_eq] at this
  exact this
set_option maxHeartbeats 1000000 in
theorem few6_c (v : Value) (l : List Op6) (w : World) (h : OpsIn6 w v l) : Calls Tryz.prog 7 #[v] w fun e w' => e = .returned (.bool (few6 l)) ∧ w' = w := by
  obtain ⟨hlen, a, c, rfl, hcell⟩ := h
  obtain ⟨L, hL⟩ : ∃ L, L = l.length := ⟨_, rfl⟩
  rw [← hL] at hlen ⊢
  have HL := Lib.hid hL
  have HC := Lib.hid hcell
  clear hcell hL
  go_enter Tryz.func7, Tryz.ntmps7
  go_wp2_with fail
  go_loopw [3] (fun v3 wr => ∃ k : Nat, k ≤ L ∧ v3 = .int .i64 (k : Int) ∧ (∀ x ∈ l.take k, fine6 x = true) ∧ wr = w) (fun v3 _ => L - (intOf v3).toNat)
  case atStart => exact ⟨0, Nat.zero_le _, rfl, by simp, rfl⟩
  case round =>
    obtain ⟨k, hk, rfl, hf, hw⟩ := hrel
    rw [hw]
    clear hw
    have HF := Lib.hid hf
    clear hf
    by_cases hkl : k < L
    · have hkl' : (k : Int) < (L : Int) := by omega
      obtain ⟨x, hx⟩ : ∃ x, l[k]? = some x := ⟨l[k]'(by have := HL.out; omega), List.getElem?_eq_getElem _⟩
      obtain ⟨b, off, lv, kv, rfl, hrow⟩ := HC.out k x hx
      have c1 := hrow.c1
      have c3 := hrow.c3
      have q := texts_c lv x.l w hrow.ls hrow.fit.l
      obtain ⟨la, lc, rfl, _⟩ := hrow.ls
      obtain ⟨ka, kc, rfl, _⟩ := hrow.ks
      have hkl2 : x.keep.length ≤ 9223372036854775807 := hrow.fit.keepLen
      have Q := Lib.hid q
      have HX := Lib.hid hx
      clear hx hrow q
      have hfail : fine6 x = false → few6 l = false := fun hfx => by
        have : l.all fine6 = false := by
          rw [List.all_eq_false]
          exact ⟨x, List.mem_of_getElem? HX.out, by simp [hfx]⟩
        unfold few6
        rw [this]
        rfl
      have HFA := Lib.hid hfail
      clear hfail
      cases h1 : textsM x.l with
      | false =>
        have hfx : fine6 x = false := by simp [fine6, h1]
        rw [h1] at Q
        have HFX := Lib.hid (HFA.out hfx)
        clear h1 hfx
        go_wp2_with (go_at_call 20; refine Q.out.mono ?_; rintro e w1 ⟨rfl, hw1⟩; rw [hw1]; clear hw1)
        go_ret
        exact ⟨ret_bool HFX.out.symm, rfl⟩
      | true =>
        rw [h1] at Q
        by_cases h2 : 50 < x.keep.length
        · have hfx : fine6 x = false := by simp [fine6, h2]
          have h2' : (50 : Int) < (x.keep.length : Int) := by omega
          have HFX := Lib.hid (HFA.out hfx)
          clear h1 hfx
          go_wp2_with (go_at_call 20; refine Q.out.mono ?_; rintro e w1 ⟨rfl, hw1⟩; rw [hw1]; clear hw1)
          go_ret
          exact ⟨ret_bool HFX.out.symm, rfl⟩
        · have h2' : ¬ (50 : Int) < (x.keep.length : Int) := by omega
          have hfx : fine6 x = true := by simp [fine6, h1]; omega
          have HFX := Lib.hid hfx
          clear hfx h1
          go_wp2_with (go_at_call 20; refine Q.out.mono ?_; rintro e w1 ⟨rfl, hw1⟩; rw [hw1]; clear hw1)
          go_roundw
          case rel =>
            refine ⟨k + 1, hkl, by go_num, fun y hy => ?_, (by first | rfl | trivial)⟩
            rw [List.take_add_one, HX.out] at hy
            rcases List.mem_append.1 hy with hy | hy
            · exact HF.out y hy
            · simp at hy; rw [hy]; exact HFX.out
          case measure => simp [intOf]; omega
    · have hkl' : ¬ (k : Int) < (L : Int) := by omega
      have htk : l.take k = l := List.take_of_length_le (by have := HL.out; omega)
      have hall : l.all fine6 = true := List.all_eq_true.2 (fun x hx => HF.out x (by rw [htk]; exact hx))
      have hfm : few6 l = decide ((L : Int) ≤ 25) := by
        unfold few6
        rw [hall, Bool.true_and, ← HL.out]
        simp
        omega
      have HFM := Lib.hid hfm
      clear htk hall hfm
      go_wp2_with fail
      go_ret
      rw [HFM.out]
      exact ⟨rfl, rfl⟩

theorem disky_c (z : Int) (w : World) : Calls Tryz.prog 14 #[.int .i64 z] w fun e w' => e = .returned (.bool (decide (z = 9 ∨ z = 10))) ∧ w' = w := by
  by_cases h9 : z = 9
  · subst h9
    go_enter Tryz.func14, Tryz.ntmps14
    go_wp2_with fail
    go_ret
    exact ⟨rfl, rfl⟩
  · have b9 : (z == 9) = false := by simpa using h9
    have hd : decide (z = 9 ∨ z = 10) = (z == 10) := by
      have : (z = 9 ∨ z = 10) ↔ z = 10 := by simp [h9]
      rw [decide_eq_decide.2 this]
      rfl
    rw [hd]
    clear hd h9
    go_enter Tryz.func14, Tryz.ntmps14
    go_wp2_with fail
    go_ret
    exact ⟨rfl, rfl⟩

/-! ### A journal on a machine that nothing is scheduled for -/
structure PJ (X : D) (f : Nat) (j : Jn.J) (l : List (List UInt8)) : Prop where
  plain : Jn.Plain X
  st : Jn.JSt X f j (fun m => m = l)
  list : j.l = l
  bad : j.bad = false
theorem PJ.len {X : D} {f : Nat} {j : Jn.J} {l : List (List UInt8)} (h : PJ X f j l) (hf : f < 15) : (Jn.form l).length ≤ 1048576 := by
  have := (h.st.held hf h.bad).2.2
  rw [h.list] at this
  exact this
theorem PJ.append {X : D} {f : Nat} {j : Jn.J} {l : List (List UInt8)} (h : PJ X f j l) (hf : f < 15) {s : List (List UInt8)} (hl : (Jn.form (l ++ s)).length ≤ 1048576) : ∃ X' j', Jn.appendJ X f j s = (X', j', 0) ∧ PJ X' f j' (l ++ s) := by
  have hp := h.plain.append hf (s := s) h.bad (by rw [h.list]; exact hl)
  have hd := Jn.append_done (s := s) h.st hf
  obtain ⟨r, hr⟩ : ∃ r, Jn.appendJ X f j s = r := ⟨_, rfl⟩
  rw [hr] at hp hd ⊢
  obtain ⟨X', j', z⟩ := r
  obtain rfl : z = 0 := hp.1
  obtain ⟨g1, g2, g3⟩ := hd.good rfl
  rw [h.list] at g1 g2
  exact ⟨X', j', rfl, hp.2, g1, g2, g3⟩
theorem PJ.cut {X : D} {f : Nat} {j : Jn.J} {l : List (List UInt8)} (h : PJ X f j l) (hf : f < 15) {n : Int} (hn : 0 ≤ n ∧ n ≤ l.length) : ∃ X' j', Jn.cutJ X f j n = (X', j', 0) ∧ PJ X' f j' (l.take n.toNat) := by
  have hp := h.plain.cut hf (n := n) h.bad (by rw [h.list]; exact h.len hf)
  have hd := Jn.cut_done (n := n) h.st hf
  obtain ⟨r, hr⟩ : ∃ r, Jn.cutJ X f j n = r := ⟨_, rfl⟩
  rw [hr] at hp hd ⊢
  obtain ⟨X', j', z⟩ := r
  obtain rfl : z = 0 := hp.1.2 (by rw [h.list]; exact hn)
  obtain ⟨_, g1, g2, g3⟩ := hd.good rfl
  rw [h.list] at g1 g2
  exact ⟨X', j', rfl, hp.2, g1, g2, g3⟩
theorem PJ.new {f : Nat} (hf : f < 15) : ∃ X j, Jn.openJ D.new f = (X, some j, 0) ∧ PJ X f j [] := by
  obtain ⟨e, j, h1, h2, h3, h4, h5⟩ := Jn.open_plain Jn.Two.new hf Jn.plain_new
  exact ⟨e, j, h1, h2, by rw [h3] at h5; exact h5, h3, h4⟩
theorem form_small {l : List (List UInt8)} (h : ∀ x ∈ l, x.length ≤ 200) : (Jn.form l).length ≤ 222 * l.length := by
  induction l with
  | nil => simp [Jn.form]
  | cons x l ih =>
    have h1 := eText_le x (by have := h x (by simp); omega)
    have h2 := h x (by simp)
    have h3 := ih (fun y hy => h y (by simp [hy]))
    have e : (Jn.form (x :: l)).length = (Wire.eText x).length + (Jn.form l).length := by unfold Jn.form; rw [List.flatMap_cons, List.length_append]
    rw [e, List.length_cons]
    omega

/-- The journal, and its list. -/
def PL (w0 w : World) (d b f : Nat) (l : List (List UInt8)) (F : Nat → Prop) : Prop := ∃ X j, JF w0 w d b f X j F ∧ PJ X f j l
theorem PL.below {w0 w w' : World} {d b f : Nat} {l : List (List UInt8)} {F G : Nat → Prop} (h : PL w0 w d b f l F) (hb : RowKit.Below w.heap.size w w') (hG : ∀ k, G k → F k ∨ (w.heap.size ≤ k ∧ k < w'.heap.size)) : PL w0 w' d b f l G := by
  obtain ⟨X, j, h1, h2⟩ := h
  exact ⟨X, j, h1.below hb hG, h2⟩
theorem PL.fewer {w0 w : World} {d b f : Nat} {l : List (List UInt8)} {F G : Nat → Prop} (h : PL w0 w d b f l F) (hG : ∀ k, G k → F k) : PL w0 w d b f l G := by
  obtain ⟨X, j, h1, h2⟩ := h
  exact ⟨X, j, h1.fewer hG, h2⟩
theorem PL.base {w0 w : World} {d b f : Nat} {l : List (List UInt8)} {F : Nat → Prop} (h : PL w0 w d b f l F) : RowKit.Below w0.heap.size w0 w := by
  obtain ⟨X, j, h1, _⟩ := h
  exact h1.base
theorem pl_append {w0 w : World} {d b f : Nat} {l : List (List UInt8)} {F : Nat → Prop} (ht : Tab w0) (hg : Good w0) (h : PL w0 w d b f l F) (hf : f < 15) (v : Value) (s : List (List UInt8)) (ha : ArgIn w0 w F v s) (hx : ∀ x ∈ s, x.length ≤ 1000000000) (hs : s.length ≤ 9223372036854775807) (hl : (Jn.form (l ++ s)).length ≤ 1048576) :
    Calls Tryz.prog 12 #[.pointer (some ⟨b, 0, none⟩), v] w fun e w' => e = .returned (.int .i64 0) ∧ Hid (PL w0 w' d b f (l ++ s) F ∧ Held F w w') := by
  obtain ⟨X, j, h1, h2⟩ := h
  obtain ⟨X', j', e1, e2⟩ := h2.append hf hl
  have q := jappend_c ht hg h1 (by omega) (fun _ => by rw [h2.list]; exact h2.len hf) v s ha hx hs
  rw [e1] at q
  refine q.mono ?_
  rintro e w' ⟨rfl, g⟩
  exact ⟨rfl, ⟨X', j', g.out.1, e2⟩, g.out.2⟩
theorem pl_cut {w0 w : World} {d b f : Nat} {l : List (List UInt8)} {F : Nat → Prop} (ht : Tab w0) (hg : Good w0) (h : PL w0 w d b f l F) (hf : f < 15) (n : Int) (hn : 0 ≤ n ∧ n ≤ l.length) :
    Calls Tryz.prog 13 #[.pointer (some ⟨b, 0, none⟩), .int .i64 n] w fun e w' => e = .returned (.int .i64 0) ∧ Hid (PL w0 w' d b f (l.take n.toNat) F ∧ Held F w w') := by
  obtain ⟨X, j, h1, h2⟩ := h
  obtain ⟨X', j', e1, e2⟩ := h2.cut hf hn
  have q := jcut_c ht hg h1 (by omega) (fun _ => by rw [h2.list]; exact h2.len hf) n
  rw [e1] at q
  refine q.mono ?_
  rintro e w' ⟨rfl, g⟩
  exact ⟨rfl, ⟨X', j', g.out.1, e2⟩, g.out.2⟩
/-- Strings of the law's own. -/
theorem arg_lit {w0 w : World} {F : Nat → Prop} (s : List (List UInt8)) (hF : F w.heap.size) : ArgIn w0 (w.alloc (.cells (strsV s).toArray 9)) F (.slice (some ⟨w.heap.size, 0, none⟩) s.length s.length) s := by
  refine ⟨⟨_, _, rfl, by simp [strsV], (fun e => by cases e), fun ad e j u hu => ?_⟩, fun _ a n c hv => ?_⟩
  · injection e with e
    subst e
    rw [Lib.add_plain, Nat.zero_add, Lib.cell_of_heap (heap_alloc_new w _)]
    simpa using hu
  · injection hv with e1
    injection e1 with e1
    subst e1
    exact Or.inr hF
theorem src_lit {w : World} (s : List (List UInt8)) : SrcV (w.alloc (.cells (strsV s).toArray 9)) 1 (.slice (some ⟨w.heap.size, 0, none⟩) s.length s.length) s.length (strsV s) := (arg_lit (w0 := w) (F := fun _ => True) s trivial).src
theorem pl_append_lit {w0 w : World} {d b f : Nat} {l : List (List UInt8)} {F : Nat → Prop} (ht : Tab w0) (hg : Good w0) (h : PL w0 w d b f l F) (hf : f < 15) (s : List (List UInt8)) (hx : ∀ x ∈ s, x.length ≤ 1000000000) (hs : s.length ≤ 9223372036854775807) (hl : (Jn.form (l ++ s)).length ≤ 1048576) :
    Calls Tryz.prog 12 #[.pointer (some ⟨b, 0, none⟩), .slice (some ⟨w.heap.size, 0, none⟩) s.length s.length] (w.alloc (.cells (strsV s).toArray 9)) fun e w' => e = .returned (.int .i64 0) ∧ Hid (PL w0 w' d b f (l ++ s) F ∧ Held F w w') := by
  have hb : RowKit.Below w.heap.size w (w.alloc (.cells (strsV s).toArray 9)) := (Below.refl _ w).alloc (Nat.le_refl _) _
  have h' := h.below (G := fun k => F k ∨ k = w.heap.size) hb (fun k e => e.imp id (fun e => ⟨Nat.le_of_eq e.symm, by subst e; simp⟩))
  refine (pl_append ht hg h' hf _ s (arg_lit s (Or.inr rfl)) hx hs hl).mono ?_
  rintro e w' ⟨rfl, g⟩
  exact ⟨rfl, g.out.1.fewer (fun _ e => Or.inl e), (Held.below hb).trans (Held.fewer g.out.2 (fun _ e => Or.inl e))⟩
theorem pl_all {w0 w : World} {d b f : Nat} {l : List (List UInt8)} {F : Nat → Prop} (h : PL w0 w d b f l F) (hf : f < 15) :
    Calls Tryz.prog 16 #[.pointer (some ⟨b, 0, none⟩)] w fun e w' => ∃ a c, e = .returned (.slice a l.length c) ∧ Hid (w'.ownsRow w.heap.size 9 1 (.slice a l.length c) l.length (strsV l) ∧ RowKit.Below w.heap.size w w') := by
  obtain ⟨X, j, h1, h2⟩ := h
  have hl := (Jn.form_len l).1
  have hl2 := h2.len hf
  refine (jall_c h1 (by rw [h2.list]; omega)).mono ?_
  rintro e w' ⟨v, rfl, hown, hb⟩
  rw [h2.list] at hown
  obtain ⟨a, c, rfl, _⟩ := own_shape (own_base hown)
  exact ⟨a, c, rfl, hown, hb⟩
theorem pl_len {w0 w : World} {d b f : Nat} {l : List (List UInt8)} {F : Nat → Prop} (h : PL w0 w d b f l F) :
    Calls Tryz.prog 17 #[.pointer (some ⟨b, 0, none⟩)] w fun e w' => e = .returned (.int .i64 (l.length : Int)) ∧ w' = w := by
  obtain ⟨X, j, h1, h2⟩ := h
  rw [← h2.list]
  exact jlen_c h1
theorem pl_get {w0 w : World} {d b f : Nat} {l : List (List UInt8)} {F : Nat → Prop} (h : PL w0 w d b f l F) (k : Nat) (x : List UInt8) (hx : l[k]? = some x) :
    Calls Tryz.prog 21 #[.pointer (some ⟨b, 0, none⟩), .int .i64 (k : Int)] w fun e w' => e = .returned (.string ⟨x.toArray⟩) ∧ w' = w := by
  obtain ⟨X, j, h1, h2⟩ := h
  exact jget_in h1 k x (by rw [h2.list]; exact hx)
theorem pl_getout {w0 w : World} {d b f : Nat} {l : List (List UInt8)} {F : Nat → Prop} (h : PL w0 w d b f l F) (i : Int) (hi : i < 0 ∨ (l.length : Int) ≤ i) :
    Calls Tryz.prog 21 #[.pointer (some ⟨b, 0, none⟩), .int .i64 i] w fun e w' => e = .returned (.string ⟨#[]⟩) ∧ w' = w := by
  obtain ⟨X, j, h1, h2⟩ := h
  exact jget_out h1 i (by rw [h2.list]; exact hi)
theorem pl_open {w0 w : World} {d f : Nat} {F : Nat → Prop} (ht : Tab w0) (hg : Good w0) (h : DF w0 w d D.new F) (hf : f < 15) :
    Calls Tryz.prog 9 #[.pointer (some ⟨d, 0, none⟩), .int .i64 (f : Int)] w fun e w' => ∃ b, e = .returned (.tuple #[.pointer (some ⟨b, 0, none⟩), .int .i64 0]) ∧ Hid (PL w0 w' d b f [] F ∧ Held F w w') := by
  obtain ⟨X, j, e1, e2⟩ := PJ.new hf
  have q := jopen_c ht hg h (f : Int) (by omega)
  rw [e1] at q
  refine q.mono ?_
  rintro e w' ⟨hk, ⟨j', b, h1, rfl, h2⟩ | ⟨z, hz, h1, _⟩⟩
  · injection h1 with h1 _
    injection h1 with h1
    subst h1
    exact ⟨b, rfl, ⟨X, j, h2, e2⟩, hk⟩
  · injection h1 with h1 _
    cases h1

/-! ### The examples of the chapter -/
set_option maxHeartbeats 2000000 in
theorem jsmall_c (w : World) (ht : Tab w) (hg : Good w) : Calls Tryz.prog 6 #[] w fun e w' => e = .returned (.bool true) ∧ RowKit.Below w.heap.size w w' := by
  have hx1 : ∀ x ∈ [[97], [98, 99]], (x : List UInt8).length ≤ 1000000000 := by decide
  have fl : ∀ l : List (List UInt8), (∀ x ∈ l, x.length ≤ 200) → l.length ≤ 4 → (Jn.form l).length ≤ 1048576 := fun l h1 h2 => by have := form_small h1; omega
  have T := Lib.hid ht
  have G := Lib.hid hg
  have FL := Lib.hid fl
  clear ht hg fl
  go_enter Tryz.func6, Tryz.ntmps6
  go_wp2_with fail
  refine (dd_new (Below.refl _ w)).mono ?_
  rintro e w1 ⟨d, rfl, g1⟩
  go_wp2_with fail
  refine (pl_open T.out G.out g1.out.toDF (f := 3) (by omega)).mono ?_
  rintro e w2 ⟨b, rfl, g2⟩
  go_wp2_with fail
  refine (pl_len g2.out.1).mono ?_
  rintro e w3 ⟨rfl, hw3⟩
  rw [hw3]
  clear hw3
  go_wp2_with fail
  refine (pl_append_lit T.out G.out g2.out.1 (by omega) [[97], [98, 99]] hx1 (by decide) (FL.out _ (by decide) (by decide))).mono ?_
  rintro e w3 ⟨rfl, g3⟩
  go_wp2_with fail
  refine (pl_append T.out G.out g3.out.1 (by omega) (.slice none 0 0) [] ⟨⟨none, 0, rfl, rfl, fun _ => rfl, fun ad e => by cases e⟩, fun h => absurd rfl h⟩ (by simp) (by decide) (FL.out _ (by decide) (by decide))).mono ?_
  rintro e w4 ⟨rfl, g4⟩
  go_wp2_with fail
  refine (pl_append_lit T.out G.out g4.out.1 (by omega) [[100]] (by decide) (by decide) (FL.out _ (by decide) (by decide))).mono ?_
  rintro e w5 ⟨rfl, g5⟩
  go_wp2_with fail
  refine (pl_cut T.out G.out g5.out.1 (by omega) 2 (by decide)).mono ?_
  rintro e w6 ⟨rfl, g6⟩
  go_wp2_with fail
  refine (pl_all g6.out.1 (by omega)).mono ?_
  rintro e w7 ⟨a, c, rfl, g7⟩
  have hb7 : RowKit.Below w7.heap.size w7 (w7.alloc (.cells (strsV [[97], [98, 99]]).toArray 9)) := (Below.refl _ w7).alloc (Nat.le_refl _) _
  go_wp2_with fail
  refine (sameT_c [[97], [98, 99]] [[97], [98, 99]] _ _ _ ((SrcV.own (own_base g7.out.1)).on hb7) (src_lit [[97], [98, 99]]) (by decide)).mono ?_
  rintro e w8 ⟨rfl, hb8⟩
  have g8 := Lib.hid ((g6.out.1.below g7.out.2 (G := fun _ => False) (fun _ e => e.elim)).below (hb7.trans (hb8.mono hb7.size)) (G := fun _ => False) (fun _ e => e.elim))
  clear hb7 hb8
  go_wp2_with fail
  refine (pl_append_lit T.out G.out g8.out (by omega) [[101]] (by decide) (by decide) (FL.out _ (by decide) (by decide))).mono ?_
  rintro e w9 ⟨rfl, g9⟩
  go_wp2_with fail
  refine (pl_get g9.out.1 2 [101] rfl).mono ?_
  rintro e w10 ⟨rfl, hw10⟩
  rw [hw10]
  clear hw10
  go_wp2_with fail
  refine (pl_getout g9.out.1 3 (Or.inr (by decide))).mono ?_
  rintro e w10 ⟨rfl, hw10⟩
  rw [hw10]
  clear hw10
  go_wp2_with fail
  go_ret
  exact ⟨rfl, g9.out.1.base⟩
end Go.Proofs.YtljgfnglknpfaaaGreatDoor
