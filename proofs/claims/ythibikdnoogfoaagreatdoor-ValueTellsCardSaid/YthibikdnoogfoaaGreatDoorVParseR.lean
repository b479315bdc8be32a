/-
  ParseRow of package value: it returns what chapter 3 says; the row is of the call's own, and of what was there nothing has turned.
-/
import Derived.Test.YthibikdnoogfoaaGreatDoorVNext
import Derived.Deep.LoopGhost
namespace Go.Proofs.YthibikdnoogfoaaGreatDoor
open Go Go.RowKit Go.Sort Wire Txt Vl

theorem cellsV_get : ∀ (l : List V) (i j : Nat) (v : V) (x : Value), l[i]? = some v → ([Value.int .i64 v.k, .int .i64 v.n, .string ⟨v.s.toArray⟩] : List Value)[j]? = some x → (cellsV l)[i * 3 + j]? = some x := by
  intro l
  induction l with
  | nil => intro i j v x h; cases h
  | cons a l ih =>
    intro i j v x hi hj
    have hj3 : j < 3 := (List.getElem?_eq_some_iff.1 hj).1
    have e : cellsV (a :: l) = [Value.int .i64 a.k, .int .i64 a.n, .string ⟨a.s.toArray⟩] ++ cellsV l := by simp [cellsV]
    rw [e]
    cases i with
    | zero =>
      simp at hi
      subst hi
      rw [List.getElem?_append_left (by simp; omega), Nat.zero_mul, Nat.zero_add]
      exact hj
    | succ i =>
      rw [List.getElem?_append_right (by simp; omega)]
      have : (i + 1) * 3 + j - [Value.int .i64 a.k, .int .i64 a.n, .string ⟨a.s.toArray⟩].length = i * 3 + j := by simp; omega
      rw [this]
      exact ih i j v x (by simpa using hi) hj
theorem row_of_own {B : Nat} {sv : Value} {l : List V} {w : World} (h : Own B sv l w) (hl : l.length ≤ 9223372036854775807) : RowV w sv l := by
  obtain ⟨h0, h1⟩ := h
  rcases h1 with ⟨rfl, h2⟩ | ⟨g, cap, cur, rfl, hB, hh, hc, hm, hs, ht⟩
  · have : l = [] := List.eq_nil_of_length_eq_zero h2
    subst this
    exact ⟨by simp, none, 0, rfl, fun h => absurd rfl h⟩
  · refine ⟨hl, some ⟨g, 0, none⟩, cap, rfl, fun hne => ⟨g, 0, rfl, fun i v hv => ?_⟩⟩
    have key : ∀ j x, ([Value.int .i64 v.k, .int .i64 v.n, .string ⟨v.s.toArray⟩] : List Value)[j]? = some x → w.cell? ⟨g, i * 3 + j, none⟩ = some x := by
      intro j x hx
      have h3 := cellsV_get l i j v x hv hx
      have hlt := (List.getElem?_eq_some_iff.1 h3).1
      rw [← ht, List.getElem?_take_of_lt (by rw [h0] at hlt; exact hlt)] at h3
      rw [Lib.cell_of_heap hh]
      simpa using h3
    have k0 := key 0 _ rfl
    have k1 := key 1 _ rfl
    have k2 := key 2 _ rfl
    refine ⟨?_, ?_, ?_⟩
    · simpa using k0
    · simpa using k1
    · simpa using k2

/-- What ParseRow returns. -/
def ParsePost (s : List UInt8) (w : World) (e : Ending) (w' : World) : Prop :=
  ((∃ sv l, e = .returned (.tuple #[sv, .bool true]) ∧ RowText s l ∧ l.length ≤ s.length ∧ Own w.heap.size sv l w') ∨ (e = .returned (.tuple #[.slice none 0 0, .bool false]) ∧ ∀ l, ¬ RowText s l)) ∧ Below w.heap.size w w'
theorem ret_pair {a b c d : Value} (h1 : a = c) (h2 : b = d) : Ending.returned (.tuple #[a, b]) = .returned (.tuple #[c, d]) := by rw [h1, h2]
theorem str_new (w : World) (s : List UInt8) : ∃ w2, w.alloc (.cells #[.string ⟨s.toArray⟩] 9) = w2 ∧ StrAt w2 w.heap.size s ∧ Below w.heap.size w w2 ∧ w.heap.size < w2.heap.size := ⟨_, rfl, heap_alloc_new w _, (Below.refl _ _).alloc (Nat.le_refl _) _, by simp⟩
theorem slc_new (w : World) : ∃ w2, w.alloc (.cells #[.slice none 0 0] 22) = w2 ∧ SlcAt w2 w.heap.size (.slice none 0 0) ∧ Below w.heap.size w w2 ∧ w.heap.size < w2.heap.size := ⟨_, rfl, heap_alloc_new w _, (Below.refl _ _).alloc (Nat.le_refl _) _, by simp⟩
theorem hasSuf_yes {t : List UInt8} (h : Lib.hasSuffix t [41] = true) : ∃ x, t = x ++ [41] := by
  unfold Lib.hasSuffix at h
  obtain ⟨x, rfl⟩ := List.isSuffixOf_iff_suffix.1 h
  exact ⟨x, rfl⟩

set_option maxHeartbeats 400000 in
set_option maxRecDepth 100000 in
theorem parseRow_a (s : List UInt8) (h : Lib.hasPrefix s [40] = false) (hs : s.length ≤ 10000000) (w : World) : Calls Tryz.prog 30 #[.string ⟨s.toArray⟩] w (ParsePost s w) := by
  have HP := Lib.hid h
  have HT := Lib.hid (trimPre_no h)
  have HN := Lib.hid (show ∀ l, ¬ RowText s l from fun l hl => by
    rw [rowText_body hl] at h
    have := hasPrefix_app [40] (body l ++ [41])
    rw [List.singleton_append, h] at this
    cases this)
  clear h
  obtain ⟨w1, e1, hx, hb, hz⟩ := str_new w s
  have c0 := hx.c
  have z0 := hx.z
  go_enter Tryz.func30, Tryz.ntmps30
  go_wp2_with fail
  refine (cutPre_c s [40] _).mono ?_
  rw [HP.out, HT.out]
  rintro e w2 ⟨rfl, rfl⟩
  go_wp2_with fail
  refine (cutSuf_c s [41] hs _).mono ?_
  rintro e w3 ⟨rfl, rfl⟩
  go_wp2_with fail
  go_ret2
  exact ⟨Or.inr ⟨rfl, HN.out⟩, hb.setCell (p := ⟨w.heap.size, 0, none⟩) (Nat.le_refl _) _⟩
set_option maxHeartbeats 400000 in
set_option maxRecDepth 100000 in
theorem parseRow_b (t : List UInt8) (h : Lib.hasSuffix t [41] = false) (hs : t.length < 10000000) (w : World) : Calls Tryz.prog 30 #[.string ⟨(40 :: t).toArray⟩] w (ParsePost (40 :: t) w) := by
  have HP := Lib.hid (show Lib.hasPrefix (40 :: t) [40] = true from hasPrefix_app [40] t)
  have HT := Lib.hid (show Lib.trimPrefix (40 :: t) [40] = t from trimPre 40 t)
  have HN := Lib.hid (show ∀ l, ¬ RowText (40 :: t) l from fun l hl => by
    have := rowText_body hl
    injection this with _ this
    have hsx : Lib.hasSuffix (body l ++ [41]) [41] = true := by simp [Lib.hasSuffix]
    rw [this, hsx] at h
    cases h)
  have HS := Lib.hid h
  clear h
  obtain ⟨w1, e1, hx, hb, hz⟩ := str_new w t
  have c0 := hx.c
  have z0 := hx.z
  go_enter Tryz.func30, Tryz.ntmps30
  go_wp2_with fail
  refine (cutPre_c (40 :: t) [40] _).mono ?_
  rw [HP.out, HT.out]
  rintro e w2 ⟨rfl, rfl⟩
  go_wp2_with fail
  refine (cutSuf_c t [41] (by omega) _).mono ?_
  rw [HS.out]
  rintro e w3 ⟨rfl, rfl⟩
  go_wp2_with fail
  go_ret2
  exact ⟨Or.inr ⟨rfl, HN.out⟩, hb.setCell (p := ⟨w.heap.size, 0, none⟩) (Nat.le_refl _) _⟩
set_option maxHeartbeats 400000 in
set_option maxRecDepth 100000 in
theorem parseRow_d (x y : List UInt8) (hy : y = x ++ [41]) (hs : x.length < 9999999) (w : World) (hg : Good w) : Calls Tryz.prog 30 #[.string ⟨(40 :: y).toArray⟩] w (ParsePost (40 :: y) w) := by
  have hmf : ∀ (fn : Fn) (first cap : Array Value) (w : World), (Instr.makeFunc fn first cap).run Tryz.prog w = .ok (.func fn first cap) w := fun _ _ _ _ => rfl
  have HP := Lib.hid (show Lib.hasPrefix (40 :: y) [40] = true from hasPrefix_app [40] y)
  have HT := Lib.hid (show Lib.trimPrefix (40 :: y) [40] = y from trimPre 40 y)
  have HS := Lib.hid (show Lib.hasSuffix y [41] = true by rw [hy]; simp [Lib.hasSuffix])
  have HU := Lib.hid (show Lib.trimSuffix y [41] = x by rw [hy]; exact trimSuf 41 x)
  have hyl : y.length ≤ 9999999 := by rw [hy]; simp; omega
  have hxy : x.length < y.length := by rw [hy]; simp
  have HY := Lib.hid hy
  clear hy
  obtain ⟨w1, e1, hx1, hb1, hz1⟩ := str_new w y
  have c0 := hx1.c
  have z0 := hx1.z
  have hx2 : StrAt (w1.setCell ⟨w.heap.size, 0, none⟩ (.string ⟨x.toArray⟩)) w.heap.size x := hx1.set x
  have hb2 : Below w.heap.size w (w1.setCell ⟨w.heap.size, 0, none⟩ (.string ⟨x.toArray⟩)) := hb1.setCell (p := ⟨w.heap.size, 0, none⟩) (Nat.le_refl _) _
  have hz2 : w.heap.size < (w1.setCell ⟨w.heap.size, 0, none⟩ (.string ⟨x.toArray⟩)).heap.size := by simpa [World.setCell] using hz1
  obtain ⟨w2, e2⟩ : ∃ w2, w1.setCell ⟨w.heap.size, 0, none⟩ (.string ⟨x.toArray⟩) = w2 := ⟨_, rfl⟩
  rw [e2] at hx2 hb2 hz2
  obtain ⟨w3, e3, hy3, hb3, hz3⟩ := slc_new w2
  have hx3 := hx2.on hb3
  have hbb3 : Below w.heap.size w w3 := hb2.trans (hb3.mono hb2.size)
  clear hx1 hb1 hz1 hx2 hb2
  go_enter Tryz.func30, Tryz.ntmps30
  go_wp2_with fail
  refine (cutPre_c (40 :: y) [40] _).mono ?_
  rw [HP.out, HT.out]
  rintro e wa ⟨rfl, rfl⟩
  go_wp2_with fail
  refine (cutSuf_c y [41] (by omega) _).mono ?_
  rw [HS.out, HU.out]
  rintro e wb ⟨rfl, rfl⟩
  go_wp2_with fail
  clear c0 z0 hxy
  go_loopg [9] x.length (fun g s9 wr => ∃ (l : List V) (rest : List UInt8) (sv : Value) (bf : List UInt8), s9 = .string ⟨bf.toArray⟩ ∧ Hid (bf = if l = [] then [] else sep) ∧ g = rest.length ∧ Hid (Front x l rest) ∧ l.length + rest.length ≤ x.length ∧ StrAt wr w.heap.size rest ∧ SlcAt wr w2.heap.size sv ∧ Own w.heap.size sv l wr ∧ Below w.heap.size w wr)
  case atStart => exact ⟨[], x, .slice none 0 0, [], rfl, Lib.hid rfl, rfl, Lib.hid (Front.start x), by simp, hx3, hy3, ⟨rfl, Or.inl ⟨rfl, rfl⟩⟩, hbb3⟩
  case round =>
    obtain ⟨l, rest, sv, bf, rfl, HBF, rfl, HF, hlr, hR, hW, hown, hb⟩ := hrel
    clear hx3 hy3 hbb3
    have hgr := hg.on hb
    have cr := hR.c
    have cw := hW.c
    have hz := hb.size
    by_cases hr : rest = []
    · subst hr
      have hq : (!([] : List UInt8) == []) = false := rfl
      go_wp2_with fail
      go_ret2
      refine ⟨Or.inl ⟨sv, l, rfl, ?_, ?_, hown⟩, hb⟩
      · rw [HY.out]
        exact rowText_of HF.out.1 x (Front.done HF.out)
      · rw [HY.out]
        simp at hlr ⊢
        omega
    · have hq : rest.isEmpty = false := by simpa using hr
      cases hs : stepP bf rest with
      | none =>
        have HN := Lib.hid (show ∀ L, ¬ RowText (40 :: y) L from fun L hL => Front.stop HF.out hr (by rw [← HBF.out]; exact hs) L hL.1 (rowText_inner (by rw [← HY.out]; exact hL)))
        have HC := Lib.hid (next_no bf rest w.heap.size w2.heap.size (by omega) hs _ hgr hR)
        clear hs hr
        go_wp2_with fail
        refine HC.out.mono ?_
        rintro e w5 ⟨rfl, hb5⟩
        go_wp2_with fail
        go_ret2
        exact ⟨Or.inr ⟨rfl, HN.out⟩, hb.trans (hb5.mono hz)⟩
      | some q =>
        obtain ⟨v, r'⟩ := q
        have HN := Lib.hid (Front.step HF.out hr (by rw [← HBF.out]; exact hs))
        have hsh := stepP_shorter hs
        have HC := Lib.hid (next_ok bf rest w.heap.size w.heap.size w2.heap.size l sv v r' hs (by omega) (by omega) _ hgr hR hW hown (Nat.le_refl _) (Nat.le_of_lt hz2) hz)
        clear hs hr
        go_wp2_with fail
        refine HC.out.mono ?_
        rintro e w5 ⟨rfl, hR5, ⟨sv5, hW5, hown5⟩, hb5, hz5⟩
        go_wp2_with fail
        go_roundg r'.length
        case measure => omega
        case rel => exact ⟨l ++ [v], r', sv5, sep, rfl, Lib.hid (by simp), rfl, HN, by simp; omega, hR5, hW5, hown5, hb.trans hb5⟩
theorem parseRow_c (s : List UInt8) (hs : s.length < 9999999) (w : World) (hg : Good w) : Calls Tryz.prog 30 #[.string ⟨s.toArray⟩] w (ParsePost s w) := by
  cases h : Lib.hasPrefix s [40] with
  | false => exact parseRow_a s h (by omega) w
  | true =>
    have := hasPrefix_drop h
    obtain ⟨t, rfl⟩ : ∃ t, s = 40 :: t := ⟨_, this⟩
    simp at hs
    cases h2 : Lib.hasSuffix t [41] with
    | false => exact parseRow_b t h2 (by omega) w
    | true =>
      obtain ⟨x, rfl⟩ := hasSuf_yes h2
      simp at hs
      exact parseRow_d x _ rfl (by omega) w hg
end Go.Proofs.YthibikdnoogfoaaGreatDoor
