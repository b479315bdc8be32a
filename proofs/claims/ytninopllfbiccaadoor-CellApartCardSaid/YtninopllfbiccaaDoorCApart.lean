/-
  CellApart: the walk.
-/
import Derived.Test.YtninopllfbiccaaDoorCSmall
namespace Go.Proofs.YtninopllfbiccaaDoor
set_option maxRecDepth 100000
open Go Go.RowKit Go.Maps Dk

/-- A disk and two cells on it. -/
def CD2 (w0 w : World) (d b1 : Nat) (f1 : Int) (c1 : Ck.C) (b2 : Nat) (f2 : Int) (c2 : Ck.C) (X : D) : Prop :=
  ∃ S, DiskIn w d S X ∧ CellAt w b1 d f1 c1 ∧ CellAt w b2 d f2 c2 ∧ ¬ S b1 ∧ ¬ S b2 ∧ b1 ≠ b2 ∧ (∀ k, S k → w0.heap.size ≤ k) ∧ w0.heap.size ≤ b1 ∧ w0.heap.size ≤ b2 ∧ Below w0.heap.size w0 w
theorem CD2.snd {w0 w : World} {d b1 b2 : Nat} {f1 f2 : Int} {c1 c2 : Ck.C} {X : D} (h : CD2 w0 w d b1 f1 c1 b2 f2 c2 X) : CD w0 w d b2 f2 X c2 := by
  obtain ⟨S, h1, _, h3, _, h5, _, h7, _, h9, h10⟩ := h
  exact ⟨S, h1, h3, h5, h7, h9, h10⟩
theorem CD2.fst {w0 w : World} {d b1 b2 : Nat} {f1 f2 : Int} {c1 c2 : Ck.C} {X : D} (h : CD2 w0 w d b1 f1 c1 b2 f2 c2 X) : CD w0 w d b1 f1 X c1 := by
  obtain ⟨S, h1, h2, _, h4, _, _, h7, h8, _, h10⟩ := h
  exact ⟨S, h1, h2, h4, h7, h8, h10⟩
theorem CD2.below {w0 w w' : World} {d b1 b2 : Nat} {f1 f2 : Int} {c1 c2 : Ck.C} {X : D} (h : CD2 w0 w d b1 f1 c1 b2 f2 c2 X) (hb : Below w.heap.size w w') : CD2 w0 w' d b1 f1 c1 b2 f2 c2 X := by
  obtain ⟨S, h1, h2, h3, h4, h5, h6, h7, h8, h9, h10⟩ := h
  exact ⟨_, h1.new' hb, h2.kept (Kept.below (S := fun _ => False) hb) (fun e => e), h3.kept (Kept.below (S := fun _ => False) hb) (fun e => e), fun e => h4 e.1, fun e => h5 e.1, h6, fun k e => h7 k e.1, h8, h9, h10.trans (hb.mono h10.size)⟩
theorem cd2_open {w0 w : World} {d b1 : Nat} {f1 : Int} {c1 : Ck.C} {X : D} (ht : Tab w0) (h : CD w0 w d b1 f1 X c1) (f : Int) (hf : -9223372036854775808 ≤ f ∧ f ≤ 9223372036854775807) {c : Ck.C} (ho : Ck.openM X f = (some c, 0)) :
    Calls Tryd.prog 12 #[.pointer (some ⟨d, 0, none⟩), .int .i64 f] w fun e w' => ∃ b, e = .returned (.tuple #[.pointer (some ⟨b, 0, none⟩), .int .i64 0]) ∧ Hid (CD2 w0 w' d b1 f1 c1 b f c X) := by
  obtain ⟨S, h1, h2, h3, h4, h5, h6⟩ := h
  refine (open_c d _ X f hf w h1 (ht.up h6)).mono ?_
  intro e w' hr
  unfold OpenRes at hr
  rw [ho] at hr
  obtain ⟨hb, b, hbl, he, hc⟩ := hr
  have hl := h2.lt
  exact ⟨b, he, _, h1.new' hb, h2.kept (Kept.below (S := fun _ => False) hb) (fun e => e), hc, fun e => h3 e.1, fun e => absurd hbl (Nat.not_le.2 e.2), by omega, fun k e => h4 k e.1, h5, Nat.le_trans h6.size hbl, h6.trans (hb.mono h6.size)⟩
theorem cd2_set {w0 w : World} {d b1 b2 : Nat} {f1 f2 : Int} {c1 c2 : Ck.C} {X : D} (ht : Tab w0) (h : CD2 w0 w d b1 f1 c1 b2 f2 c2 X) (hf : -9223372036854775808 ≤ f1 ∧ f1 ≤ 9223372036854775807) (s : List UInt8) :
    Calls Tryd.prog 14 #[.pointer (some ⟨b1, 0, none⟩), .string ⟨s.toArray⟩] w fun e w' => e = .returned (.int .i64 (Ck.setM X f1 c1 s).2.2) ∧ Hid (CD2 w0 w' d b1 f1 (Ck.setM X f1 c1 s).2.1 b2 f2 c2 (Ck.setM X f1 c1 s).1) := by
  obtain ⟨S, h1, h2, h3, h4, h5, h6, h7, h8, h9, h10⟩ := h
  have hl := ht.lt
  refine (set_c b1 d f1 c1 S X s w ⟨h1, h2, h4, ht.up h10, fun e => absurd (h7 _ e) (Nat.not_le.2 hl), fun e => absurd (e ▸ h8) (Nat.not_le.2 hl), hf⟩).mono ?_
  rintro e w' ⟨rfl, g1, g2, g3⟩
  have hl1 := h2.lt
  have hl2 := h3.lt
  refine ⟨rfl, _, g1, g2, h3.kept g3 (fun e => e.elim h5 (fun e => h6 e.symm)), fun e => e.elim h4 (fun e => absurd hl1 (Nat.not_lt.2 e)), fun e => e.elim h5 (fun e => absurd hl2 (Nat.not_lt.2 e)), h6, fun k e => e.elim (h7 k) (Nat.le_trans h10.size), h8, h9, h10.trans (g3.toBelow h10.size (fun k e => e.elim (h7 k) (fun e => e ▸ h8)))⟩

/-- What the law's states are. -/
structure ApartM (i j : Nat) (s t : List UInt8) (n : Int) (keep : List Int) (X1 X2 X3 : D) (c1 c3 : Ck.C) (x : Int) (ks vs : List UInt8 × Nat) : Prop where
  set1 : Ck.setM D.new i ⟨0, [], false⟩ s = (X1, c1, 0)
  set2 : Ck.setM (X1.arm n keep) j ⟨0, [], false⟩ t = (X2, c3, x)
  res : X3 = (X2.crash keep).start
  open1 : Ck.openM X3 i = (some ⟨ks.2, ks.1, false⟩, 0)
  open2 : Ck.openM X3 j = (some ⟨vs.2, vs.1, false⟩, 0)
  val1 : ks.1 = s ∧ ks.2 ≠ 0
  val2 : (vs.2 = 0 ∧ vs.1 = [] ∧ x ≠ 0) ∨ (vs.2 ≠ 0 ∧ vs.1 = t)
theorem apart_m (i j : Nat) (hi : i < 16) (hj : j < 16) (hne : i ≠ j) (s t : List UInt8) (hs : s.length ≤ 65536) (htl : t.length ≤ 65536) (n : Int) (keep : List Int) : ∃ X1 X2 X3 c1 c3 x ks vs, ApartM i j s t n keep X1 X2 X3 c1 c3 x ks vs := by
  obtain ⟨X1, e1, s1, _⟩ := set_still (X := D.new) ⟨rfl, rfl, rfl⟩ hi (c := ⟨0, [], false⟩) (Or.inr rfl) (s := s) hs
  have d1 := Ck.setM_done (Ck.St.new (i := i)).2 hi hs
  have o1 := (Ck.St.new (i := j)).2.setM_other (c := ⟨0, [], false⟩) (s := s) hi hj hne.symm hs
  rw [e1] at d1 o1
  have g1 := (d1.good rfl).1
  have a1 := g1.arm n keep
  have a2 := o1.arm n keep
  obtain ⟨Y, hY⟩ : ∃ Y, Y = Ck.setM (X1.arm n keep) j ⟨0, [], false⟩ t := ⟨_, rfl⟩
  have d2 := Ck.setM_done a2 hj htl
  have o2 := a1.setM_other (c := ⟨0, [], false⟩) (s := t) hj hi hne htl
  rw [← hY] at d2 o2
  obtain ⟨X2, c3, x⟩ := Y
  dsimp only at d2 o2
  obtain ⟨k1, v1, p1, ⟨p2, p3⟩, _⟩ := o2.again hi keep
  by_cases hx : x = 0
  · obtain ⟨k2, v2, q1, ⟨q2, q3⟩, _⟩ := (d2.good hx).1.again hj keep
    exact ⟨X1, X2, _, _, c3, x, (v1, k1), (v2, k2), e1, hY.symm, rfl, p1, q1, ⟨p3, p2⟩, Or.inr ⟨q2, q3⟩⟩
  · obtain ⟨k2, v2, q1, q2, _⟩ := d2.st.again hj keep
    refine ⟨X1, X2, _, _, c3, x, (v1, k1), (v2, k2), e1, hY.symm, rfl, p1, q1, ⟨p3, p2⟩, ?_⟩
    rcases q2 with ⟨q2, q3⟩ | ⟨q2, q3⟩
    · exact Or.inl ⟨q2, q3, hx⟩
    · exact Or.inr ⟨q2, q3⟩

set_option maxHeartbeats 1000000 in
set_option maxRecDepth 100000 in
theorem apart_out (s t : List UInt8) (hs : s.length ≤ 9223372036854775807) (htl : t.length ≤ 9223372036854775807) (f g n : Int) (ka : Option Addr) (kc kl : Nat) (hkl : kl ≤ 9223372036854775807) (w : World) (ht : Tab w)
    (he : ¬ (s.length ≤ 400 ∧ t.length ≤ 400 ∧ 0 ≤ f ∧ f ≤ 15 ∧ 0 ≤ g ∧ g ≤ 15 ∧ f ≠ g ∧ kl ≤ 100)) :
    Calls Tryd.prog 7 #[.string ⟨s.toArray⟩, .string ⟨t.toArray⟩, .int .i64 f, .int .i64 g, .int .i64 n, .slice ka kl kc] w fun e w' => e = .returned (.bool true) ∧ Below w.heap.size w w' := by
  go_enter Tryd.func7, Tryd.ntmps7
  go_wp2_with fail
  refine (cSmall_c w ht).mono ?_
  rintro e w1 ⟨rfl, hb1⟩
  have HB := Lib.hid hb1
  clear hb1
  by_cases h1 : (400 : Int) < (s.length : Int)
  · clear he
    go_wp2_with fail
    go_ret
    exact ⟨rfl, HB.out⟩
  · by_cases h2 : (400 : Int) < (t.length : Int)
    · clear he
      go_wp2_with fail
      go_ret
      exact ⟨rfl, HB.out⟩
    · by_cases h3 : f < 0
      · clear he
        go_wp2_with fail
        go_ret
        exact ⟨rfl, HB.out⟩
      · by_cases h4 : 15 < f
        · clear he
          go_wp2_with fail
          go_ret
          exact ⟨rfl, HB.out⟩
        · by_cases h5 : g < 0
          · clear he
            go_wp2_with fail
            go_ret
            exact ⟨rfl, HB.out⟩
          · by_cases h6 : 15 < g
            · clear he
              go_wp2_with fail
              go_ret
              exact ⟨rfl, HB.out⟩
            · by_cases h7 : f = g
              · have h7b : (f == g) = true := by simpa using h7
                clear h7 he
                go_wp2_with fail
                go_ret
                exact ⟨rfl, HB.out⟩
              · have h7b : (f == g) = false := by simpa using h7
                by_cases h8 : (100 : Int) < (kl : Int)
                · clear he
                  go_wp2_with fail
                  go_ret
                  exact ⟨rfl, HB.out⟩
                · exact absurd ⟨by omega, by omega, by omega, by omega, by omega, by omega, h7, by omega⟩ he

set_option maxHeartbeats 1000000 in
set_option maxRecDepth 100000 in
theorem apart_in (s t : List UInt8) (hs : s.length ≤ 400) (htl : t.length ≤ 400) (i j : Nat) (hi : i < 16) (hj : j < 16) (hne : i ≠ j) (n : Int) (hn : n ≤ 9223372036854775807) (keep : List Int) (ka : Option Addr) (kc : Nat) (w : World) (hk : KeepIn w (.slice ka keep.length kc) keep) (hkl : keep.length ≤ 100) (ht : Tab w) :
    Calls Tryd.prog 7 #[.string ⟨s.toArray⟩, .string ⟨t.toArray⟩, .int .i64 (i : Int), .int .i64 (j : Int), .int .i64 n, .slice ka keep.length kc] w fun e w' => e = .returned (.bool true) ∧ Below w.heap.size w w' := by
  obtain ⟨X1, X2, X3, c1, c3, x, ⟨v1, k1⟩, ⟨v2, k2⟩, m⟩ := apart_m i j hi hj hne s t (by omega) (by omega) n keep
  obtain ⟨e1, e2, rfl, o1, o2, ⟨m1, m2⟩, m3⟩ := m
  dsimp only at o1 o2 m1 m2 m3
  subst m1
  have h1 : ¬ (400 : Int) < (v1.length : Int) := by omega
  have h2 : ¬ (400 : Int) < (t.length : Int) := by omega
  have h3 : ¬ (i : Int) < 0 := by omega
  have h4 : ¬ (15 : Int) < (i : Int) := by omega
  have h5 : ¬ (j : Int) < 0 := by omega
  have h6 : ¬ (15 : Int) < (j : Int) := by omega
  have h7 : ((i : Int) == (j : Int)) = false := by simpa using (fun e : (i : Int) = (j : Int) => hne (by omega))
  have h8 : ¬ (100 : Int) < (keep.length : Int) := by omega
  have f1 : -9223372036854775808 ≤ (i : Int) ∧ (i : Int) ≤ 9223372036854775807 := by omega
  have f2 : -9223372036854775808 ≤ (j : Int) ∧ (j : Int) ≤ 9223372036854775807 := by omega
  have new1 : Ck.openM D.new (i : Int) = (some ⟨0, [], false⟩, 0) := by rw [(Ck.St.new (i := i)).1, if_pos (ok_nat hi)]
  have new2 : Ck.openM D.new (j : Int) = (some ⟨0, [], false⟩, 0) := by rw [(Ck.St.new (i := j)).1, if_pos (ok_nat hj)]
  go_enter Tryd.func7, Tryd.ntmps7
  go_wp2_with fail
  refine (cSmall_c w ht).mono ?_
  rintro e w1 ⟨rfl, hb1⟩
  go_wp2_with fail
  refine (dd_new hb1).mono ?_
  rintro e w2 ⟨d, rfl, g2⟩
  clear hb1
  go_wp2_with fail
  refine (dd_open ht g2.out i f1 new1).mono ?_
  rintro e w3 ⟨b1, rfl, g3⟩
  clear g2
  go_wp2_with fail
  refine (cd2_open ht g3.out j f2 new2).mono ?_
  rintro e w4 ⟨b2, rfl, g4⟩
  clear g3
  go_wp2_with fail
  refine (cd2_set ht g4.out f1 v1).mono ?_
  rw [e1]
  rintro e w5 ⟨rfl, g5⟩
  clear g4
  have g5' := Lib.hid (CD2.snd g5.out)
  go_wp2_with fail
  refine (g5'.out.op (hk.arm g5'.out.base n hn)).mono ?_
  rintro e w6 ⟨rfl, g6⟩
  clear g5 g5'
  go_wp2_with fail
  refine (cd_set ht g6.out f2 t).mono ?_
  rw [e2]
  rintro e w7 ⟨rfl, g7⟩
  clear g6
  have g7' := Lib.hid (CD.toDD g7.out)
  go_wp2_with fail
  refine (g7'.out.op (hk.crash g7'.out.2)).mono ?_
  rintro e w8 ⟨rfl, g8⟩
  clear g7 g7'
  go_wp2_with fail
  refine (g8.out.op (fun S h _ => start_op S h)).mono ?_
  rintro e w9 ⟨rfl, g9⟩
  clear g8
  go_wp2_with fail
  refine (dd_open ht g9.out i f1 o1).mono ?_
  rintro e w10 ⟨b3, rfl, g10⟩
  clear g9
  go_wp2_with fail
  refine (cd2_open ht g10.out j f2 o2).mono ?_
  rintro e w11 ⟨b4, rfl, g11⟩
  clear g10
  go_wp2_with fail
  refine (cd_get (CD2.fst g11.out)).mono ?_
  dsimp only
  have t1 : (k1 != 0) = true := by simpa using m2
  rw [t1]
  rintro e w12 ⟨rfl, hb⟩
  have g12 := Lib.hid (CD2.below g11.out hb)
  clear g11 hb
  go_wp2_with fail
  refine (cd_get (CD2.snd g12.out)).mono ?_
  dsimp only
  rcases m3 with ⟨m4, m5, m6⟩ | ⟨m4, m5⟩
  · have t2 : (k2 != 0) = false := by rw [m4]; rfl
    have t3 : (x != 0) = true := by simpa using m6
    rw [t2]
    rintro e w13 ⟨rfl, hb⟩
    have g13 := Lib.hid (CD2.below g12.out hb)
    clear g12 hb m5 m4 m6 o1 o2 e1 e2
    go_wp2_with fail
    go_ret
    exact ⟨rfl, (CD2.fst g13.out).base⟩
  · have t2 : (k2 != 0) = true := by simpa using m4
    subst m5
    rw [t2]
    rintro e w13 ⟨rfl, hb⟩
    have g13 := Lib.hid (CD2.below g12.out hb)
    clear g12 hb m4 o1 o2 e1 e2
    by_cases hx : (x != 0) = true
    · go_wp2_with fail
      go_ret
      exact ⟨rfl, (CD2.fst g13.out).base⟩
    · have hx' : (x != 0) = false := by simpa using hx
      clear hx
      go_wp2_with fail
      go_ret
      exact ⟨rfl, (CD2.fst g13.out).base⟩

theorem apart_law (s t : List UInt8) (hs : s.length ≤ 9223372036854775807) (htl : t.length ≤ 9223372036854775807) (f g n : Int) (hn : n ≤ 9223372036854775807) (keep : List Int) (hkl : keep.length ≤ 9223372036854775807) (hki : ∀ k ∈ keep, In64 k) (ka : Option Addr) (kc : Nat) (w : World)
    (hk : SrcV w 1 (.slice ka keep.length kc) keep.length (intsV keep)) (ht : Tab w) :
    Calls Tryd.prog 7 #[.string ⟨s.toArray⟩, .string ⟨t.toArray⟩, .int .i64 f, .int .i64 g, .int .i64 n, .slice ka keep.length kc] w fun e w' => e = .returned (.bool true) ∧ Below w.heap.size w w' := by
  by_cases he : s.length ≤ 400 ∧ t.length ≤ 400 ∧ 0 ≤ f ∧ f ≤ 15 ∧ 0 ≤ g ∧ g ≤ 15 ∧ f ≠ g ∧ keep.length ≤ 100
  · obtain ⟨h1, h2, h3, h4, h5, h6, h7, h8⟩ := he
    obtain ⟨i, rfl⟩ : ∃ i : Nat, f = i := ⟨f.toNat, by omega⟩
    obtain ⟨j, rfl⟩ : ∃ j : Nat, g = j := ⟨g.toNat, by omega⟩
    exact apart_in s t h1 h2 i j (by omega) (by omega) (fun e => h7 (by rw [e])) n hn keep ka kc w ⟨hk, by omega, hki⟩ h8 ht
  · exact apart_out s t hs htl f g n ka kc _ hkl w ht he
end Go.Proofs.YtninopllfbiccaaDoor
