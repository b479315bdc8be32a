/-
  columns: the columns of a version of a source; fits: whether a row has them.
-/
import Derived.Test.YtmgpfkckafdbmaaIKnow
import Derived.Test.YtmgpfkckafdbmaaVRow
namespace Go.Proofs.Ytmgpfkckafdbmaa
set_option maxRecDepth 100000
open Go Go.RowKit Vl

/-- The first known columns of a source and a version. -/
def fstK : List KP → ByteArray → Int → Option (Nat × KP)
  | [], _, _ => none
  | x :: l, s, n => if x.src = s ∧ x.sch = n then some (0, x) else (fstK l s n).map (fun y => (y.1 + 1, y.2))
theorem data_eq {a b : ByteArray} : a.data.toList = b.data.toList ↔ a = b := by
  constructor
  · intro h
    have : a.data = b.data := Array.toList_inj.1 h
    cases a; cases b
    cases this
    rfl
  · intro h
    rw [h]
theorem fst_cols : ∀ (l : List KP) (s : ByteArray) (n : Int), In.colsOf (kns l) s.data.toList n = (fstK l s n).map (fun y => y.2.cols.map CP.ty)
  | [], _, _ => rfl
  | x :: l, s, n => by
    unfold fstK
    by_cases h : x.src = s ∧ x.sch = n
    · rw [if_pos h]
      exact In.colsOf_here (k := x.kn) (l := kns l) ⟨data_eq.2 h.1, h.2⟩
    · rw [if_neg h, Option.map_map]
      have := In.colsOf_skip (k := x.kn) (l := kns l) (s := s.data.toList) (n := n) (fun f => h ⟨data_eq.1 f.1, f.2⟩)
      exact this.trans (fst_cols l s n)
theorem fst_get : ∀ {l : List KP} {s : ByteArray} {n : Int} {i : Nat} {x : KP}, fstK l s n = some (i, x) → l[i]? = some x
  | [], _, _, _, _, h => by cases h
  | y :: l, s, n, i, x, h => by
    unfold fstK at h
    split at h
    · injection h with h
      injection h with h1 h2
      subst h1 h2
      rfl
    · cases e : fstK l s n with
      | none => rw [e] at h; cases h
      | some z =>
        obtain ⟨j, z⟩ := z
        rw [e] at h
        injection h with h
        injection h with h1 h2
        subst h1 h2
        have q := fst_get (l := l) e
        simpa using q
theorem fst_none : ∀ {l : List KP} {s : ByteArray} {n : Int}, (∀ (i : Nat) (x : KP), l[i]? = some x → ¬ (x.src = s ∧ x.sch = n)) → fstK l s n = none
  | [], _, _, _ => rfl
  | y :: l, s, n, h => by
    unfold fstK
    rw [if_neg (h 0 y rfl), fst_none (fun i x hx => h (i + 1) x (by simpa using hx))]
    rfl
theorem fst_here : ∀ {l : List KP} {s : ByteArray} {n : Int} {k : Nat} {y : KP}, (∀ (i : Nat) (x : KP), i < k → l[i]? = some x → ¬ (x.src = s ∧ x.sch = n)) → l[k]? = some y → (y.src = s ∧ y.sch = n) → fstK l s n = some (k, y)
  | [], _, _, _, _, _, h, _ => by simp at h
  | z :: l, s, n, k, y, h, hk, hy => by
    unfold fstK
    cases k with
    | zero =>
      simp at hk
      subst hk
      rw [if_pos hy]
    | succ k =>
      rw [if_neg (h 0 z (by omega) rfl), fst_here (k := k) (fun i x hi hx => h (i + 1) x (by omega) (by simpa using hx)) (by simpa using hk) hy]
      rfl
/-- The closure of columns. -/
theorem colsPred_c {W : World} {bs bn : Nat} {src : ByteArray} {sch : Int} (hs : W.cell? ⟨bs, 0, none⟩ = some (.string src)) (hn : W.cell? ⟨bn, 0, none⟩ = some (.int .i64 sch)) (x : KP) :
    Calls Try.prog 43 #[x.val, .pointer (some ⟨bs, 0, none⟩), .pointer (some ⟨bn, 0, none⟩)] W fun e w' => e = .returned (.bool (decide (x.src = src ∧ x.sch = sch))) ∧ Below W.heap.size W w' := by
  obtain ⟨W1, hW1⟩ : ∃ W1, W1 = W.alloc x.obj := ⟨_, rfl⟩
  have hb1 : Below W.heap.size W W1 := by rw [hW1]; exact below_new W _
  have hc := KP.cells3 (show W1.heap[W.heap.size]? = some x.obj by rw [hW1]; exact box_new W _)
  have c0 := hc.c0
  have c1 := hc.c1
  have hs1 := (Kept.below (S := fun _ => False) hb1).cell hs (fun e => e)
  have hn1 := (Kept.below (S := fun _ => False) hb1).cell hn (fun e => e)
  have HB := Lib.hid hb1
  clear hc hs hn hb1
  obtain ⟨s, n, cols, a, c⟩ := x
  unfold KP.obj at hW1
  unfold KP.val
  dsimp only at *
  by_cases h1 : s = src
  · subst h1
    by_cases h2 : n = sch
    · subst h2
      rw [decide_eq_true (show s = s ∧ n = n from ⟨rfl, rfl⟩)]
      go_enter Try.func43, Try.ntmps43
      go_upto_region 1 with fail
      rw [← hW1]
      clear hW1
      go_wp2_with fail
      go_ret
      exact ⟨rfl, HB.out⟩
    · have hb : (n == sch) = false := by simpa using h2
      rw [decide_eq_false (show ¬ (s = s ∧ n = sch) from fun f => h2 f.2)]
      clear h2
      go_enter Try.func43, Try.ntmps43
      go_upto_region 1 with fail
      rw [← hW1]
      clear hW1
      go_wp2_with fail
      go_ret
      exact ⟨rfl, HB.out⟩
  · have hb : (s.toList == src.toList) = false := by
      rw [Lib.toList_data, Lib.toList_data]
      exact beq_eq_false_iff_ne.2 (fun f => h1 (data_eq.1 f))
    rw [decide_eq_false (show ¬ (s = src ∧ n = sch) from fun f => h1 f.1)]
    clear h1
    go_enter Try.func43, Try.ntmps43
    go_upto_region 1 with fail
    rw [← hW1]
    clear hW1
    go_wp2_with fail
    go_ret
    exact ⟨rfl, HB.out⟩
set_option maxHeartbeats 1000000 in
theorem colsIdx_c {G : Nat → Prop} {w : World} {a : Option Addr} {c : Nat} {l : List KP} (h : Src G w a c l.length (kpsV l)) (hn : l.length ≤ 1000) {bs bn : Nat} {src : ByteArray} {sch : Int} (hs : w.cell? ⟨bs, 0, none⟩ = some (.string src)) (hi : w.cell? ⟨bn, 0, none⟩ = some (.int .i64 sch)) :
    Calls Try.prog 44 #[.slice a l.length c, .func (.func 43) #[] #[.pointer (some ⟨bs, 0, none⟩), .pointer (some ⟨bn, 0, none⟩)]] w fun e w' =>
      ∃ j : Int, e = .returned (.int .i64 j) ∧ Hid ((j = -1 ∧ fstK l src sch = none) ∨ ∃ (k : Nat) (x : KP), j = (k : Int) ∧ k < l.length ∧ fstK l src sch = some (k, x)) ∧ Below w.heap.size w w' := by
  have HP := Lib.hid (fun (W : World) (hW : Below w.heap.size w W) (x : KP) => colsPred_c ((Kept.below (S := fun _ => False) hW).cell hs (fun e => e)) ((Kept.below (S := fun _ => False) hW).cell hi (fun e => e)) x)
  have HS := Lib.hid (fun (W : World) (hW : Below w.heap.size w W) => h.on hW)
  obtain ⟨n, hnn⟩ : ∃ n, n = l.length := ⟨_, rfl⟩
  have HN := Lib.hid hnn
  rw [← hnn] at hn ⊢
  clear h hs hi hnn
  go_enter Try.func44, Try.ntmps44
  go_wp2_with fail
  go_loopw [8] (fun v8 wr => ∃ k : Nat, k ≤ n ∧ v8 = .int .i64 (k : Int) ∧ Hid (∀ i x, i < k → l[i]? = some x → ¬ (x.src = src ∧ x.sch = sch)) ∧ Hid (Below w.heap.size w wr)) (fun v8 _ => n - (intOf v8).toNat)
  case atStart => exact ⟨0, Nat.zero_le _, rfl, Lib.hid (fun i x hi _ => absurd hi (Nat.not_lt_zero _)), Lib.hid (Below.refl _ _)⟩
  case round =>
    obtain ⟨k, hk, rfl, hno, hb⟩ := hrel
    obtain ⟨w3, hw3⟩ : ∃ w3, w3 = wr := ⟨wr, rfl⟩
    subst hw3
    by_cases hkn : k < n
    · have hkn' : (k : Int) < (n : Int) := by omega
      obtain ⟨x, hx⟩ : ∃ x, l[k]? = some x := ⟨l[k]'(by have := HN.out; omega), List.getElem?_eq_getElem _⟩
      obtain ⟨kb, ko, rfl, hc⟩ := kp_cells (HS.out w3 hb.out) rfl hx
      have c0 := hc.c0
      have c1 := hc.c1
      have c2 := hc.c2
      have Q := Lib.hid (HP.out w3 hb.out x)
      have HX := Lib.hid hx
      by_cases hq : x.src = src ∧ x.sch = sch
      · have HQ := Lib.hid hq
        have HD := Lib.hid (decide_eq_true hq)
        obtain ⟨xs, xn, cols, xa, xc⟩ := x
        unfold KP.val at Q
        dsimp only at *
        clear hx hc hq
        go_wp2_with (go_at_call 43; refine Q.out.mono ?_; rintro e w4 ⟨rfl, hb4⟩; rw [HD.out])
        go_ret
        exact ⟨(k : Int), rfl, Lib.hid (Or.inr ⟨k, _, rfl, by have := HN.out; omega, fst_here hno.out HX.out HQ.out⟩), hb.out.trans (hb4.mono hb.out.size)⟩
      · have HQ := Lib.hid hq
        have HD := Lib.hid (decide_eq_false hq)
        obtain ⟨xs, xn, cols, xa, xc⟩ := x
        unfold KP.val at Q
        dsimp only at *
        clear hx hc hq
        go_wp2_with (go_at_call 43; refine Q.out.mono ?_; rintro e w4 ⟨rfl, hb4⟩; rw [HD.out])
        have HB4 := Lib.hid (hb.out.trans (hb4.mono hb.out.size))
        have HNO := Lib.hid (show ∀ i x, i < k + 1 → l[i]? = some x → ¬ (x.src = src ∧ x.sch = sch) from fun i y hi hy => by
          by_cases e : i = k
          · subst e
            rw [HX.out] at hy
            injection hy with hy
            rw [← hy]
            exact HQ.out
          · exact hno.out i y (by omega) hy)
        clear hb4
        go_roundw
        case rel => exact ⟨k + 1, hkn, by go_num, HNO, HB4⟩
        case measure => (simp only [intOf]; omega)
    · have hkn' : ¬ (k : Int) < (n : Int) := by omega
      go_wp2_with fail
      go_ret
      exact ⟨-1, rfl, Lib.hid (Or.inl ⟨rfl, fst_none (fun i x hx => hno.out i x (by have := (List.getElem?_eq_some_iff.1 hx).1; have := HN.out; omega) hx)⟩), hb.out⟩
/-- What columns returns. -/
def ColsIs (G : Nat → Prop) (w : World) (K : List KP) (src : ByteArray) (sch : Int) (e : Ending) : Prop :=
  (fstK K src sch = none ∧ e = .returned (.tuple #[.slice none 0 0, .bool false])) ∨
  ∃ (k : Nat) (x : KP), fstK K src sch = some (k, x) ∧ e = .returned (.tuple #[.slice x.a x.cols.length x.c, .bool true]) ∧ x.ok G w
set_option maxHeartbeats 1000000 in
theorem columns_c {G : Nat → Prop} {w : World} {b : Nat} {c : In.C} {p : IP} {s : In.St} (h : IxAt G w b c p s) (hn : p.K.length ≤ 1000) (src : ByteArray) (sch : Int) :
    Calls Try.prog 31 #[.pointer (some ⟨b, 0, none⟩), .string src, .int .i64 sch] w fun e w' => ColsIs G w' p.K src sch e ∧ Below w.heap.size w w' := by
  obtain ⟨W1, hW1⟩ : ∃ W1, W1 = (w.alloc (.cells #[.string src] 9)).alloc (.cells #[.int .i64 sch] 3) := ⟨_, rfl⟩
  have hb1 : Below w.heap.size w W1 := by rw [hW1]; exact ((Below.refl _ _).alloc (Nat.le_refl _) _).alloc (by simp) _
  have b0 : W1.heap[w.heap.size]? = some (.cells #[.string src] 9 (0, 0)) := by rw [hW1]; exact box_on (box_new w _) (below_new _ _)
  have b1 : W1.heap[w.heap.size + 1]? = some (.cells #[.int .i64 sch] 3 (0, 0)) := by
    have := box_new (w.alloc (.cells #[.string src] 9)) (.cells #[.int .i64 sch] 3)
    rw [← hW1] at this
    simpa using this
  have HI := Lib.hid (h.on hb1)
  have QI := Lib.hid (colsIdx_c HI.out.kn.row hn (bs := w.heap.size) (bn := w.heap.size + 1) (by rw [Lib.cell_of_heap b0]; rfl) (by rw [Lib.cell_of_heap b1]; rfl))
  have HB1 := Lib.hid hb1
  have c6 := HI.out.cells.c6
  have HN := Lib.hid hn
  obtain ⟨n, hnn⟩ : ∃ n, n = p.K.length := ⟨_, rfl⟩
  have HNN := Lib.hid hnn
  rw [← hnn] at QI c6 hn
  clear h hb1 b0 b1 hnn
  go_enter Try.func31, Try.ntmps31
  go_upto_region 1 with fail
  rw [← hW1]
  clear hW1
  go_upto_region 3 with (go_at_call 44; refine QI.out.mono ?_; rintro e w2 ⟨j, rfl, HJ, hb2⟩; have HB2 := Lib.hid hb2; have HI2 := Lib.hid (HI.out.on hb2); have d6 := HI2.out.cells.c6; rw [← HNN.out] at d6; clear hb2 c6)
  have HBB := Lib.hid (HB1.out.trans (HB2.out.mono HB1.out.size))
  rcases HJ.out with ⟨q1, q2⟩ | ⟨k, x, q1, q2, q3⟩
  · have Q2 := Lib.hid q2
    subst q1
    clear q2
    go_wp2_with fail
    go_ret2
    exact ⟨Or.inl ⟨Q2.out, rfl⟩, HBB.out⟩
  · subst q1
    have hg := fst_get q3
    have Q3 := Lib.hid q3
    have hkn : (k : Int) < (n : Int) := by omega
    have hk0 : ¬ (k : Int) < 0 := by omega
    obtain ⟨kb, ko, hka, hc⟩ := kp_cells HI2.out.kn.row rfl hg
    have HOK := Lib.hid (HI2.out.kn.cols x (List.mem_of_getElem? hg))
    have c2 := hc.c2
    rw [hka] at d6
    clear q2 q3 hg hc hka
    go_wp2_with fail
    go_ret2
    exact ⟨Or.inr ⟨k, x, Q3.out, rfl, HOK.out⟩, HBB.out⟩
/-! ### Whether a row fits -/
theorem typed_c (v : V) (x : CP) (w : World) : Calls Try.prog 45 #[.agg #[.int .i64 v.k, .int .i64 v.n, .string ⟨v.s.toArray⟩], .agg #[.string x.nm, .int .i64 x.ty, .string x.un]] w fun e w' => e = .returned (.bool (decide (v.k = x.ty))) ∧ Below w.heap.size w w' := by
  obtain ⟨W1, hW1⟩ : ∃ W1, W1 = (w.alloc (.cells #[.int .i64 v.k, .int .i64 v.n, .string ⟨v.s.toArray⟩] 55)).alloc (.cells #[.string x.nm, .int .i64 x.ty, .string x.un] 50) := ⟨_, rfl⟩
  have hb1 : Below w.heap.size w W1 := by rw [hW1]; exact ((Below.refl _ _).alloc (Nat.le_refl _) _).alloc (by simp) _
  have b0 : W1.heap[w.heap.size]? = some (.cells #[.int .i64 v.k, .int .i64 v.n, .string ⟨v.s.toArray⟩] 55 (0, 0)) := by rw [hW1]; exact box_on (box_new w _) (below_new _ _)
  have b1 : W1.heap[w.heap.size + 1]? = some (.cells #[.string x.nm, .int .i64 x.ty, .string x.un] 50 (0, 0)) := by
    have := box_new (w.alloc (.cells #[.int .i64 v.k, .int .i64 v.n, .string ⟨v.s.toArray⟩] 55)) (.cells #[.string x.nm, .int .i64 x.ty, .string x.un] 50)
    rw [← hW1] at this
    simpa using this
  have c0 : W1.cell? ⟨w.heap.size, 0, none⟩ = some (.int .i64 v.k) := by rw [Lib.cell_of_heap b0]; rfl
  have c1 : W1.cell? ⟨w.heap.size + 1, 1, none⟩ = some (.int .i64 x.ty) := by rw [Lib.cell_of_heap b1]; rfl
  have HB := Lib.hid hb1
  have hq : (v.k == x.ty) = decide (v.k = x.ty) := by rfl
  clear b0 b1 hb1
  obtain ⟨vk, vn, vs⟩ := v
  obtain ⟨nm, ty, un⟩ := x
  dsimp only at *
  generalize decide (vk = ty) = B at *
  go_enter Try.func45, Try.ntmps45
  go_upto_region 1 with fail
  rw [← hW1]
  clear hW1
  go_wp2_with fail
  go_ret
  exact ⟨rfl, HB.out⟩
def ValV (v : V) : List Value := [.int .i64 v.k, .int .i64 v.n, .string ⟨v.s.toArray⟩]
set_option maxHeartbeats 2000000 in
theorem equalFuncI_c {G : Nat → Prop} {w : World} {va : Option Addr} {vc : Nat} {row : List V} (hv : RowV w (.slice va row.length vc) row) {a : Option Addr} {c : Nat} {cols : List CP} (h : Src G w a c cols.length (cpsV cols)) (hn : cols.length ≤ 1000) :
    Calls Try.prog 47 #[.slice va row.length vc, .slice a cols.length c, .func (.func 45) #[] #[]] w fun e w' => e = .returned (.bool (decide (row.map V.k = cols.map CP.ty))) ∧ Below w.heap.size w w' := by
  obtain ⟨hvl, a', c', hve, hvc⟩ := hv
  injection hve with e1 _ e3
  subst e1 e3
  have HV := Lib.hid hvc
  have HS := Lib.hid (fun (W : World) (hW : Below w.heap.size w W) => h.on hW)
  obtain ⟨n, hnn⟩ : ∃ n, n = row.length := ⟨_, rfl⟩
  have HN := Lib.hid hnn
  obtain ⟨m, hmm⟩ : ∃ m, m = cols.length := ⟨_, rfl⟩
  have HM := Lib.hid hmm
  rw [← hnn] at hvl ⊢
  rw [← hmm] at hn ⊢
  clear h hnn hmm hvc
  by_cases hlen : n = m
  · subst hlen
    have hno : ((n : Int) != (n : Int)) = false := by simp
    go_enter Try.func47, Try.ntmps47
    go_wp2_with fail
    go_loopw [17] (fun v17 wr => ∃ k : Nat, k ≤ n ∧ v17 = .int .i64 (k : Int) ∧ Hid (∀ (i : Nat) (v : V) (x : CP), i < k → row[i]? = some v → cols[i]? = some x → v.k = x.ty) ∧ Hid (Below w.heap.size w wr)) (fun v17 _ => n - (intOf v17).toNat)
    case atStart => exact ⟨0, Nat.zero_le _, rfl, Lib.hid (fun i v x hi _ _ => absurd hi (Nat.not_lt_zero _)), Lib.hid (Below.refl _ _)⟩
    case round =>
      obtain ⟨k, hk, rfl, hal, hb⟩ := hrel
      obtain ⟨w3, hw3⟩ : ∃ w3, w3 = wr := ⟨wr, rfl⟩
      subst hw3
      by_cases hkn : k < n
      · have hkn' : (k : Int) < (n : Int) := by omega
        obtain ⟨v, hv⟩ : ∃ v, row[k]? = some v := ⟨row[k]'(by have := HN.out; omega), List.getElem?_eq_getElem _⟩
        obtain ⟨x, hx⟩ : ∃ x, cols[k]? = some x := ⟨cols[k]'(by have := HM.out; omega), List.getElem?_eq_getElem _⟩
        obtain ⟨vb, vo, rfl, hvr⟩ := HV.out (by intro e; rw [e] at hv; simp at hv)
        obtain ⟨v0, v1, v2⟩ := (hvr k v hv).on hb.out (Nat.le_refl _)
        obtain ⟨cb, co, rfl, hc⟩ := cp_cells (HS.out w3 hb.out) rfl hx
        have c0 := hc.c0
        have c1 := hc.c1
        have c2 := hc.c2
        have HVX := Lib.hid (And.intro hv hx)
        obtain ⟨W4, hW4⟩ : ∃ W4, W4 = w3.alloc (.cells #[.int .i64 v.k, .int .i64 v.n, .string ⟨v.s.toArray⟩] 55) := ⟨_, rfl⟩
        have hb4 : Below w3.heap.size w3 W4 := by rw [hW4]; exact below_new w3 _
        have bx4 : W4.heap[w3.heap.size]? = some (.cells #[.int .i64 v.k, .int .i64 v.n, .string ⟨v.s.toArray⟩] 55 (0, 0)) := by rw [hW4]; exact box_new w3 _
        obtain ⟨W5, hW5⟩ : ∃ W5, W5 = W4.alloc (.cells #[.string x.nm, .int .i64 x.ty, .string x.un] 50) := ⟨_, rfl⟩
        have hb5 : Below W4.heap.size W4 W5 := by rw [hW5]; exact below_new W4 _
        have bx5 : W5.heap[W4.heap.size]? = some (.cells #[.string x.nm, .int .i64 x.ty, .string x.un] 50 (0, 0)) := by rw [hW5]; exact box_new W4 _
        have bv5 := box_on bx4 hb5
        have p0 : W5.cell? ⟨w3.heap.size, 0, none⟩ = some (.int .i64 v.k) := by rw [Lib.cell_of_heap bv5]; rfl
        have p1 : W5.cell? ⟨w3.heap.size, 1, none⟩ = some (.int .i64 v.n) := by rw [Lib.cell_of_heap bv5]; rfl
        have p2 : W5.cell? ⟨w3.heap.size, 2, none⟩ = some (.string ⟨v.s.toArray⟩) := by rw [Lib.cell_of_heap bv5]; rfl
        have q0 : W5.cell? ⟨W4.heap.size, 0, none⟩ = some (.string x.nm) := by rw [Lib.cell_of_heap bx5]; rfl
        have q1 : W5.cell? ⟨W4.heap.size, 1, none⟩ = some (.int .i64 x.ty) := by rw [Lib.cell_of_heap bx5]; rfl
        have q2 : W5.cell? ⟨W4.heap.size, 2, none⟩ = some (.string x.un) := by rw [Lib.cell_of_heap bx5]; rfl
        have HB5 := Lib.hid ((hb.out.trans (hb4.mono hb.out.size)).trans (hb5.mono (by have := hb.out.size; have := hb4.size; omega)))
        have d0 := (Kept.below (S := fun _ => False) hb4).cell c0 (fun e => e)
        have d1 := (Kept.below (S := fun _ => False) hb4).cell c1 (fun e => e)
        have d2 := (Kept.below (S := fun _ => False) hb4).cell c2 (fun e => e)
        have Q := Lib.hid (typed_c v x W5)
        obtain ⟨vk, vn, vs⟩ := v
        obtain ⟨nm, ty, un⟩ := x
        dsimp only at *
        clear hv hx hvr hc bx4 bx5 bv5 hb4 hb5 c0 c1 c2
        go_upto_region 6 with fail
        rw [← hW4]
        clear hW4 v0 v1 v2
        go_upto_region 7 with fail
        rw [← hW5]
        clear hW5 d0 d1 d2
        by_cases hq : vk = ty
        · have HD := Lib.hid (decide_eq_true hq)
          have HAL := Lib.hid (show ∀ (i : Nat) (v : V) (x : CP), i < k + 1 → row[i]? = some v → cols[i]? = some x → v.k = x.ty from fun i v x hi h1 h2 => by
            by_cases e : i = k
            · subst e
              obtain ⟨g1, g2⟩ := HVX.out
              rw [g1] at h1
              rw [g2] at h2
              injection h1 with h1
              injection h2 with h2
              rw [← h1, ← h2]
              exact hq
            · exact hal.out i v x (by omega) h1 h2)
          clear hq
          go_wp2_with (go_at_call 45; refine Q.out.mono ?_; rintro e w6 ⟨rfl, hb6⟩; rw [HD.out]; have HB6 := Lib.hid (HB5.out.trans (hb6.mono HB5.out.size)); clear hb6)
          go_roundw
          case rel => exact ⟨k + 1, hkn, by go_num, HAL, HB6⟩
          case measure => (simp only [intOf]; omega)
        · have HD := Lib.hid (decide_eq_false hq)
          have HF := Lib.hid (show decide (row.map V.k = cols.map CP.ty) = false from decide_eq_false (fun f => hq (by
            obtain ⟨g1, g2⟩ := HVX.out
            have f : (row.map V.k)[k]? = (cols.map CP.ty)[k]? := by rw [f]
            rw [List.getElem?_map, List.getElem?_map, g1, g2] at f
            injection f)))
          clear hq
          go_wp2_with (go_at_call 45; refine Q.out.mono ?_; rintro e w6 ⟨rfl, hb6⟩; rw [HD.out]; have HB6 := Lib.hid (HB5.out.trans (hb6.mono HB5.out.size)); clear hb6)
          go_ret
          exact ⟨ret_bool HF.out.symm, HB6.out⟩
      · have hkn' : ¬ (k : Int) < (n : Int) := by omega
        have HF := Lib.hid (show decide (row.map V.k = cols.map CP.ty) = true from decide_eq_true (List.ext_getElem? (fun i => by
          rw [List.getElem?_map, List.getElem?_map]
          have h1 := HN.out
          have h2 := HM.out
          by_cases hi : i < n
          · rw [List.getElem?_eq_getElem (show i < row.length by omega), List.getElem?_eq_getElem (show i < cols.length by omega)]
            exact congrArg some (hal.out i _ _ (by omega) (List.getElem?_eq_getElem (by omega)) (List.getElem?_eq_getElem (by omega)))
          · rw [List.getElem?_eq_none (show row.length ≤ i by omega), List.getElem?_eq_none (show cols.length ≤ i by omega)]
            rfl)))
        go_wp2_with fail
        go_ret
        exact ⟨ret_bool HF.out.symm, hb.out⟩
  · have hno : ((n : Int) != (m : Int)) = true := by simp; omega
    have HF := Lib.hid (show decide (row.map V.k = cols.map CP.ty) = false from decide_eq_false (fun f => by
      have := congrArg List.length f
      rw [List.length_map, List.length_map, ← HN.out, ← HM.out] at this
      exact hlen this))
    go_enter Try.func47, Try.ntmps47
    go_wp2_with fail
    go_ret
    exact ⟨ret_bool HF.out.symm, Below.refl _ _⟩
theorem fits_c {G : Nat → Prop} {w : World} {va : Option Addr} {vc : Nat} {row : List V} (hv : RowV w (.slice va row.length vc) row) {a : Option Addr} {c : Nat} {cols : List CP} (h : Src G w a c cols.length (cpsV cols)) (hn : cols.length ≤ 1000) :
    Calls Try.prog 33 #[.slice va row.length vc, .slice a cols.length c] w fun e w' => e = .returned (.bool (In.fits (cols.map CP.ty) row)) ∧ Below w.heap.size w w' := by
  have QR := Lib.hid (rightRow_c row _ w hv)
  have QE := Lib.hid (fun (W : World) (hW : Below w.heap.size w W) => equalFuncI_c (hv.on hW (Nat.le_refl _)) (h.on hW) hn)
  have hF : In.fits (cols.map CP.ty) row = (rightR row && decide (row.map V.k = cols.map CP.ty)) := rfl
  have HF := Lib.hid hF
  obtain ⟨n, hnn⟩ : ∃ n, n = row.length := ⟨_, rfl⟩
  rw [← hnn] at QR QE ⊢
  obtain ⟨m, hmm⟩ : ∃ m, m = cols.length := ⟨_, rfl⟩
  rw [← hmm] at QE ⊢
  clear hv h hn hF hnn hmm
  cases hr : rightR row with
  | false =>
    have HR := Lib.hid hr
    clear hr
    go_enter Try.func33, Try.ntmps33
    go_wp2_with (go_at_call 46; refine QR.out.mono ?_; rintro e w1 ⟨rfl, hb1⟩; rw [HR.out])
    go_ret
    exact ⟨ret_bool (by rw [HF.out, HR.out]; rfl), hb1⟩
  | true =>
    have HR := Lib.hid hr
    clear hr
    go_enter Try.func33, Try.ntmps33
    go_wp2_with (first | (go_at_call 46; refine QR.out.mono ?_; rintro e w1 ⟨rfl, hb1⟩; rw [HR.out]; have HB1 := Lib.hid hb1; clear hb1) | (go_at_call 47; refine (QE.out w1 HB1.out).mono ?_; rintro e w2 ⟨rfl, hb2⟩))
    go_ret
    exact ⟨ret_bool (by rw [HF.out, HR.out]; rfl), HB1.out.trans (hb2.mono HB1.out.size)⟩
end Go.Proofs.Ytmgpfkckafdbmaa
