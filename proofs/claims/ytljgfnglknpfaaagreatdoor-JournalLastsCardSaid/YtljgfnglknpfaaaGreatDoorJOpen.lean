/-
  journal.Open is what the model says.
-/
import Derived.Test.YtljgfnglknpfaaaGreatDoorJForm
namespace Go.Proofs.YtljgfnglknpfaaaGreatDoor
set_option maxRecDepth 100000
open Go Go.RowKit Go.Maps Dk

theorem openM_cases (X : D) (f : Int) : (∃ c, Ck.openM X f = (some c, 0) ∧ c.val.length ≤ 65536) ∨ ∃ z, z ≠ 0 ∧ Ck.openM X f = (none, z) := by
  unfold Ck.openM Ck.openB
  split
  · exact Or.inr ⟨9, by omega, rfl⟩
  · split
    · split
      · exact Or.inl ⟨_, rfl, by simp⟩
      · split
        · exact Or.inr ⟨2, by omega, rfl⟩
        · split
          · exact Or.inr ⟨2, by omega, rfl⟩
          · next h1 =>
            split
            · exact Or.inr ⟨2, by omega, rfl⟩
            · next h2 =>
              refine Or.inl ⟨_, rfl, ?_⟩
              show ((_ : List UInt8)).length ≤ 65536
              have h3 : ¬ 65536 < Ck.hlen ((X.file f.toNat).now) := fun e => h1 (Or.inr e)
              rw [Decidable.not_not.1 h2]
              omega
    · exact Or.inr ⟨1, by omega, rfl⟩
theorem df_openG {w0 w : World} {d : Nat} {X : D} {F : Nat → Prop} (ht : Tab w0) (h : DF w0 w d X F) (f : Int) (hf : -9223372036854775808 ≤ f ∧ f ≤ 9223372036854775807) :
    Calls Tryz.prog 36 #[.pointer (some ⟨d, 0, none⟩), .int .i64 f] w fun e w' => Held F w w' ∧ ((∃ c b, Ck.openM X f = (some c, 0) ∧ c.val.length ≤ 65536 ∧ e = .returned (.tuple #[.pointer (some ⟨b, 0, none⟩), .int .i64 0]) ∧ CF w0 w' d b f X c F) ∨ ∃ z, z ≠ 0 ∧ Ck.openM X f = (none, z) ∧ e = .returned (.tuple #[.pointer none, .int .i64 z]) ∧ DF w0 w' d X F) := by
  rcases openM_cases X f with ⟨c, ho, hc⟩ | ⟨z, hz, ho⟩
  · refine (df_open ht h f hf ho).mono ?_
    rintro e w' ⟨b, rfl, g⟩
    exact ⟨g.out.2, Or.inl ⟨c, b, ho, hc, rfl, g.out.1⟩⟩
  · obtain ⟨S, h1, h4, h6, h7⟩ := h
    refine (open_c d _ X f hf w h1 (ht.up h6)).mono ?_
    intro e w' hr
    unfold OpenRes at hr
    rw [ho] at hr
    obtain ⟨hb, he⟩ := hr
    exact ⟨Kept.below hb, Or.inr ⟨z, hz, ho, he, DF.below ⟨S, h1, h4, h6, h7⟩ hb (fun _ e => Or.inl e)⟩⟩

/-- Both syncs, and the cell. -/
def settleM (X : D) (f : Int) : D × Option Ck.C × Int :=
  let a := X.sync f
  if a.2 ≠ 0 then (a.1, none, a.2) else
  let b := a.1.sync (f + 1)
  if b.2 ≠ 0 then (b.1, none, b.2) else (b.1, Ck.openM b.1 (f + 1))
def SettlePost (w0 w : World) (d : Nat) (f : Int) (F : Nat → Prop) (r : D × Option Ck.C × Int) (e : Ending) (w' : World) : Prop :=
  Held F w w' ∧ ((∃ c cb, r.2 = (some c, 0) ∧ c.val.length ≤ 65536 ∧ r.1.down = false ∧ e = .returned (.tuple #[.pointer (some ⟨cb, 0, none⟩), .int .i64 0]) ∧ CF w0 w' d cb (f + 1) r.1 c F) ∨ (∃ z, z ≠ 0 ∧ r.2 = (none, z) ∧ e = .returned (.tuple #[.pointer none, .int .i64 z]) ∧ DF w0 w' d r.1 F))
theorem df_sync {w0 w : World} {d : Nat} {X : D} {F : Nat → Prop} (h : DF w0 w d X F) (f : Int) (hf : -9223372036854775808 ≤ f ∧ f ≤ 9223372036854775807) :
    Calls Tryz.prog 35 #[.pointer (some ⟨d, 0, none⟩), .int .i64 f] w fun e w' => e = .returned (.int .i64 (X.sync f).2) ∧ Hid (DF w0 w' d (X.sync f).1 F ∧ Held F w w') := h.op (fun S g _ => sync_c d S X f hf w g)

set_option maxHeartbeats 1000000 in
theorem settle_c' {w0 w : World} {d : Nat} {X : D} {F : Nat → Prop} (ht : Tab w0) (h : DF w0 w d X F) (f : Int) (hf : 0 ≤ f ∧ f ≤ 14) :
    Calls Tryz.prog 23 #[.pointer (some ⟨d, 0, none⟩), .int .i64 f] w (SettlePost w0 w d f F (settleM X f)) := by
  have q1 := fun w1 (h1 : DF w0 w1 d X F) => df_sync h1 f (by omega)
  have u1 := fun (hz : (X.sync f).2 = 0) => sync_good hz
  obtain ⟨Y1, hY1⟩ : ∃ Y1, Y1 = X.sync f := ⟨_, rfl⟩
  rw [← hY1] at q1 u1
  have q2 := fun w1 (h1 : DF w0 w1 d Y1.1 F) => df_sync h1 (f + 1) (by omega)
  have u2 := fun (hz : (Y1.1.sync (f + 1)).2 = 0) => (sync_good hz)
  obtain ⟨Y2, hY2⟩ : ∃ Y2, Y2 = Y1.1.sync (f + 1) := ⟨_, rfl⟩
  rw [← hY2] at q2 u2
  have q3 := fun w1 (h1 : DF w0 w1 d Y2.1 F) => df_openG ht h1 (f + 1) (by omega)
  have hS : settleM X f = if Y1.2 ≠ 0 then (Y1.1, none, Y1.2) else if Y2.2 ≠ 0 then (Y2.1, none, Y2.2) else (Y2.1, Ck.openM Y2.1 (f + 1)) := by
    unfold settleM
    dsimp only
    rw [← hY1, ← hY2]
  rw [hS]
  have hup : Y2.2 = 0 → Y2.1.down = false := fun hz => by obtain ⟨_, _, _, _, h5, _⟩ := u2 hz; exact h5
  clear hS u1 u2 hY1 hY2
  obtain ⟨Z1, r1⟩ := Y1
  obtain ⟨Z2, r2⟩ := Y2
  dsimp only at q1 q2 q3 hup ⊢
  have Q1 := Lib.hid q1
  have Q2 := Lib.hid q2
  have Q3 := Lib.hid q3
  have UP := Lib.hid hup
  have H := Lib.hid h
  clear q1 q2 q3 h hup
  have ix0 : ∀ W : World, (Instr.index 79 (.agg #[.int .i64 f, .int .i64 (f + 1)]) (.int .i64 0)).run Tryz.prog W = .ok (.int .i64 f) W := fun W => by kernel_rfl
  have ix1 : ∀ W : World, (Instr.index 79 (.agg #[.int .i64 f, .int .i64 (f + 1)]) (.int .i64 1)).run Tryz.prog W = .ok (.int .i64 (f + 1)) W := fun W => by kernel_rfl
  by_cases h1 : r1 = 0
  · subst h1
    by_cases h2 : r2 = 0
    · subst h2
      go_enter Tryz.func23, Tryz.ntmps23
      go_wp2_with fail
      go_loopw [13] (fun v13 wr => (v13 = .int .i64 0 ∧ Hid (DF w0 wr d X F ∧ Held F w wr)) ∨ (v13 = .int .i64 1 ∧ Hid (DF w0 wr d Z1 F ∧ Held F w wr)) ∨ (v13 = .int .i64 2 ∧ Hid (DF w0 wr d Z2 F ∧ Held F w wr))) (fun v13 _ => 2 - (intOf v13).toNat)
      case atStart => exact Or.inl ⟨rfl, H.out, Held.refl _ _⟩
      case round =>
        rcases hrel with ⟨rfl, HW⟩ | ⟨rfl, HW⟩ | ⟨rfl, HW⟩
        · go_wp2_with (go_at_call 35; refine (Q1.out _ HW.out.1).mono ?_; rintro e w1 ⟨rfl, hp⟩)
          go_roundw
          case rel => exact Or.inr (Or.inl ⟨rfl, hp.out.1, HW.out.2.trans hp.out.2⟩)
          case measure => simp [intOf]
        · go_wp2_with (go_at_call 35; refine (Q2.out _ HW.out.1).mono ?_; rintro e w1 ⟨rfl, hp⟩)
          go_roundw
          case rel => exact Or.inr (Or.inr ⟨rfl, hp.out.1, HW.out.2.trans hp.out.2⟩)
          case measure => simp [intOf]
        · go_wp2_with fail
          refine (Q3.out _ HW.out.1).mono ?_
          rintro e w1 ⟨hk, ⟨c, b, ho, hcl, rfl, hcf⟩ | ⟨z, hz, ho, rfl, hdf⟩⟩
          · have R := Lib.hid hcf
            have HO := Lib.hid ho
            clear hcf ho
            go_wp2_with fail
            go_ret2
            exact ⟨HW.out.2.trans hk, Or.inl ⟨c, b, by simp [HO.out], hcl, by simp [UP.out], rfl, by simpa using R.out⟩⟩
          · have R := Lib.hid hdf
            have HO := Lib.hid ho
            clear hdf ho
            go_wp2_with fail
            go_ret2
            exact ⟨HW.out.2.trans hk, Or.inr ⟨z, hz, by simp [HO.out], rfl, by simpa using R.out⟩⟩
    · have hb2 : (r2 != 0) = true := by simpa using h2
      have H2 := Lib.hid h2
      clear h2
      go_enter Tryz.func23, Tryz.ntmps23
      go_wp2_with fail
      go_loopw [13] (fun v13 wr => (v13 = .int .i64 0 ∧ Hid (DF w0 wr d X F ∧ Held F w wr)) ∨ (v13 = .int .i64 1 ∧ Hid (DF w0 wr d Z1 F ∧ Held F w wr))) (fun v13 _ => 2 - (intOf v13).toNat)
      case atStart => exact Or.inl ⟨rfl, H.out, Held.refl _ _⟩
      case round =>
        rcases hrel with ⟨rfl, HW⟩ | ⟨rfl, HW⟩
        · go_wp2_with (go_at_call 35; refine (Q1.out _ HW.out.1).mono ?_; rintro e w1 ⟨rfl, hp⟩)
          go_roundw
          case rel => exact Or.inr ⟨rfl, hp.out.1, HW.out.2.trans hp.out.2⟩
          case measure => simp [intOf]
        · go_wp2_with (go_at_call 35; refine (Q2.out _ HW.out.1).mono ?_; rintro e w1 ⟨rfl, hp⟩)
          go_ret2
          exact ⟨HW.out.2.trans hp.out.2, Or.inr ⟨r2, H2.out, by simp, rfl, by simpa [H2.out] using hp.out.1⟩⟩
  · have hb1 : (r1 != 0) = true := by simpa using h1
    have H1 := Lib.hid h1
    clear h1
    go_enter Tryz.func23, Tryz.ntmps23
    go_wp2_with fail
    go_loopw [13] (fun v13 wr => v13 = .int .i64 0 ∧ Hid (DF w0 wr d X F ∧ Held F w wr)) (fun v13 _ => 2 - (intOf v13).toNat)
    case atStart => exact ⟨rfl, H.out, Held.refl _ _⟩
    case round =>
      obtain ⟨rfl, HW⟩ := hrel
      go_wp2_with (go_at_call 35; refine (Q1.out _ HW.out.1).mono ?_; rintro e w1 ⟨rfl, hp⟩)
      go_ret2
      exact ⟨HW.out.2.trans hp.out.2, Or.inr ⟨r1, H1.out, by simp, rfl, by simpa [H1.out] using hp.out.1⟩⟩

/-! ### What Open makes -/
def openRest (E : D) (f : Int) (c : Ck.C) : Option Jn.J × Int :=
  if c.slot = 0 then (some ⟨c, [], false⟩, 0) else
  match Jn.nums c.val with
  | none => (none, 2)
  | some p =>
    let r := E.read f 0 p.1
    if r.2 ≠ 0 then (none, r.2) else
    if r.1.length < p.1 then (none, 2) else
    match Jn.listOf p.2 r.1 with
    | none => (none, 2)
    | some l => (some ⟨c, l, false⟩, 0)
theorem openJ_rest {X E : D} {f : Int} (hf : 0 ≤ f ∧ f ≤ 14) {c : Ck.C} (h : settleM X f = (E, some c, 0)) : Jn.openJ X f = (E, openRest E f c) := by
  unfold settleM at h
  unfold Jn.openJ
  rw [if_pos hf]
  dsimp only at h ⊢
  by_cases h1 : (X.sync f).2 ≠ 0
  · rw [if_pos h1] at h; injection h with h2 h3; injection h3 with h3; cases h3
  · rw [if_neg h1] at h ⊢
    by_cases h2 : ((X.sync f).1.sync (f + 1)).2 ≠ 0
    · rw [if_pos h2] at h; injection h with h2 h3; injection h3 with h3; cases h3
    · rw [if_neg h2] at h ⊢
      injection h with h3 h4
      rw [h3] at h4 ⊢
      unfold Jn.openC
      rw [h4]
      rfl
theorem openJ_none {X E : D} {f z : Int} (hf : 0 ≤ f ∧ f ≤ 14) (h : settleM X f = (E, none, z)) : Jn.openJ X f = (E, none, z) := by
  unfold settleM at h
  unfold Jn.openJ
  rw [if_pos hf]
  dsimp only at h ⊢
  by_cases h1 : (X.sync f).2 ≠ 0
  · rw [if_pos h1] at h ⊢; injection h with h3 h4; injection h4 with _ h5; rw [h3, h5]
  · rw [if_neg h1] at h ⊢
    by_cases h2 : ((X.sync f).1.sync (f + 1)).2 ≠ 0
    · rw [if_pos h2] at h ⊢; injection h with h3 h4; injection h4 with _ h5; rw [h3, h5]
    · rw [if_neg h2] at h ⊢
      injection h with h3 h4
      rw [h3] at h4 ⊢
      unfold Jn.openC
      rw [h4]
theorem read_up {E : D} (hI : E.Inv) (hd : E.down = false) {f : Int} (hf : 0 ≤ f ∧ f ≤ 14) (n : Nat) : ∃ T : List UInt8, E.read f 0 (n : Int) = (T, 0) ∧ T.length ≤ 16777216 ∧ T.length ≤ n := by
  have ho : ok f = true := by simp [ok]; omega
  refine ⟨_, read_head E f hd ho n, ?_, ?_⟩
  · have := (hI.file f.toNat (by omega)).small
    simp only [List.length_take]
    omega
  · simp only [List.length_take]
    omega
theorem listOf_len {n : Nat} {T : List UInt8} {l : List (List UInt8)} (h : Jn.listOf n T = some l) : T = Jn.form l := by
  unfold Jn.listOf at h
  cases hm : Wire.rMany Wire.rText n T with
  | none => rw [hm] at h; cases h
  | some p =>
    obtain ⟨l', r⟩ := p
    rw [hm] at h
    simp only [Option.bind_some] at h
    by_cases hr : r = []
    · rw [if_pos hr] at h
      injection h with h
      subst h hr
      have := ((Wire.rMany_iff (enc := Wire.eText) (ok := fun s => Wire.InR s.length) Wire.rText_iff n T l' []).1 hm).2.2
      rw [List.append_nil] at this
      exact this
    · rw [if_neg hr] at h; cases h

def openTail (c : Ck.C) (T : List UInt8) (a b : Nat) : Option Jn.J × Int :=
  if T.length < a then (none, 2) else
  match Jn.listOf b T with
  | none => (none, 2)
  | some l => (some ⟨c, l, false⟩, 0)
theorem openTail_short {c : Ck.C} {T : List UInt8} {a b : Nat} (h : T.length < a) : openTail c T a b = (none, 2) := by unfold openTail; rw [if_pos h]
theorem openTail_no {c : Ck.C} {T : List UInt8} {a b : Nat} (h : Jn.listOf b T = none) : openTail c T a b = (none, 2) := by
  unfold openTail
  rw [h]
  split <;> rfl
theorem openTail_ok {c : Ck.C} {T : List UInt8} {a b : Nat} {l : List (List UInt8)} (h0 : ¬ T.length < a) (h : Jn.listOf b T = some l) : openTail c T a b = (some ⟨c, l, false⟩, 0) := by
  unfold openTail
  rw [if_neg h0, h]
def OpenJPost (w0 w : World) (d : Nat) (f : Int) (F : Nat → Prop) (r : D × Option Jn.J × Int) (e : Ending) (w' : World) : Prop :=
  Held F w w' ∧ ((∃ j b, r.2 = (some j, 0) ∧ e = .returned (.tuple #[.pointer (some ⟨b, 0, none⟩), .int .i64 0]) ∧ JF w0 w' d b f r.1 j F) ∨ (∃ z, z ≠ 0 ∧ r.2 = (none, z) ∧ e = .returned (.tuple #[.pointer none, .int .i64 z]) ∧ DF w0 w' d r.1 F))

/-- The journal's block is made. -/
theorem jf_born {w0 w1 w2 w3 : World} {d cb : Nat} {f : Int} {E : D} {c : Ck.C} {F : Nat → Prop} {v : Value} {l : List (List UInt8)} {n : Int} (h : CF w0 w1 d cb (f + 1) E c F) (h12 : RowKit.Below w1.heap.size w1 w2) (h23 : RowKit.Below w2.heap.size w2 w3) (hown : w3.ownsRow w2.heap.size 9 1 v l.length (strsV l)) (hn : n = ((Jn.form l).length : Int)) :
    JF w0 (w3.alloc (.cells #[.pointer (some ⟨d, 0, none⟩), .int .i64 f, .pointer (some ⟨cb, 0, none⟩), v, .int .i64 n, .bool false] 66)) d w3.heap.size f E ⟨c, l, false⟩ F ∧
      Held F w1 (w3.alloc (.cells #[.pointer (some ⟨d, 0, none⟩), .int .i64 f, .pointer (some ⟨cb, 0, none⟩), v, .int .i64 n, .bool false] 66)) := by
  subst hn
  have h0 := h.base.size
  have s1 := h12.size
  have s2 := h23.size
  have ha : RowKit.Below w3.heap.size w3 (w3.alloc (.cells #[.pointer (some ⟨d, 0, none⟩), .int .i64 f, .pointer (some ⟨cb, 0, none⟩), v, .int .i64 ((Jn.form l).length : Int), .bool false] 66)) := (Below.refl _ _).alloc (Nat.le_refl _) _
  have hall : RowKit.Below w1.heap.size w1 (w3.alloc (.cells #[.pointer (some ⟨d, 0, none⟩), .int .i64 f, .pointer (some ⟨cb, 0, none⟩), v, .int .i64 ((Jn.form l).length : Int), .bool false] 66)) := h12.trans ((h23.trans (ha.mono s2)).mono s1)
  have hF : ∀ k, F k → k < w1.heap.size := fun k e => by
    obtain ⟨S, _, _, _, _, _, _, h7⟩ := h
    exact (h7 k e).2.2
  refine ⟨⟨cb, v, ⟨h.below hall (fun k e => ?_), ⟨heap_alloc_new w3 _, own_kept (own_low hown (by omega)) (Kept.below (S := fun _ => False) ha) (fun _ _ e => e), by omega, fun e => by have := (hown.lt _ e).2; omega⟩, fun k e => ?_⟩⟩, Kept.below hall⟩
  · rcases e with e | e | e
    · exact Or.inl e
    · exact Or.inr ⟨by omega, by subst e; simp⟩
    · have := hown.lt _ e
      exact Or.inr ⟨by omega, by simp; omega⟩
  · have := hF k e
    exact ⟨by omega, fun e' => by have := (hown.lt _ e').1; omega⟩

theorem CF.toDF_cell {w0 w : World} {d b : Nat} {f : Int} {X : D} {c : Ck.C} {F : Nat → Prop} (h : CF w0 w d b f X c F) : CellAt w b d f c := by
  obtain ⟨S, _, h2, _⟩ := h
  exact h2
theorem df_read {w0 w : World} {d : Nat} {X : D} {F : Nat → Prop} (h : DF w0 w d X F) (f : Int) (hf : -9223372036854775808 ≤ f ∧ f ≤ 9223372036854775807) (a n : Int) (ha : a ≤ 9223372036854775807) (hn : n ≤ 9223372036854775807) :
    Calls Tryz.prog 25 #[.pointer (some ⟨d, 0, none⟩), .int .i64 f, .int .i64 a, .int .i64 n] w fun e w' => e = .returned (.tuple #[.string ⟨(X.read f a n).1.toArray⟩, .int .i64 (X.read f a n).2]) ∧ w' = w := by
  obtain ⟨S, h1, _⟩ := h
  exact read_c d S X f a n hf ha hn w h1

set_option maxHeartbeats 2000000 in
theorem jopen_c {w0 w : World} {d : Nat} {X : D} {F : Nat → Prop} (ht : Tab w0) (hg : Good w0) (h : DF w0 w d X F) (f : Int) (hf : 0 ≤ f ∧ f ≤ 14) :
    Calls Tryz.prog 9 #[.pointer (some ⟨d, 0, none⟩), .int .i64 f] w (OpenJPost w0 w d f F (Jn.openJ X f)) := by
  have q := settle_c' ht h f hf
  have Q := Lib.hid q
  have HO := Lib.hid (fun (E : D) (c : Ck.C) (hs : settleM X f = (E, some c, 0)) => openJ_rest hf hs)
  have HN := Lib.hid (fun (E : D) (z : Int) (hs : settleM X f = (E, none, z)) => openJ_none hf hs)
  obtain ⟨R, hR⟩ : ∃ R, R = settleM X f := ⟨_, rfl⟩
  rw [← hR] at Q HO HN
  obtain ⟨E, oc, oz⟩ := R
  clear q h hR
  have hf0 : ¬ f < 0 := by omega
  have hf14 : ¬ 14 < f := by omega
  go_enter Tryz.func9, Tryz.ntmps9
  go_wp2_with fail
  refine Q.out.mono ?_
  rintro e w1 ⟨hk1, ⟨c, cb, hs, hcl, hdn, rfl, hcf⟩ | ⟨z, hz, hs, rfl, hdf⟩⟩
  · obtain ⟨rfl, rfl⟩ : oc = some c ∧ oz = 0 := by injection hs with h1 h2; exact ⟨h1, h2⟩
    have hm := HO.out E c rfl
    dsimp only at hcf hdn
    have hg1 : Good w1 := hg.on hcf.base
    have hI : E.Inv := hcf.toDF.inv
    have qn := jnoted_c cb d (f + 1) c hcl w1 hg1 hcf.toDF_cell
    have QN := Lib.hid qn
    have HM := Lib.hid hm
    have HC := Lib.hid hcf
    have HK := Lib.hid hk1
    clear qn hm hcf hk1 hs Q HO HN
    go_wp2_with fail
    refine QN.out.mono ?_
    rintro e w2 ⟨hb2, ⟨h0, rfl⟩ | ⟨h0, a, b, ha, hb, hnum, rfl⟩ | ⟨h0, hnum, a, b, rfl⟩⟩
    · -- no value
      obtain ⟨T, hT, hT1, hT2⟩ := read_up hI hdn hf 0
      have hTe : T = [] := List.eq_nil_of_length_eq_zero (by omega)
      have hTl : ¬ (T.length : Int) < 0 := by omega
      have q3 := df_read (HC.out.toDF.below hb2 (fun _ e => Or.inl e)) f (by omega) 0 0 (by omega) (by omega)
      rw [show E.read f 0 0 = (T, 0) from hT] at q3
      have q4 := jparse_c T 0 hT1 (by omega) w2 (hg1.on hb2)
      have Q3 := Lib.hid q3
      have Q4 := Lib.hid q4
      have HB := Lib.hid hb2
      have HJ := Lib.hid (show Jn.openJ X f = (E, some ⟨c, [], false⟩, 0) by rw [HM.out]; unfold openRest; rw [if_pos h0])
      have HE := Lib.hid hTe
      clear q3 q4 hb2 hT hTe hT2
      go_wp2_with fail
      refine Q3.out.mono ?_
      rintro e w3 ⟨rfl, hw3⟩
      rw [hw3]
      clear hw3
      go_wp2_with fail
      refine Q4.out.mono ?_
      rintro e w4 ⟨hb4, ⟨l, v, hl, rfl, hown⟩ | ⟨hl, _⟩⟩
      · obtain rfl : l = [] := by
          have : Jn.listOf 0 [] = some [] := rfl
          rw [HE.out, this] at hl
          injection hl with hl
          exact hl.symm
        obtain ⟨la, lc, rfl, _, _, _⟩ := own_shape (own_base hown)
        have HO4 := Lib.hid hown
        have HB4 := Lib.hid hb4
        clear hown hb4 hl
        go_wp2_with fail
        go_ret2
        have hb := jf_born HC.out HB.out HB4.out HO4.out (n := 0) rfl
        exact ⟨HK.out.trans hb.2, Or.inl ⟨_, _, by rw [HJ.out], rfl, by rw [HJ.out]; exact hb.1⟩⟩
      · exfalso
        have : Jn.listOf 0 [] = some [] := rfl
        rw [HE.out, this] at hl
        cases hl
    · -- two numbers
      obtain ⟨T, hT, hT1, hT2⟩ := read_up hI hdn hf a
      have q3 := df_read (HC.out.toDF.below hb2 (fun _ e => Or.inl e)) f (by omega) 0 (a : Int) (by omega) ha
      rw [hT] at q3
      have q4 := jparse_c T b hT1 hb w2 (hg1.on hb2)
      have Q3 := Lib.hid q3
      have Q4 := Lib.hid q4
      have HB := Lib.hid hb2
      have HJ := Lib.hid (show Jn.openJ X f = (E, openTail c T a b) by
        rw [HM.out]
        unfold openRest
        rw [if_neg h0, hnum]
        dsimp only
        rw [hT]
        rfl)
      clear q3 q4 hb2 hT hnum
      go_wp2_with fail
      refine Q3.out.mono ?_
      rintro e w3 ⟨rfl, hw3⟩
      rw [hw3]
      clear hw3
      go_wp2_with fail
      refine Q4.out.mono ?_
      rintro e w4 ⟨hb4, ⟨l, v, hl, rfl, hown⟩ | ⟨hl, v, rfl⟩⟩
      · by_cases hlt : T.length < a
        · have hlt' : (T.length : Int) < (a : Int) := by omega
          have HB4 := Lib.hid hb4
          have HL := Lib.hid hlt
          clear hown hb4 hl hlt
          go_wp2_with fail
          go_ret2
          have hb : RowKit.Below w1.heap.size w1 w4 := HB.out.trans (HB4.out.mono HB.out.size)
          exact ⟨HK.out.trans (Kept.below hb), Or.inr ⟨2, by omega, by rw [HJ.out]; exact openTail_short HL.out, rfl, by rw [HJ.out]; exact HC.out.toDF.below hb (fun _ e => Or.inl e)⟩⟩
        · have hlt' : ¬ (T.length : Int) < (a : Int) := by omega
          have HL := Lib.hid hlt
          have HLL := Lib.hid hl
          obtain ⟨la, lc, rfl, _, _, _⟩ := own_shape (own_base hown)
          have HO4 := Lib.hid hown
          have HB4 := Lib.hid hb4
          have hTa : (a : Int) = ((Jn.form l).length : Int) := by rw [← listOf_len hl]; omega
          have HA := Lib.hid hTa
          clear hown hb4 hl hlt hTa
          go_wp2_with fail
          go_ret2
          have hb := jf_born HC.out HB.out HB4.out HO4.out HA.out
          exact ⟨HK.out.trans hb.2, Or.inl ⟨_, _, by rw [HJ.out]; exact openTail_ok HL.out HLL.out, rfl, by rw [HJ.out]; exact hb.1⟩⟩
      · have HB4 := Lib.hid hb4
        have HLL := Lib.hid hl
        clear hb4 hl
        go_wp2_with fail
        go_ret2
        have hb : RowKit.Below w1.heap.size w1 w4 := HB.out.trans (HB4.out.mono HB.out.size)
        exact ⟨HK.out.trans (Kept.below hb), Or.inr ⟨2, by omega, by rw [HJ.out]; exact openTail_no HLL.out, rfl, by rw [HJ.out]; exact HC.out.toDF.below hb (fun _ e => Or.inl e)⟩⟩
    · -- no two numbers
      have HJ := Lib.hid (show Jn.openJ X f = (E, none, 2) by rw [HM.out]; unfold openRest; rw [if_neg h0, hnum])
      have HB := Lib.hid hb2
      clear hb2 hnum
      go_wp2_with fail
      go_ret2
      exact ⟨HK.out.trans (Kept.below HB.out), Or.inr ⟨2, by omega, by rw [HJ.out], rfl, by rw [HJ.out]; exact HC.out.toDF.below HB.out (fun _ e => Or.inl e)⟩⟩
  · obtain ⟨rfl, rfl⟩ : oc = none ∧ oz = z := by injection hs with h1 h2; exact ⟨h1, h2⟩
    have hm := HN.out E _ rfl
    have HM := Lib.hid hm
    have HD := Lib.hid hdf
    have HK := Lib.hid hk1
    have hzb : (oz != 0) = true := by simpa using hz
    have HZ := Lib.hid hz
    clear hm hdf hk1 hs Q HO HN hz
    go_wp2_with fail
    go_ret2
    exact ⟨HK.out, Or.inr ⟨oz, HZ.out, by rw [HM.out], rfl, by rw [HM.out]; exact HD.out⟩⟩
end Go.Proofs.YtljgfnglknpfaaaGreatDoor
