/-
  A law's disk and cell beside blocks that the law keeps; strings that a law holds.
-/
import Derived.Test.YtljgfnglknpfaaaGreatDoorCRel
namespace Go.Proofs.YtljgfnglknpfaaaGreatDoor
set_option maxRecDepth 100000
open Go Go.RowKit Go.Maps Dk

def DF (w0 w : World) (d : Nat) (X : D) (F : Nat → Prop) : Prop := ∃ S, DiskIn w d S X ∧ (∀ k, S k → w0.heap.size ≤ k) ∧ Below w0.heap.size w0 w ∧ ∀ k, F k → ¬ S k ∧ k < w.heap.size
def CF (w0 w : World) (d b : Nat) (f : Int) (X : D) (c : Ck.C) (F : Nat → Prop) : Prop := ∃ S, DiskIn w d S X ∧ CellAt w b d f c ∧ ¬ S b ∧ (∀ k, S k → w0.heap.size ≤ k) ∧ w0.heap.size ≤ b ∧ Below w0.heap.size w0 w ∧ ∀ k, F k → ¬ S k ∧ k ≠ b ∧ k < w.heap.size
/-- The law's own blocks are as they were. -/
abbrev Held (F : Nat → Prop) (w w' : World) : Prop := Kept (fun k => ¬ F k) w w'
theorem CF.toDF {w0 w : World} {d b : Nat} {f : Int} {X : D} {c : Ck.C} {F : Nat → Prop} (h : CF w0 w d b f X c F) : DF w0 w d X F := by
  obtain ⟨S, h1, _, _, h4, _, h6, h7⟩ := h
  exact ⟨S, h1, h4, h6, fun k e => ⟨(h7 k e).1, (h7 k e).2.2⟩⟩
theorem CF.base {w0 w : World} {d b : Nat} {f : Int} {X : D} {c : Ck.C} {F : Nat → Prop} (h : CF w0 w d b f X c F) : Below w0.heap.size w0 w := by
  obtain ⟨S, _, _, _, _, _, h6, _⟩ := h
  exact h6
theorem CF.fewer {w0 w : World} {d b : Nat} {f : Int} {X : D} {c : Ck.C} {F G : Nat → Prop} (h : CF w0 w d b f X c F) (hG : ∀ k, G k → F k) : CF w0 w d b f X c G := by
  obtain ⟨S, h1, h2, h3, h4, h5, h6, h7⟩ := h
  exact ⟨S, h1, h2, h3, h4, h5, h6, fun k e => h7 k (hG k e)⟩
theorem CD.toCF {w0 w : World} {d b : Nat} {f : Int} {X : D} {c : Ck.C} (h : CD w0 w d b f X c) : CF w0 w d b f X c (fun _ => False) := by
  obtain ⟨S, h1, h2, h3, h4, h5, h6⟩ := h
  exact ⟨S, h1, h2, h3, h4, h5, h6, fun _ e => e.elim⟩
theorem CF.toCD {w0 w : World} {d b : Nat} {f : Int} {X : D} {c : Ck.C} {F : Nat → Prop} (h : CF w0 w d b f X c F) : CD w0 w d b f X c := by
  obtain ⟨S, h1, h2, h3, h4, h5, h6, _⟩ := h
  exact ⟨S, h1, h2, h3, h4, h5, h6⟩
/-- Memory that was made since may be among the law's own. -/
theorem CF.below {w0 w w' : World} {d b : Nat} {f : Int} {X : D} {c : Ck.C} {F G : Nat → Prop} (h : CF w0 w d b f X c F) (hb : Below w.heap.size w w') (hG : ∀ k, G k → F k ∨ (w.heap.size ≤ k ∧ k < w'.heap.size)) : CF w0 w' d b f X c G := by
  obtain ⟨S, h1, h2, h3, h4, h5, h6, h7⟩ := h
  have hl := h2.lt
  refine ⟨_, h1.new' hb, h2.kept (Kept.below (S := fun _ => False) hb) (fun e => e), fun e => h3 e.1, fun k e => h4 k e.1, h5, h6.trans (hb.mono h6.size), fun k e => ?_⟩
  rcases hG k e with e | ⟨e1, e2⟩
  · have := h7 k e
    exact ⟨fun e' => this.1 e'.1, this.2.1, Nat.lt_of_lt_of_le this.2.2 hb.size⟩
  · exact ⟨fun e' => absurd e'.2 (Nat.not_lt.2 e1), fun e' => absurd hl (Nat.not_lt.2 (e' ▸ e1)), e2⟩
/-- The law's own blocks turned. -/
theorem CF.turn {w0 w w' : World} {d b : Nat} {f : Int} {X : D} {c : Ck.C} {F G T : Nat → Prop} (h : CF w0 w d b f X c F) (hk : Kept T w w') (hT : ∀ k, k < w.heap.size → T k → F k) (hTl : ∀ k, T k → w0.heap.size ≤ k) (hG : ∀ k, G k → F k ∨ (w.heap.size ≤ k ∧ k < w'.heap.size)) : CF w0 w' d b f X c G := by
  obtain ⟨S, h1, h2, h3, h4, h5, h6, h7⟩ := h
  have hl := h2.lt
  refine ⟨fun k => S k ∧ k < w.heap.size, (h1.mono (fun _ hk hs => ⟨hs, hk⟩)).kept hk (fun k e e' => (h7 k (hT k e.2 e')).1 e.1), h2.kept hk (fun e => (h7 b (hT b hl e)).2.1 rfl), fun e => h3 e.1, fun k e => h4 k e.1, h5, h6.trans (hk.toBelow h6.size hTl), fun k e => ?_⟩
  rcases hG k e with e | ⟨e1, e2⟩
  · have := h7 k e
    exact ⟨fun e' => this.1 e'.1, this.2.1, Nat.lt_of_lt_of_le this.2.2 hk.size⟩
  · exact ⟨fun e' => absurd e'.2 (Nat.not_lt.2 e1), fun e' => absurd hl (Nat.not_lt.2 (e' ▸ e1)), e2⟩

theorem CF.op {w0 w : World} {d b : Nat} {f : Int} {X X' : D} {c : Ck.C} {F : Nat → Prop} (h : CF w0 w d b f X c F) {g : FuncId} {args : Array Value} {r : Ending}
    (hop : ∀ S, DiskIn w d S X → (∀ k, S k → w0.heap.size ≤ k) → Calls Tryz.prog g args w fun e w' => e = r ∧ DiskIn w' d (After S w) X' ∧ Kept S w w') : Calls Tryz.prog g args w fun e w' => e = r ∧ Hid (CF w0 w' d b f X' c F ∧ Held F w w') := by
  obtain ⟨S, h1, h2, h3, h4, h5, h6, h7⟩ := h
  refine (hop S h1 h4).mono ?_
  rintro e w' ⟨he, hd, hk⟩
  have hbl := h2.lt
  refine ⟨he, ⟨_, hd, h2.kept hk h3, fun e => e.elim h3 (fun e => absurd hbl (Nat.not_lt.2 e)), fun k e => e.elim (h4 k) (Nat.le_trans h6.size), h5, h6.trans (hk.toBelow h6.size h4), fun k e => ?_⟩, hk.mono (fun k _ e e' => (h7 k e').1 e)⟩
  have := h7 k e
  exact ⟨fun e' => e'.elim this.1 (fun e' => absurd this.2.2 (Nat.not_lt.2 e')), this.2.1, Nat.lt_of_lt_of_le this.2.2 hk.size⟩
theorem DF.op {w0 w : World} {d : Nat} {X X' : D} {F : Nat → Prop} (h : DF w0 w d X F) {g : FuncId} {args : Array Value} {r : Ending}
    (hop : ∀ S, DiskIn w d S X → (∀ k, S k → w0.heap.size ≤ k) → Calls Tryz.prog g args w fun e w' => e = r ∧ DiskIn w' d (After S w) X' ∧ Kept S w w') : Calls Tryz.prog g args w fun e w' => e = r ∧ Hid (DF w0 w' d X' F ∧ Held F w w') := by
  obtain ⟨S, h1, h4, h6, h7⟩ := h
  refine (hop S h1 h4).mono ?_
  rintro e w' ⟨he, hd, hk⟩
  refine ⟨he, ⟨_, hd, fun k e => e.elim (h4 k) (Nat.le_trans h6.size), h6.trans (hk.toBelow h6.size h4), fun k e => ?_⟩, hk.mono (fun k _ e e' => (h7 k e').1 e)⟩
  have := h7 k e
  exact ⟨fun e' => e'.elim this.1 (fun e' => absurd this.2 (Nat.not_lt.2 e')), Nat.lt_of_lt_of_le this.2 hk.size⟩
theorem df_open {w0 w : World} {d : Nat} {X : D} {F : Nat → Prop} (ht : Tab w0) (h : DF w0 w d X F) (f : Int) (hf : -9223372036854775808 ≤ f ∧ f ≤ 9223372036854775807) {c : Ck.C} (ho : Ck.openM X f = (some c, 0)) :
    Calls Tryz.prog 36 #[.pointer (some ⟨d, 0, none⟩), .int .i64 f] w fun e w' => ∃ b, e = .returned (.tuple #[.pointer (some ⟨b, 0, none⟩), .int .i64 0]) ∧ Hid (CF w0 w' d b f X c F ∧ Held F w w') := by
  obtain ⟨S, h1, h4, h6, h7⟩ := h
  refine (open_c d _ X f hf w h1 (ht.up h6)).mono ?_
  intro e w' hr
  unfold OpenRes at hr
  rw [ho] at hr
  obtain ⟨hb, b, hbl, he, hc⟩ := hr
  refine ⟨b, he, ⟨_, h1.new' hb, hc, fun e => absurd hbl (Nat.not_le.2 e.2), fun k e => h4 k e.1, Nat.le_trans h6.size hbl, h6.trans (hb.mono h6.size), fun k e => ?_⟩, Kept.below hb⟩
  have := h7 k e
  exact ⟨fun e' => this.1 e'.1, by omega, Nat.lt_of_lt_of_le this.2 hb.size⟩
theorem cf_get {w0 w : World} {d b : Nat} {f : Int} {X : D} {c : Ck.C} {F : Nat → Prop} (h : CF w0 w d b f X c F) :
    Calls Tryz.prog 37 #[.pointer (some ⟨b, 0, none⟩)] w fun e w' => e = .returned (.tuple #[.string ⟨c.val.toArray⟩, .bool (c.slot != 0)]) ∧ Hid (CF w0 w' d b f X c F ∧ Held F w w') := by
  refine (cd_get h.toCD).mono ?_
  rintro e w' ⟨rfl, hb⟩
  exact ⟨rfl, h.below hb (fun _ e => Or.inl e), Kept.below hb⟩
theorem cf_set {w0 w : World} {d b : Nat} {f : Int} {X : D} {c : Ck.C} {F : Nat → Prop} (ht : Tab w0) (h : CF w0 w d b f X c F) (hf : -9223372036854775808 ≤ f ∧ f ≤ 9223372036854775807) (s : List UInt8) :
    Calls Tryz.prog 48 #[.pointer (some ⟨b, 0, none⟩), .string ⟨s.toArray⟩] w fun e w' => e = .returned (.int .i64 (Ck.setM X f c s).2.2) ∧ Hid (CF w0 w' d b f (Ck.setM X f c s).1 (Ck.setM X f c s).2.1 F ∧ Held F w w') := by
  obtain ⟨S, h1, h2, h3, h4, h5, h6, h7⟩ := h
  have hl := ht.lt
  refine (set_c b d f c S X s w ⟨h1, h2, h3, ht.up h6, fun e => absurd (h4 _ e) (Nat.not_le.2 hl), fun e => absurd (e ▸ h5) (Nat.not_le.2 hl), hf⟩).mono ?_
  rintro e w' ⟨rfl, g1, g2, g3⟩
  have hbl := h2.lt
  refine ⟨rfl, ⟨_, g1, g2, fun e => e.elim h3 (fun e => absurd hbl (Nat.not_lt.2 e)), fun k e => e.elim (h4 k) (Nat.le_trans h6.size), h5, h6.trans (g3.toBelow h6.size (fun k e => e.elim (h4 k) (fun e => e ▸ h5))), fun k e => ?_⟩, g3.mono (fun k _ e e' => e.elim (h7 k e').1 (h7 k e').2.1)⟩
  have := h7 k e
  exact ⟨fun e' => e'.elim this.1 (fun e' => absurd this.2.2 (Nat.not_lt.2 e')), this.2.1, Nat.lt_of_lt_of_le this.2.2 g3.size⟩
theorem Held.trans {F : Nat → Prop} {a b c : World} (h1 : Held F a b) (h2 : Held F b c) : Held F a c := Kept.trans h1 h2 (fun _ _ e => e)

/-! ### Strings that a law holds -/
def strsV (M : List (List UInt8)) : List Value := M.map fun s => .string ⟨s.toArray⟩
theorem strsV_one (M : List (List UInt8)) : ∀ u ∈ strsV M, u.oneCell' = true := by
  intro u hu
  obtain ⟨s, _, rfl⟩ := List.mem_map.1 hu
  rfl
def Strs (w : World) (v : Value) (M : List (List UInt8)) : Prop := w.ownsRow 0 9 1 v M.length (strsV M)
theorem infoStr5 : (Tryz.prog.info? 9).map (fun i => (i.zero, i.size, i.bytes)) = some (some (.string ⟨#[]⟩), 1, 16) := by kernel_rfl
theorem ba_list {s t : List UInt8} (h : (⟨s.toArray⟩ : ByteArray) = ⟨t.toArray⟩) : s = t := by
  have := congrArg (fun b : ByteArray => b.data.toList) h
  simpa using this
end Go.Proofs.YtljgfnglknpfaaaGreatDoor
