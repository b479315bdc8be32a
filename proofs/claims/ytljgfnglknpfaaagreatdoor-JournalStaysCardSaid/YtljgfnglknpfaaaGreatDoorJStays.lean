/-
  JournalStays: what the law holds between its calls.
-/
import Derived.Test.YtljgfnglknpfaaaGreatDoorJLaw
namespace Go.Proofs.YtljgfnglknpfaaaGreatDoor
set_option maxRecDepth 100000
open Go Go.RowKit Go.Sort Dk

/-- A disk on which a journal can be opened, once it is up; no crash is scheduled. -/
def SD (w0 w : World) (d f : Nat) (F : Nat → Prop) : Prop := ∃ X, X.left = 0 ∧ DF w0 w d X F ∧ ∃ c P, Jn.Two X f c P
/-- Such a disk, and a journal that is open, or none. -/
def SJ (w0 w : World) (d f : Nat) (jv : Value) (F : Nat → Prop) : Prop :=
  (jv = .pointer none ∧ SD w0 w d f F) ∨ ∃ b X j P, jv = .pointer (some ⟨b, 0, none⟩) ∧ X.left = 0 ∧ JF w0 w d b f X j F ∧ Jn.JSt X f j P ∧ (Jn.form j.l).length ≤ 1048576
theorem SJ.base {w0 w : World} {d f : Nat} {jv : Value} {F : Nat → Prop} (h : SJ w0 w d f jv F) : RowKit.Below w0.heap.size w0 w := by
  rcases h with ⟨_, X, _, h1, _⟩ | ⟨b, X, j, P, _, _, h1, _⟩
  · exact h1.base
  · exact h1.base
theorem SD.base {w0 w : World} {d f : Nat} {F : Nat → Prop} (h : SD w0 w d f F) : RowKit.Below w0.heap.size w0 w := by
  obtain ⟨X, _, h1, _⟩ := h
  exact h1.base
theorem SJ.val {w0 w : World} {d f : Nat} {jv : Value} {F : Nat → Prop} (h : SJ w0 w d f jv F) : jv = .pointer none ∨ ∃ b, jv = .pointer (some ⟨b, 0, none⟩) := by
  rcases h with ⟨h, _⟩ | ⟨b, X, j, P, h, _⟩
  · exact Or.inl h
  · exact Or.inr ⟨b, h⟩
theorem SJ.disk {w0 w : World} {d f : Nat} {jv : Value} {F : Nat → Prop} (h : SJ w0 w d f jv F) : SD w0 w d f F := by
  rcases h with ⟨_, h⟩ | ⟨b, X, j, P, _, h0, h1, h2, _⟩
  · exact h
  · exact ⟨X, h0, h1.toDF, j.c, P, h2.two⟩
theorem SJ.jf {w0 w : World} {d f b : Nat} {F : Nat → Prop} (h : SJ w0 w d f (.pointer (some ⟨b, 0, none⟩)) F) : ∃ X j P, X.left = 0 ∧ JF w0 w d b f X j F ∧ Jn.JSt X f j P ∧ (Jn.form j.l).length ≤ 1048576 := by
  rcases h with ⟨h, _⟩ | ⟨b', X, j, P, h, h0, h1, h2, h3⟩
  · cases h
  · injection h with h
    injection h with h
    injection h with h
    subst h
    exact ⟨X, j, P, h0, h1, h2, h3⟩
theorem jst_append {X : D} {f : Nat} {j : Jn.J} {P : List (List UInt8) → Prop} (h : Jn.JSt X f j P) (hf : f < 15) (hl : (Jn.form j.l).length ≤ 1048576) (s : List (List UInt8)) : ∃ P', Jn.JSt (Jn.appendJ X f j s).1 f (Jn.appendJ X f j s).2.1 P' ∧ (Jn.form (Jn.appendJ X f j s).2.1.l).length ≤ 1048576 := by
  have hd := Jn.append_done (s := s) h hf
  rcases hd.code with e | e | e | e | e
  · obtain ⟨g1, g2, g3⟩ := hd.good e
    exact ⟨_, g1, (g1.held hf g3).2.2⟩
  · exact ⟨P, by rw [hd.full (Or.inl e)]; exact h, by rw [hd.full (Or.inl e)]; exact hl⟩
  · exact ⟨P, by rw [hd.full (Or.inr e)]; exact h, by rw [hd.full (Or.inr e)]; exact hl⟩
  · obtain ⟨g1, g2, g3⟩ := hd.fail (Or.inl e)
    exact ⟨_, g1, by rw [g2]; exact hl⟩
  · obtain ⟨g1, g2, g3⟩ := hd.fail (Or.inr e)
    exact ⟨_, g1, by rw [g2]; exact hl⟩
theorem jst_cut {X : D} {f : Nat} {j : Jn.J} {P : List (List UInt8) → Prop} (h : Jn.JSt X f j P) (hf : f < 15) (hl : (Jn.form j.l).length ≤ 1048576) (n : Int) : ∃ P', Jn.JSt (Jn.cutJ X f j n).1 f (Jn.cutJ X f j n).2.1 P' ∧ (Jn.form (Jn.cutJ X f j n).2.1.l).length ≤ 1048576 := by
  have hd := Jn.cut_done (n := n) h hf
  rcases hd.code with e | e | e | e | e
  · obtain ⟨_, g1, g2, g3⟩ := hd.good e
    exact ⟨_, g1, (g1.held hf g3).2.2⟩
  · exact ⟨P, by rw [hd.full (Or.inl e)]; exact h, by rw [hd.full (Or.inl e)]; exact hl⟩
  · exact ⟨P, by rw [hd.full (Or.inr e)]; exact h, by rw [hd.full (Or.inr e)]; exact hl⟩
  · obtain ⟨_, g1, g2, g3⟩ := hd.fail (Or.inl e)
    exact ⟨_, g1, by rw [g2]; exact hl⟩
  · obtain ⟨_, g1, g2, g3⟩ := hd.fail (Or.inr e)
    exact ⟨_, g1, by rw [g2]; exact hl⟩

theorem sj_append {w0 w : World} {d b f : Nat} {F : Nat → Prop} (ht : Tab w0) (hg : Good w0) (h : SJ w0 w d f (.pointer (some ⟨b, 0, none⟩)) F) (hf : f < 15) (v : Value) (s : List (List UInt8)) (ha : ArgIn w0 w F v s) (hx : ∀ x ∈ s, x.length ≤ 1000000000) (hs : s.length ≤ 9223372036854775807) :
    Calls Tryz.prog 12 #[.pointer (some ⟨b, 0, none⟩), v] w fun e w' => ∃ z, e = .returned (.int .i64 z) ∧ Hid (SJ w0 w' d f (.pointer (some ⟨b, 0, none⟩)) F ∧ Held F w w') := by
  obtain ⟨X, j, P, h0, h1, h2, hl⟩ := h.jf
  refine (jappend_c ht hg h1 (by omega) (fun _ => hl) v s ha hx hs).mono ?_
  rintro e w' ⟨rfl, g⟩
  obtain ⟨P', h3, h4⟩ := jst_append h2 hf hl s
  exact ⟨_, rfl, Or.inr ⟨b, _, _, P', rfl, Jn.append_left h0 _ _ _, g.out.1, h3, h4⟩, g.out.2⟩
theorem sj_cut {w0 w : World} {d b f : Nat} {F : Nat → Prop} (ht : Tab w0) (hg : Good w0) (h : SJ w0 w d f (.pointer (some ⟨b, 0, none⟩)) F) (hf : f < 15) (n : Int) :
    Calls Tryz.prog 13 #[.pointer (some ⟨b, 0, none⟩), .int .i64 n] w fun e w' => ∃ z, e = .returned (.int .i64 z) ∧ Hid (SJ w0 w' d f (.pointer (some ⟨b, 0, none⟩)) F ∧ Held F w w') := by
  obtain ⟨X, j, P, h0, h1, h2, hl⟩ := h.jf
  refine (jcut_c ht hg h1 (by omega) (fun _ => hl) n).mono ?_
  rintro e w' ⟨rfl, g⟩
  obtain ⟨P', h3, h4⟩ := jst_cut h2 hf hl n
  exact ⟨_, rfl, Or.inr ⟨b, _, _, P', rfl, Jn.cut_left h0 _ _ _, g.out.1, h3, h4⟩, g.out.2⟩
theorem sj_lose {w0 w : World} {d f : Nat} {jv : Value} {F : Nat → Prop} (h : SJ w0 w d f jv F) (n : Int) (hn : n ≤ 9223372036854775807) :
    Calls Tryz.prog 10 #[.pointer (some ⟨d, 0, none⟩), .int .i64 n] w fun e w' => e = .returned (.tuple #[]) ∧ Hid (SJ w0 w' d f jv F ∧ Held F w w') := by
  rcases h with ⟨rfl, X, h0, h1, c, P, h2⟩ | ⟨b, X, j, P, rfl, h0, h1, h2, h3⟩
  · refine (h1.op (fun S g _ => lose_op n hn S g)).mono ?_
    rintro e w' ⟨rfl, g⟩
    exact ⟨rfl, Or.inl ⟨rfl, X.lose n, h0, g.out.1, c, P, h2.lose n⟩, g.out.2⟩
  · refine (h1.op (fun S g _ => lose_op n hn S g)).mono ?_
    rintro e w' ⟨rfl, g⟩
    exact ⟨rfl, Or.inr ⟨b, X.lose n, j, P, rfl, h0, g.out.1, h2.lose n, h3⟩, g.out.2⟩
theorem sd_crash {w0 w : World} {d f : Nat} {F : Nat → Prop} (h : SD w0 w d f F) (hf : f < 15) {v : Value} {l : List Int} (hk : KeepIn w0 v l) :
    Calls Tryz.prog 18 #[.pointer (some ⟨d, 0, none⟩), v] w fun e w' => e = .returned (.tuple #[]) ∧ Hid (SD w0 w' d f F ∧ Held F w w') := by
  obtain ⟨X, h0, h1, c, P, h2⟩ := h
  refine (h1.op (hk.crash h1.base)).mono ?_
  rintro e w' ⟨rfl, g⟩
  exact ⟨rfl, ⟨X.crash l, Jn.crash_left0 h0 l, g.out.1, c, P, h2.crash hf l⟩, g.out.2⟩
theorem sd_start {w0 w : World} {d f : Nat} {F : Nat → Prop} (h : SD w0 w d f F) (hf : f < 15) :
    Calls Tryz.prog 19 #[.pointer (some ⟨d, 0, none⟩)] w fun e w' => e = .returned (.tuple #[]) ∧ Hid (SD w0 w' d f F ∧ Held F w w') := by
  obtain ⟨X, h0, h1, c, P, h2⟩ := h
  refine (h1.op (fun S g _ => start_op S g)).mono ?_
  rintro e w' ⟨rfl, g⟩
  obtain ⟨c', h3⟩ := h2.start hf
  exact ⟨rfl, ⟨X.start, h0, g.out.1, c', P, h3⟩, g.out.2⟩
theorem sd_open {w0 w : World} {d f : Nat} {F : Nat → Prop} (ht : Tab w0) (hg : Good w0) (h : SD w0 w d f F) (hf : f < 15) :
    Calls Tryz.prog 9 #[.pointer (some ⟨d, 0, none⟩), .int .i64 (f : Int)] w fun e w' => ∃ jv z, e = .returned (.tuple #[jv, .int .i64 z]) ∧ Hid (SJ w0 w' d f jv F ∧ Held F w w') := by
  obtain ⟨X, h0, h1, c, P, h2⟩ := h
  have ho := Jn.open_done h2 hf
  have hl := Jn.open_left h0 (f : Int)
  refine (jopen_c ht hg h1 (f : Int) (by omega)).mono ?_
  obtain ⟨r, hr⟩ : ∃ r, Jn.openJ X f = r := ⟨_, rfl⟩
  rw [hr] at ho hl ⊢
  rintro e w' ⟨hk, ⟨j', b, e1, rfl, h3⟩ | ⟨z, hz, e1, rfl, h3⟩⟩
  · cases ho with
    | good e j g1 g2 g3 g4 =>
      injection e1 with e1 _
      injection e1 with e1
      subst e1
      exact ⟨_, _, rfl, Or.inr ⟨b, _, _, _, rfl, hl, h3, g4, (g4.held hf g3).2.2⟩, hk⟩
    | fail e c' z hz g =>
      injection e1 with e1 _
      cases e1
  · cases ho with
    | good e j g1 g2 g3 g4 =>
      injection e1 with e1 _
      cases e1
    | fail e c' z' hz' g => exact ⟨_, _, rfl, Or.inl ⟨rfl, _, hl, h3, c', P, g⟩, hk⟩

/-- A journal that is sure of its list; no sync is lost, no crash is scheduled. -/
def SW (w0 w : World) (d b f : Nat) (W : List (List UInt8)) (F : Nat → Prop) : Prop := ∃ X j, X.left = 0 ∧ X.lost = 0 ∧ JF w0 w d b f X j F ∧ Jn.JSt X f j (fun m => m = W) ∧ j.l = W ∧ (Jn.form W).length ≤ 1048576
def SWD (w0 w : World) (d f : Nat) (W : List (List UInt8)) (F : Nat → Prop) : Prop := ∃ X c, X.left = 0 ∧ X.lost = 0 ∧ DF w0 w d X F ∧ Jn.Two X f c (fun m => m = W) ∧ (Jn.form W).length ≤ 1048576
theorem crash_lost0 {X : D} (h : X.lost = 0) (l : List Int) : (X.crash l).lost = 0 := by
  unfold D.crash
  split <;> exact h
theorem SW.base {w0 w : World} {d b f : Nat} {W : List (List UInt8)} {F : Nat → Prop} (h : SW w0 w d b f W F) : RowKit.Below w0.heap.size w0 w := by
  obtain ⟨X, j, _, _, h1, _⟩ := h
  exact h1.base
theorem SW.below {w0 w w' : World} {d b f : Nat} {W : List (List UInt8)} {F G : Nat → Prop} (h : SW w0 w d b f W F) (hb : RowKit.Below w.heap.size w w') (hG : ∀ k, G k → F k ∨ (w.heap.size ≤ k ∧ k < w'.heap.size)) : SW w0 w' d b f W G := by
  obtain ⟨X, j, h0, h1, h2, h3⟩ := h
  exact ⟨X, j, h0, h1, h2.below hb hG, h3⟩
theorem sw_crash {w0 w : World} {d b f : Nat} {W : List (List UInt8)} {F : Nat → Prop} (h : SW w0 w d b f W F) (hf : f < 15) {v : Value} {l : List Int} (hk : KeepIn w0 v l) :
    Calls Tryz.prog 18 #[.pointer (some ⟨d, 0, none⟩), v] w fun e w' => e = .returned (.tuple #[]) ∧ Hid (SWD w0 w' d f W F ∧ Held F w w') := by
  obtain ⟨X, j, h0, h1, h2, h3, h4, h5⟩ := h
  refine (h2.toDF.op (hk.crash h2.base)).mono ?_
  rintro e w' ⟨rfl, g⟩
  exact ⟨rfl, ⟨X.crash l, j.c, Jn.crash_left0 h0 l, crash_lost0 h1 l, g.out.1, h3.two.crash hf l, h5⟩, g.out.2⟩
theorem swd_start {w0 w : World} {d f : Nat} {W : List (List UInt8)} {F : Nat → Prop} (h : SWD w0 w d f W F) (hf : f < 15) :
    Calls Tryz.prog 19 #[.pointer (some ⟨d, 0, none⟩)] w fun e w' => e = .returned (.tuple #[]) ∧ Hid ((∃ X c, Jn.Plain X ∧ DF w0 w' d X F ∧ Jn.Two X f c (fun m => m = W) ∧ (Jn.form W).length ≤ 1048576) ∧ Held F w w') := by
  obtain ⟨X, c, h0, h1, h2, h3, h4⟩ := h
  refine (h2.op (fun S g _ => start_op S g)).mono ?_
  rintro e w' ⟨rfl, g⟩
  obtain ⟨c', h5⟩ := h3.start hf
  exact ⟨rfl, ⟨X.start, c', ⟨rfl, h0, h1⟩, g.out.1, h5, h4⟩, g.out.2⟩
theorem swd_open {w0 w : World} {d f : Nat} {W : List (List UInt8)} {F : Nat → Prop} (ht : Tab w0) (hg : Good w0) (h : ∃ X c, Jn.Plain X ∧ DF w0 w d X F ∧ Jn.Two X f c (fun m => m = W) ∧ (Jn.form W).length ≤ 1048576) (hf : f < 15) :
    Calls Tryz.prog 9 #[.pointer (some ⟨d, 0, none⟩), .int .i64 (f : Int)] w fun e w' => ∃ b, e = .returned (.tuple #[.pointer (some ⟨b, 0, none⟩), .int .i64 0]) ∧ Hid (SW w0 w' d b f W F ∧ Held F w w') := by
  obtain ⟨X, c, h0, h1, h2, h3⟩ := h
  obtain ⟨e, j, ho, hp, hW, hb, hst⟩ := Jn.open_plain h2 hf h0
  have q := jopen_c ht hg h1 (f : Int) (by omega)
  rw [ho] at q
  refine q.mono ?_
  rintro r w' ⟨hk, ⟨j', b, e1, rfl, g⟩ | ⟨z, hz, e1, _⟩⟩
  · injection e1 with e1 _
    injection e1 with e1
    subst e1
    exact ⟨b, rfl, ⟨e, j, hp.left, hp.lost, g, by rw [hW] at hst; exact hst, hW, h3⟩, hk⟩
  · injection e1 with e1 _
    cases e1
theorem sw_all {w0 w : World} {d b f : Nat} {W : List (List UInt8)} {F : Nat → Prop} (h : SW w0 w d b f W F) :
    Calls Tryz.prog 16 #[.pointer (some ⟨b, 0, none⟩)] w fun e w' => ∃ a c, e = .returned (.slice a W.length c) ∧ Hid (w'.ownsRow w.heap.size 9 1 (.slice a W.length c) W.length (strsV W) ∧ RowKit.Below w.heap.size w w') := by
  obtain ⟨X, j, h0, h1, h2, h3, h4, h5⟩ := h
  have hl := (Jn.form_len W).1
  refine (jall_c h2 (by rw [h4]; omega)).mono ?_
  rintro e w' ⟨v, rfl, hown, hb⟩
  rw [h4] at hown
  obtain ⟨a, c, rfl, _⟩ := own_shape (own_base hown)
  exact ⟨a, c, rfl, hown, hb⟩
theorem ArgIn.came' {w0 w : World} {v : Value} {s : List (List UInt8)} (h : SrcV w0 1 v s.length (strsV s)) (hb : RowKit.Below w0.heap.size w0 w) (F : Nat → Prop) : ArgIn w0 w F v s := ⟨h.on hb, (ArgIn.came h F).low⟩
/-- 'append(before, s...)' -/
theorem want_run {w0 w : World} {d b f : Nat} {X : D} {j : Jn.J} {la : Option Addr} {lc : Nat} {B : List (List UInt8)} (h : JF w0 w d b f X j (fun k => (Value.slice la B.length lc).ownBlock = some k)) (hown : w.ownsRow w0.heap.size 9 1 (.slice la B.length lc) B.length (strsV B)) {va : Option Addr} {vc : Nat} {s : List (List UInt8)} (hv : SrcV w 1 (.slice va s.length vc) s.length (strsV s)) (hlen : B.length + s.length ≤ 1048576) :
    ∃ na nc N w2, N = (B ++ s).length ∧ (Builtin.append_ #[32, 32] 32 #[.slice la B.length lc, .slice va s.length vc]).run Tryz.prog w = .ok (.slice na N nc) w2 ∧ w2.ownsRow w0.heap.size 9 1 (.slice na N nc) N (strsV (B ++ s)) ∧ JF w0 w2 d b f X j (fun k => (Value.slice na N nc).ownBlock = some k) := by
  obtain ⟨i0, hi, hz0, hz1, hz2⟩ := info_parts infoStr5
  obtain ⟨a', c', h1, h2, h3, h4⟩ := hv
  injection h1 with e1 e2 e3
  subst e1 e3
  obtain ⟨v', w2, r1, r2, r3, r4⟩ := run_append_any_own (P := Tryz.prog) w w0.heap.size 32 32 9 i0 (.string ⟨#[]⟩) 1 16 Tryz.underlying32 hi hz0 hz1 hz2 rfl (by decide) (.slice la B.length lc) B.length (strsV B) hown
    va s.length vc (strsV s) h2 (fun h0 => by
      cases va with
      | none => have := h3 rfl; omega
      | some ad => exact ⟨ad, rfl, h4 ad rfl⟩) (strsV_one s) (by unfold maxLen; omega) (by omega) h.base.size
  have e : strsV (B ++ s) = strsV B ++ strsV s := by simp [strsV]
  have hk : Kept (fun k => (Value.slice la B.length lc).ownBlock = some k) w w2 := Kept.grown r3 (fun _ e => e)
  have hj := h.turn (G := fun k => v'.ownBlock = some k) hk (fun k _ e => e) (fun k e => (hown.lt k e).1) (fun k e => by
    rcases r4 with r4 | r4
    · rw [r4] at e; exact Or.inl e
    · rw [r4] at e
      injection e with e
      subst e
      exact Or.inr ⟨Nat.le_refl _, (r2.lt _ r4).2⟩)
  obtain ⟨na, nc, rfl, _⟩ := own_shape (own_base r2)
  refine ⟨na, nc, B.length + s.length, w2, by simp, r1, ?_, hj⟩
  rw [e]
  exact r2
end Go.Proofs.YtljgfnglknpfaaaGreatDoor
