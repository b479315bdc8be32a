/-
  The law's cluster: what is stored of a result, what is sent.
-/
import Derived.Test.YtoghaogcekappaaRStart
namespace Go.Proofs.Ytoghaogcekappaa
set_option maxRecDepth 100000
open Go Go.RowKit Rp

section
variable {w : World} {b : Nat} {t : Nat → Nat} {x : Cl} {m : CM}
/-- Term and vote are stored. -/
theorem CluIs.saved (h : CluIs w b t x m) {k : Nat} (hk : k < 3) (g : Hard) : CluIs ((w.setCell ⟨m.sb, k * 4, none⟩ (Value.int .i64 g.tm)).setCell ⟨m.sb, k * 4 + 1, none⟩ (Value.int .i64 g.vt)) b t { x with hd := upd x.hd k g } { m with sa := (m.sa.setIfInBounds (k * 4) (Value.int .i64 g.tm)).setIfInBounds (k * 4 + 1) (Value.int .i64 g.vt), la := m.la, lc := m.lc } :=
  have hkk : Kept (fun j => j = m.sb) w ((w.setCell ⟨m.sb, k * 4, none⟩ (Value.int .i64 g.tm)).setCell ⟨m.sb, k * 4 + 1, none⟩ (Value.int .i64 g.vt)) := (Kept.set m.sb _ _ _).trans (Kept.set m.sb _ _ _) (fun _ _ e => e)
  h.store (hkk.mono (fun j _ e => by rw [e]; exact h.ts)) (box_set (box_set h.sbx _ _) _ _)
    (fun i hi => by
      by_cases q : i = k
      · subst q
        show _ = some (Value.int .i64 (upd x.hd i g i).tm)
        rw [upd_same]
        exact get_set (get_put (h.s0 i hi)) (by omega)
      · show _ = some (Value.int .i64 (upd x.hd k g i).tm)
        rw [upd_ne _ _ (show (i : Int) ≠ (k : Int) by omega)]
        exact get_set (get_set (h.s0 i hi) (by omega)) (by omega))
    (fun i hi => by
      by_cases q : i = k
      · subst q
        show _ = some (Value.int .i64 (upd x.hd i g i).vt)
        rw [upd_same]
        exact get_put (get_set (h.s1 i hi) (by omega))
      · show _ = some (Value.int .i64 (upd x.hd k g i).vt)
        rw [upd_ne _ _ (show (i : Int) ≠ (k : Int) by omega)]
        exact get_set (get_set (h.s1 i hi) (by omega)) (by omega))
    (fun i hi => get_set (get_set (h.s2 i hi) (by omega)) (by omega)) (fun i hi => get_set (get_set (h.s3 i hi) (by omega)) (by omega)) rfl rfl (fun i hi => (h.lgs i hi).kept hkk (fun j _ e e3 => by rw [e3, h.ts] at e; exact absurd e (by decide)))
/-- Entries are stored. -/
theorem CluIs.logged (h : CluIs w b t x m) {k : Nat} (hk : k < 3) {w2 : World} (hb : Below w.heap.size w w2) {a : Option Addr} {c : Nat} {l : List Rec} (hs : Src (fun j => t j = 0) w2 a c l.length (recsV l)) : CluIs (w2.setCell ⟨m.sb, k * 4 + 2, none⟩ (.slice a l.length c)) b t { x with lg := upd x.lg k l } { m with sa := m.sa.setIfInBounds (k * 4 + 2) (.slice a l.length c), la := updN m.la k a, lc := updN m.lc k c } := by
  have h2 := h.on hb
  have hkk : Kept (fun j => j = m.sb) w2 (w2.setCell ⟨m.sb, k * 4 + 2, none⟩ (.slice a l.length c)) := Kept.set m.sb _ _ _
  refine h2.store (x' := { x with lg := upd x.lg k l }) (hkk.mono (fun j _ e => by rw [e]; exact h.ts)) (box_set h2.sbx _ _) (fun i hi => get_set (h.s0 i hi) (by omega)) (fun i hi => get_set (h.s1 i hi) (by omega)) (fun i hi => ?_) (fun i hi => get_set (h.s3 i hi) (by omega)) rfl rfl (fun i hi => ?_)
  · by_cases q : i = k
    · subst q
      show _ = some (Value.slice (updN m.la i a i) (upd x.lg i l i).length (updN m.lc i c i))
      rw [upd_same, updN_same, updN_same]
      exact get_put (h.s2 i hi)
    · show _ = some (Value.slice (updN m.la k a i) (upd x.lg k l i).length (updN m.lc k c i))
      rw [upd_ne _ _ (show (i : Int) ≠ (k : Int) by omega), updN_ne _ _ q, updN_ne _ _ q]
      exact get_set (h.s2 i hi) (by omega)
  · have hz : ∀ j, j < w2.heap.size → t j = 0 → ¬ j = m.sb := fun j _ e e3 => by rw [e3, h.ts] at e; exact absurd e (by decide)
    by_cases q : i = k
    · subst q
      show Src _ _ (updN m.la i a i) (updN m.lc i c i) (upd x.lg i l i).length (recsV (upd x.lg i l i))
      rw [upd_same, updN_same, updN_same]
      exact hs.kept hkk hz
    · show Src _ _ (updN m.la k a i) (updN m.lc k c i) (upd x.lg k l i).length (recsV (upd x.lg k l i))
      rw [upd_ne _ _ (show (i : Int) ≠ (k : Int) by omega), updN_ne _ _ q, updN_ne _ _ q]
      exact (h2.lgs i hi).kept hkk hz
/-- Other messages are in flight. -/
theorem CluIs.flight (h : CluIs w b t x m) {w2 : World} (hk : Kept (fun j => t j = 4) w w2) {a : Option Addr} {c : Nat} {ps : List PM} (hr : MsgRow w2 0 (.slice a ps.length c) ps) (ht : ∀ j, (Value.slice a ps.length c).ownBlock = some j → t j = 4) (hok : ∀ p ∈ ps, p.ok (fun j => t j = 0) w2) (hsm : ∀ p ∈ ps, Sml p.m.rs) :
    CluIs (w2.setCell ⟨b, 2, none⟩ (.slice a ps.length c)) b t { x with sent := ps.map PM.m } { m with xa := a, xc := c, ps := ps } := by
  have hkk : Kept (fun j => t j = 4 ∨ t j = 1) w (w2.setCell ⟨b, 2, none⟩ (.slice a ps.length c)) := (hk.mono (S' := fun j => t j = 4 ∨ t j = 1) (fun j _ e => Or.inl e)).trans (Kept.set b 2 w2 _) (fun j _ e => Or.inr (by rw [e]; exact h.tb))
  have hk1 : Kept (fun j => j = b) w2 (w2.setCell ⟨b, 2, none⟩ (.slice a ps.length c)) := Kept.set b 2 w2 _
  have hbox : w2.heap[b]? = _ := hk.heap h.box (fun e => by have e : t b = 4 := e; rw [h.tb] at e; exact absurd e (by decide))
  exact
  { box := box_set hbox 2 _
    rbx := hkk.heap h.rbx (fun e => by have e : t m.rb = 4 ∨ t m.rb = 1 := e; have := h.tr; omega)
    rce := h.rce
    sbx := hkk.heap h.sbx (fun e => by have e : t m.sb = 4 ∨ t m.sb = 1 := e; have := h.ts; omega)
    s0 := h.s0, s1 := h.s1, s2 := h.s2, s3 := h.s3
    rep := fun i hi => (h.rep i hi).far hkk (fun j e e3 => by have := h.tp i hi j e; omega)
    lgs := fun i hi => (h.lgs i hi).kept hkk (fun j _ e e3 => by omega)
    sent := hr.kept hk1 (fun j e e3 => by have := ht j e; rw [e3, h.tb] at this; exact absurd this (by decide))
    ms := rfl
    ok := fun p hp => (hok p hp).kept hk1 (fun j _ e e3 => by rw [e3, h.tb] at e; exact absurd e (by decide))
    sml := hsm
    tb := h.tb, tr := h.tr, ts := h.ts, tx := ht, tp := h.tp }
end
/-- Two runs of append, the first one onto an empty slice: entries. -/
structure TwoRec (w : World) (la : Option Addr) (n lc : Nat) (ra : Option Addr) (rn rc : Nat) (l : List Rec) (a1 : Option Addr) (c1 : Nat) (w1 : World) (a2 : Option Addr) (c2 : Nat) (w2 : World) : Prop where
  run1 : (Builtin.append_ #[24, 24] 24 #[.slice (some ⟨w.heap.size, 0, none⟩) 0 0, .slice la n lc]).run Try.prog (w.alloc (.cells #[] 67)) = .ok (.slice a1 n c1) w1
  run2 : (Builtin.append_ #[24, 24] 24 #[.slice a1 n c1, .slice ra rn rc]).run Try.prog w1 = .ok (.slice a2 (n + rn) c2) w2
  row : RecRow w2 w.heap.size (.slice a2 (n + rn) c2) l
  below : Below w.heap.size w w2
  below1 : Below w.heap.size w w1
theorem two_rec {G : Nat → Prop} {w : World} {la : Option Addr} {lc : Nat} {l : List Rec} (h : Src G w la lc l.length (recsV l)) {n : Nat} (hn : n ≤ l.length) (hl : l.length ≤ 40000) {ra : Option Addr} {rc : Nat} {rs : List Rec} (hr : Src G w ra rc rs.length (recsV rs)) (hrl : rs.length ≤ 40000) :
    ∃ a1 c1 w1 a2 c2 w2, TwoRec w la n lc ra rs.length rc (l.take n ++ rs) a1 c1 w1 a2 c2 w2 := by
  have hb0 := below_new w (.cells #[] 67)
  have hnew : RecRow (w.alloc (.cells #[] 67)) w.heap.size (.slice (some ⟨w.heap.size, 0, none⟩) 0 0) [] := World.ownsRow_made w #[] 0 (Nat.le_refl _) (Nat.zero_le _) rfl
  have hf := h.first hn
  have e1 : (l.take n).length = n := by rw [List.length_take]; omega
  obtain ⟨a1, c1, w1, hr1, ho1, _, hk1⟩ := app_recs (w.alloc (.cells #[] 67)) w.heap.size _ [] hnew la lc (l.take n) (by rw [e1]; exact hf.on hb0) (by rw [e1]; simp; omega) (by simp)
  simp only [List.length_nil, Nat.zero_add, List.nil_append] at hr1 ho1
  rw [e1] at hr1 ho1
  have hbel1 : Below w.heap.size w w1 := hb0.trans (hk1.toBelow (by simp) (fun k hk => by simp [Value.ownBlock] at hk; omega))
  obtain ⟨a2, c2, w2, hr2, ho2, _, hk2⟩ := app_recs w1 w.heap.size _ (l.take n) ho1 ra rc rs (hr.on hbel1) (by rw [e1]; omega) hbel1.size
  rw [e1] at hr2 ho2
  exact ⟨a1, c1, w1, a2, c2, w2, hr1, hr2, ho2, hbel1.trans (hk2.toBelow hbel1.size (fun k hk => ho1.above hk)), hbel1⟩
end Go.Proofs.Ytoghaogcekappaa
