/-
  A partition in a heap: thirteen cells, the known columns, the table, the map of counts; what is written lies in two blocks.
-/
import Derived.Test.YtmgpfkckafdbmaaIMap
import Derived.Test.YtmgpfkckafdbmaaIFit
import Derived.Lib.MinMax
namespace Go.Proofs.Ytmgpfkckafdbmaa
set_option maxRecDepth 100000
open Go Go.RowKit Go.Maps

/-! ### Columns -/
structure CP where
  nm : ByteArray
  ty : Int
  un : ByteArray
def CP.cells (x : CP) : List Value := [.string x.nm, .int .i64 x.ty, .string x.un]
def cpsV (l : List CP) : List Value := l.flatMap CP.cells
theorem cpsV_cons (x : CP) (l : List CP) : cpsV (x :: l) = x.cells ++ cpsV l := by simp [cpsV]
theorem cpsV_length (l : List CP) : (cpsV l).length = l.length * 3 := by
  induction l with
  | nil => rfl
  | cons x l ih => rw [cpsV_cons, List.length_append, ih]; simp [CP.cells]; omega
theorem cpsV_one (l : List CP) : ∀ u ∈ cpsV l, u.oneCell' = true := by
  intro u hu
  obtain ⟨x, _, hx⟩ := List.mem_flatMap.1 hu
  simp [CP.cells] at hx
  rcases hx with rfl | rfl | rfl <;> rfl
theorem cpsV_get (l : List CP) : ∀ (k : Nat) (x : CP), l[k]? = some x → ∀ j u, x.cells[j]? = some u → (cpsV l)[k * 3 + j]? = some u := by
  induction l with
  | nil => intro k x h; simp at h
  | cons a l ih =>
    intro k x h j u hu
    have ha : a.cells.length = 3 := rfl
    rw [cpsV_cons]
    cases k with
    | zero =>
      simp at h
      subst h
      rw [Nat.zero_mul, Nat.zero_add, List.getElem?_append_left (List.getElem?_eq_some_iff.1 hu).1]
      exact hu
    | succ k =>
      have := ih k x (by simpa using h) j u hu
      rw [List.getElem?_append_right (by omega), ← this]
      congr 1
      omega
structure KP where
  src : ByteArray
  sch : Int
  cols : List CP
  a : Option Addr
  c : Nat
def KP.cells (x : KP) : List Value := [.string x.src, .int .i64 x.sch, .slice x.a x.cols.length x.c]
def KP.val (x : KP) : Value := .agg #[.string x.src, .int .i64 x.sch, .slice x.a x.cols.length x.c]
def KP.obj (x : KP) : Obj := .cells #[.string x.src, .int .i64 x.sch, .slice x.a x.cols.length x.c] 53 (0, 0)
def kpsV (l : List KP) : List Value := l.flatMap KP.cells
theorem kpsV_cons (x : KP) (l : List KP) : kpsV (x :: l) = x.cells ++ kpsV l := by simp [kpsV]
theorem kpsV_length (l : List KP) : (kpsV l).length = l.length * 3 := by
  induction l with
  | nil => rfl
  | cons x l ih => rw [kpsV_cons, List.length_append, ih]; simp [KP.cells]; omega
theorem kpsV_one (l : List KP) : ∀ u ∈ kpsV l, u.oneCell' = true := by
  intro u hu
  obtain ⟨x, _, hx⟩ := List.mem_flatMap.1 hu
  simp [KP.cells] at hx
  rcases hx with rfl | rfl | rfl <;> rfl
theorem kpsV_get (l : List KP) : ∀ (k : Nat) (x : KP), l[k]? = some x → ∀ j u, x.cells[j]? = some u → (kpsV l)[k * 3 + j]? = some u := by
  induction l with
  | nil => intro k x h; simp at h
  | cons a l ih =>
    intro k x h j u hu
    have ha : a.cells.length = 3 := rfl
    rw [kpsV_cons]
    cases k with
    | zero =>
      simp at h
      subst h
      rw [Nat.zero_mul, Nat.zero_add, List.getElem?_append_left (List.getElem?_eq_some_iff.1 hu).1]
      exact hu
    | succ k =>
      have := ih k x (by simpa using h) j u hu
      rw [List.getElem?_append_right (by omega), ← this]
      congr 1
      omega
theorem kpsV_set (l : List KP) : ∀ (k : Nat) (x y : KP), l[k]? = some x → y.src = x.src → y.sch = x.sch → (kpsV l).set (k * 3 + 2) (.slice y.a y.cols.length y.c) = kpsV (l.set k y) := by
  induction l with
  | nil => intro k x y h; simp at h
  | cons a l ih =>
    intro k x y h h1 h2
    cases k with
    | zero =>
      simp at h
      subst h
      rw [kpsV_cons, List.set_cons_zero, kpsV_cons]
      unfold KP.cells
      rw [h1, h2]
      rfl
    | succ k =>
      rw [List.set_cons_succ, kpsV_cons, kpsV_cons, ← ih k x y (by simpa using h) h1 h2, List.set_append_right _ _ (by simp [KP.cells]; omega)]
      congr 2
      simp [KP.cells]
      omega
def KP.kn (x : KP) : In.Kn := ⟨x.src.data.toList, x.sch, x.cols.map CP.ty⟩
def kns (l : List KP) : List In.Kn := l.map KP.kn
def KP.ok (G : Nat → Prop) (w : World) (x : KP) : Prop := Src G w x.a x.c x.cols.length (cpsV x.cols)
/-- Known columns that can be read. -/
structure Kns (G : Nat → Prop) (w : World) (a : Option Addr) (c : Nat) (l : List KP) : Prop where
  row : Src G w a c l.length (kpsV l)
  cols : ∀ x ∈ l, x.ok G w
theorem Kns.kept {G S : Nat → Prop} {w w' : World} {a : Option Addr} {c : Nat} {l : List KP} (h : Kns G w a c l) (hk : Kept S w w') (hd : ∀ k, k < w.heap.size → G k → ¬ S k) : Kns G w' a c l := ⟨h.row.kept hk hd, fun x hx => (h.cols x hx).kept hk hd⟩
theorem Kns.on {G : Nat → Prop} {w w' : World} {a : Option Addr} {c : Nat} {l : List KP} (h : Kns G w a c l) (hb : Below w.heap.size w w') : Kns G w' a c l := ⟨h.row.on hb, fun x hx => (h.cols x hx).on hb⟩
theorem Kns.mono {G G' : Nat → Prop} {w : World} {a : Option Addr} {c : Nat} {l : List KP} (h : Kns G w a c l) (hg : ∀ k, G k → G' k) : Kns G' w a c l := ⟨h.row.mono' hg, fun x hx => (h.cols x hx).mono' hg⟩
theorem cps_ne {l : List CP} (h : 0 < l.length) : cpsV l ≠ [] := fun e => by
  have := cpsV_length l
  rw [e] at this
  simp at this
  omega
theorem kps_ne {l : List KP} (h : 0 < l.length) : kpsV l ≠ [] := fun e => by
  have := kpsV_length l
  rw [e] at this
  simp at this
  omega
theorem pps_ne {l : List PP} (h : 0 < l.length) : ppsV l ≠ [] := fun e => by
  have := ppsV_length l
  rw [e] at this
  simp at this
  omega
theorem nums_ne {l : List Int} (h : 0 < l.length) : numsV l ≠ [] := fun e => by
  have := numsV_length l
  rw [e] at this
  simp at this
  omega
theorem Kns.monoW {G G' : Nat → Prop} {w : World} {a : Option Addr} {c : Nat} {l : List KP} (h : Kns G w a c l) (hg : ∀ k, k < w.heap.size → G k → G' k) : Kns G' w a c l := ⟨h.row.mono hg kps_ne, fun x hx => (h.cols x hx).mono hg cps_ne⟩
theorem Tb.monoW {G G' : Nat → Prop} {w : World} {a : Option Addr} {c : Nat} {l : List PP} (h : Tb G w a c l) (hg : ∀ k, k < w.heap.size → G k → G' k) : Tb G' w a c l := ⟨h.row.mono hg pps_ne, fun x hx => Src.mono (h.last x hx) hg nums_ne⟩
structure KCells (w : World) (b o : Nat) (x : KP) : Prop where
  c0 : w.cell? ⟨b, o, none⟩ = some (.string x.src)
  c1 : w.cell? ⟨b, o + 1, none⟩ = some (.int .i64 x.sch)
  c2 : w.cell? ⟨b, o + 2, none⟩ = some (.slice x.a x.cols.length x.c)
theorem kp_cells {G : Nat → Prop} {w : World} {a : Option Addr} {c n : Nat} {l : List KP} (h : Src G w a c n (kpsV l)) (hn : n = l.length) {k : Nat} {x : KP} (hx : l[k]? = some x) :
    ∃ b off, a = some ⟨b, off, none⟩ ∧ KCells w b (off + k * 3) x := by
  have hk : k < l.length := (List.getElem?_eq_some_iff.1 hx).1
  obtain ⟨b, off, h1, _, h3⟩ := h.2 (by omega)
  have g0 := h3 _ _ (kpsV_get l k x hx 0 _ rfl)
  have g1 := h3 _ _ (kpsV_get l k x hx 1 _ rfl)
  have g2 := h3 _ _ (kpsV_get l k x hx 2 _ rfl)
  rw [← Nat.add_assoc] at g1 g2
  exact ⟨b, off, h1, g0, g1, g2⟩
structure CCells (w : World) (b o : Nat) (x : CP) : Prop where
  c0 : w.cell? ⟨b, o, none⟩ = some (.string x.nm)
  c1 : w.cell? ⟨b, o + 1, none⟩ = some (.int .i64 x.ty)
  c2 : w.cell? ⟨b, o + 2, none⟩ = some (.string x.un)
theorem cp_cells {G : Nat → Prop} {w : World} {a : Option Addr} {c n : Nat} {l : List CP} (h : Src G w a c n (cpsV l)) (hn : n = l.length) {k : Nat} {x : CP} (hx : l[k]? = some x) :
    ∃ b off, a = some ⟨b, off, none⟩ ∧ CCells w b (off + k * 3) x := by
  have hk : k < l.length := (List.getElem?_eq_some_iff.1 hx).1
  obtain ⟨b, off, h1, _, h3⟩ := h.2 (by omega)
  have g0 := h3 _ _ (cpsV_get l k x hx 0 _ rfl)
  have g1 := h3 _ _ (cpsV_get l k x hx 1 _ rfl)
  have g2 := h3 _ _ (cpsV_get l k x hx 2 _ rfl)
  rw [← Nat.add_assoc] at g1 g2
  exact ⟨b, off, h1, g0, g1, g2⟩
theorem KP.cells3 {w : World} {b : Nat} {x : KP} (h : w.heap[b]? = some x.obj) : KCells w b 0 x := ⟨by rw [Lib.cell_of_heap h]; rfl, by rw [Lib.cell_of_heap h]; rfl, by rw [Lib.cell_of_heap h]; rfl⟩

/-! ### A partition -/
/-- Where a partition's parts lie. -/
structure IP where
  parts : Int
  span : Int
  ka : Option Addr
  kc : Nat
  K : List KP
  ta : Option Addr
  tc : Nat
  T : List PP
  mb : Nat
def ixObj (c : In.C) (p : IP) (s : In.St) : Obj :=
  .cells #[.int .i64 p.parts, .int .i64 c.delay, .int .i64 c.late, .int .i64 c.ahead, .int .i64 c.rate, .int .i64 p.span, .slice p.ka p.K.length p.kc, .int .i64 s.now, .int .i64 s.top, .int .i64 s.next, .int .i64 s.refused, .slice p.ta p.T.length p.tc, .map (some p.mb)] 47 (0, 0)
structure IxAt (G : Nat → Prop) (w : World) (b : Nat) (c : In.C) (p : IP) (s : In.St) : Prop where
  box : w.heap[b]? = some (ixObj c p s)
  kn : Kns G w p.ka p.kc p.K
  tb : Tb G w p.ta p.tc p.T
  tabs : tab p.T = s.tab
  cs : CntAt w p.mb s.cs
  nb : ¬ G b
  nm : ¬ G p.mb
  ne : b ≠ p.mb
/-- The blocks that are written. -/
def InI (b : Nat) (p : IP) (k : Nat) : Prop := k = b ∨ k = p.mb
theorem IxAt.kept {G S : Nat → Prop} {w w' : World} {b : Nat} {c : In.C} {p : IP} {s : In.St} (h : IxAt G w b c p s) (hk : Kept S w w') (hg : ∀ k, k < w.heap.size → G k → ¬ S k) (hn : ∀ k, InI b p k → ¬ S k) : IxAt G w' b c p s :=
  ⟨hk.heap h.box (hn b (Or.inl rfl)), h.kn.kept hk hg, h.tb.kept hk hg, h.tabs, h.cs.kept hk (hn p.mb (Or.inr rfl)), h.nb, h.nm, h.ne⟩
theorem IxAt.on {G : Nat → Prop} {w w' : World} {b : Nat} {c : In.C} {p : IP} {s : In.St} (h : IxAt G w b c p s) (hb : Below w.heap.size w w') : IxAt G w' b c p s := h.kept (Kept.below (S := fun _ => False) hb) (fun _ _ _ e => e) (fun _ _ e => e)
theorem IxAt.lt {G : Nat → Prop} {w : World} {b : Nat} {c : In.C} {p : IP} {s : In.St} (h : IxAt G w b c p s) {k : Nat} (hk : InI b p k) : k < w.heap.size := by
  rcases hk with rfl | rfl
  · exact box_lt h.box
  · exact h.cs.lt
theorem IxAt.z {G : Nat → Prop} {w : World} {b : Nat} {c : In.C} {p : IP} {s : In.St} (h : IxAt G w b c p s) (o : Nat) : w.frozen? ⟨b, o, none⟩ = false := Lib.frozen_of_heap h.box o
/-- The cells of a partition. -/
structure ICells (w : World) (b : Nat) (c : In.C) (p : IP) (s : In.St) : Prop where
  c0 : w.cell? ⟨b, 0, none⟩ = some (.int .i64 p.parts)
  c1 : w.cell? ⟨b, 1, none⟩ = some (.int .i64 c.delay)
  c2 : w.cell? ⟨b, 2, none⟩ = some (.int .i64 c.late)
  c3 : w.cell? ⟨b, 3, none⟩ = some (.int .i64 c.ahead)
  c4 : w.cell? ⟨b, 4, none⟩ = some (.int .i64 c.rate)
  c5 : w.cell? ⟨b, 5, none⟩ = some (.int .i64 p.span)
  c6 : w.cell? ⟨b, 6, none⟩ = some (.slice p.ka p.K.length p.kc)
  c7 : w.cell? ⟨b, 7, none⟩ = some (.int .i64 s.now)
  c8 : w.cell? ⟨b, 8, none⟩ = some (.int .i64 s.top)
  c9 : w.cell? ⟨b, 9, none⟩ = some (.int .i64 s.next)
  c10 : w.cell? ⟨b, 10, none⟩ = some (.int .i64 s.refused)
  c11 : w.cell? ⟨b, 11, none⟩ = some (.slice p.ta p.T.length p.tc)
  c12 : w.cell? ⟨b, 12, none⟩ = some (.map (some p.mb))
theorem ixObj_cells {w : World} {b : Nat} {c : In.C} {p : IP} {s : In.St} (h : w.heap[b]? = some (ixObj c p s)) : ICells w b c p s :=
  ⟨by rw [Lib.cell_of_heap h]; rfl, by rw [Lib.cell_of_heap h]; rfl, by rw [Lib.cell_of_heap h]; rfl, by rw [Lib.cell_of_heap h]; rfl, by rw [Lib.cell_of_heap h]; rfl, by rw [Lib.cell_of_heap h]; rfl, by rw [Lib.cell_of_heap h]; rfl, by rw [Lib.cell_of_heap h]; rfl, by rw [Lib.cell_of_heap h]; rfl, by rw [Lib.cell_of_heap h]; rfl, by rw [Lib.cell_of_heap h]; rfl, by rw [Lib.cell_of_heap h]; rfl, by rw [Lib.cell_of_heap h]; rfl⟩
theorem IxAt.cells {G : Nat → Prop} {w : World} {b : Nat} {c : In.C} {p : IP} {s : In.St} (h : IxAt G w b c p s) : ICells w b c p s := ixObj_cells h.box
theorem IxAt.monoW {G G' : Nat → Prop} {w : World} {b : Nat} {c : In.C} {p : IP} {s : In.St} (h : IxAt G w b c p s) (hg : ∀ k, k < w.heap.size → G k → G' k) (h1 : ¬ G' b) (h2 : ¬ G' p.mb) : IxAt G' w b c p s :=
  ⟨h.box, h.kn.monoW hg, h.tb.monoW hg, h.tabs, h.cs, h1, h2, h.ne⟩
/-! Stores into a partition's cells. -/
section
variable {G : Nat → Prop} {w : World} {b : Nat} {c : In.C} {p : IP} {s : In.St}
theorem IxAt.gset (h : IxAt G w b c p s) (o : Nat) (v : Value) : Kns G (w.setCell ⟨b, o, none⟩ v) p.ka p.kc p.K ∧ Tb G (w.setCell ⟨b, o, none⟩ v) p.ta p.tc p.T ∧ CntAt (w.setCell ⟨b, o, none⟩ v) p.mb s.cs := by
  have hk := Kept.set b o w v
  exact ⟨h.kn.kept hk (fun k _ hG e => h.nb (e ▸ hG)), h.tb.kept hk (fun k _ hG e => h.nb (e ▸ hG)), h.cs.kept hk (fun e => h.ne e.symm)⟩
theorem IxAt.setNow (h : IxAt G w b c p s) (n : Int) : IxAt G (w.setCell ⟨b, 7, none⟩ (.int .i64 n)) b c p { s with now := n } := by
  obtain ⟨h1, h2, h3⟩ := h.gset 7 (.int .i64 n)
  exact ⟨box_set h.box 7 _, h1, h2, h.tabs, h3, h.nb, h.nm, h.ne⟩
theorem IxAt.setTop (h : IxAt G w b c p s) (n : Int) : IxAt G (w.setCell ⟨b, 8, none⟩ (.int .i64 n)) b c p { s with top := n } := by
  obtain ⟨h1, h2, h3⟩ := h.gset 8 (.int .i64 n)
  exact ⟨box_set h.box 8 _, h1, h2, h.tabs, h3, h.nb, h.nm, h.ne⟩
theorem IxAt.setNext (h : IxAt G w b c p s) (n : Int) : IxAt G (w.setCell ⟨b, 9, none⟩ (.int .i64 n)) b c p { s with next := n } := by
  obtain ⟨h1, h2, h3⟩ := h.gset 9 (.int .i64 n)
  exact ⟨box_set h.box 9 _, h1, h2, h.tabs, h3, h.nb, h.nm, h.ne⟩
theorem IxAt.setRefused (h : IxAt G w b c p s) (n : Int) : IxAt G (w.setCell ⟨b, 10, none⟩ (.int .i64 n)) b c p { s with refused := n } := by
  obtain ⟨h1, h2, h3⟩ := h.gset 10 (.int .i64 n)
  exact ⟨box_set h.box 10 _, h1, h2, h.tabs, h3, h.nb, h.nm, h.ne⟩
theorem IxAt.setTab (h : IxAt G w b c p s) {ta : Option Addr} {tc : Nat} {T : List PP} (ht : Tb G w ta tc T) : IxAt G (w.setCell ⟨b, 11, none⟩ (.slice ta T.length tc)) b c { p with ta := ta, tc := tc, T := T } { s with tab := tab T } := by
  obtain ⟨h1, h2, h3⟩ := h.gset 11 (.slice ta T.length tc)
  exact ⟨box_set h.box 11 _, h1, ht.kept (Kept.set b 11 w _) (fun k _ hG e => h.nb (e ▸ hG)), rfl, h3, h.nb, h.nm, h.ne⟩
theorem IxAt.setKnown (h : IxAt G w b c p s) {ka : Option Addr} {kc : Nat} {K : List KP} (ht : Kns G w ka kc K) : IxAt G (w.setCell ⟨b, 6, none⟩ (.slice ka K.length kc)) b c { p with ka := ka, kc := kc, K := K } s := by
  obtain ⟨h1, h2, h3⟩ := h.gset 6 (.slice ka K.length kc)
  exact ⟨box_set h.box 6 _, ht.kept (Kept.set b 6 w _) (fun k _ hG e => h.nb (e ▸ hG)), h2, h.tabs, h3, h.nb, h.nm, h.ne⟩
/-- The map has turned. -/
theorem IxAt.setCs {w' : World} {cs : List (Int × Int)} (h : IxAt G w b c p s) (hk : Kept (fun k => k = p.mb) w w') (hc : CntAt w' p.mb cs) : IxAt G w' b c p { s with cs := cs } :=
  ⟨hk.heap h.box h.ne, h.kn.kept hk (fun _ _ hG e => h.nm (e ▸ hG)), h.tb.kept hk (fun _ _ hG e => h.nm (e ▸ hG)), h.tabs, hc, h.nb, h.nm, h.ne⟩
theorem IxAt.sameCs {cs : List (Int × Int)} (h : IxAt G w b c p s) (hc : ∀ t, In.cnt cs t = In.cnt s.cs t) : IxAt G w b c p { s with cs := cs } :=
  ⟨h.box, h.kn, h.tb, h.tabs, h.cs.same hc, h.nb, h.nm, h.ne⟩
end
end Go.Proofs.Ytmgpfkckafdbmaa
