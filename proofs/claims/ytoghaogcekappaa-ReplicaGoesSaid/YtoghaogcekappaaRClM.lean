/-
  The law's cluster in a heap. Every block has a mark: what may change is marked with whose it is.
-/
import Derived.Test.YtoghaogcekappaaRTwo
import Derived.Test.YtoghaogcekappaaRCluP
namespace Go.Proofs.Ytoghaogcekappaa
set_option maxRecDepth 100000
open Go Go.RowKit Rp

/-- Where a cluster lies. -/
structure CM where
  rb : Nat
  rc : Nat
  ra : Array Value
  sb : Nat
  sc : Nat
  sa : Array Value
  p : Nat → Nat
  lv : Nat → Value
  la : Nat → Option Addr
  lc : Nat → Nat
  xa : Option Addr
  xc : Nat
  ps : List PM
def updN {α : Type} (f : Nat → α) (k : Nat) (v : α) : Nat → α := fun j => if j = k then v else f j
theorem updN_same {α : Type} (f : Nat → α) (k : Nat) (v : α) : updN f k v k = v := if_pos rfl
theorem updN_ne {α : Type} (f : Nat → α) {k j : Nat} (v : α) (h : j ≠ k) : updN f k v j = f j := if_neg h
/-- Entries as the law stores and sends them. -/
def Sml (l : List Rec) : Prop := l.length ≤ 4000 ∧ ∀ x ∈ l, x.d.length ≤ 2000
structure CluIs (w : World) (b : Nat) (t : Nat → Nat) (x : Cl) (m : CM) : Prop where
  box : w.heap[b]? = some (.cells #[.slice (some ⟨m.rb, 0, none⟩) 3 m.rc, .slice (some ⟨m.sb, 0, none⟩) 3 m.sc, .slice m.xa m.ps.length m.xc] 62 (0, 0))
  rbx : w.heap[m.rb]? = some (.cells m.ra 30 (0, 0))
  rce : ∀ k, k < 3 → m.ra[k]? = some (.pointer (some ⟨m.p k, 0, none⟩))
  sbx : w.heap[m.sb]? = some (.cells m.sa 65 (0, 0))
  s0 : ∀ k : Nat, k < 3 → m.sa[k * 4]? = some (.int .i64 (x.hd k).tm)
  s1 : ∀ k : Nat, k < 3 → m.sa[k * 4 + 1]? = some (.int .i64 (x.hd k).vt)
  s2 : ∀ k : Nat, k < 3 → m.sa[k * 4 + 2]? = some (.slice (m.la k) (x.lg k).length (m.lc k))
  s3 : ∀ k : Nat, k < 3 → m.sa[k * 4 + 3]? = some (.int .i64 (x.st k))
  rep : ∀ k : Nat, k < 3 → RepAt w (m.p k) (m.lv k) (x.r k)
  lgs : ∀ k : Nat, k < 3 → Src (fun j => t j = 0) w (m.la k) (m.lc k) (x.lg k).length (recsV (x.lg k))
  sent : MsgRow w 0 (.slice m.xa m.ps.length m.xc) m.ps
  ms : m.ps.map PM.m = x.sent
  ok : ∀ p ∈ m.ps, p.ok (fun j => t j = 0) w
  sml : ∀ p ∈ m.ps, Sml p.m.rs
  tb : t b = 1
  tr : t m.rb = 2
  ts : t m.sb = 3
  tx : ∀ j, (Value.slice m.xa m.ps.length m.xc).ownBlock = some j → t j = 4
  tp : ∀ k : Nat, k < 3 → ∀ j, Own (m.p k) (m.lv k) j → t j = 5 + k
section
variable {w w' : World} {b : Nat} {t : Nat → Nat} {x : Cl} {m : CM}
theorem CluIs.lt (h : CluIs w b t x m) : b < w.heap.size := box_lt h.box
/-- Nothing marked was turned. -/
theorem CluIs.on (h : CluIs w b t x m) (hb : Below w.heap.size w w') : CluIs w' b t x m where
  box := box_on h.box hb
  rbx := box_on h.rbx hb
  rce := h.rce
  sbx := box_on h.sbx hb
  s0 := h.s0
  s1 := h.s1
  s2 := h.s2
  s3 := h.s3
  rep := fun k hk => (h.rep k hk).on hb
  lgs := fun k hk => (h.lgs k hk).on hb
  sent := h.sent.on hb
  ms := h.ms
  ok := fun p hp => (h.ok p hp).on hb
  sml := h.sml
  tb := h.tb
  tr := h.tr
  ts := h.ts
  tx := h.tx
  tp := h.tp
theorem recs_some {l : List Rec} (h : 0 < l.length) : recsV l ≠ [] := fun e => by
  have := recsV_length l
  rw [e] at this
  simp at this
  omega
/-- Marks of blocks that are not there yet are free. -/
theorem CluIs.mark (h : CluIs w b t x m) {t' : Nat → Nat} (ht : ∀ j, j < w.heap.size → t' j = t j) : CluIs w b t' x m where
  box := h.box
  rbx := h.rbx
  rce := h.rce
  sbx := h.sbx
  s0 := h.s0
  s1 := h.s1
  s2 := h.s2
  s3 := h.s3
  rep := h.rep
  lgs := fun k hk => (h.lgs k hk).mono (fun j hj e => (ht j hj).trans e) recs_some
  sent := h.sent
  ms := h.ms
  ok := fun p hp => Src.mono (h.ok p hp) (fun j hj e => (ht j hj).trans e) recs_some
  sml := h.sml
  tb := (ht b h.lt).trans h.tb
  tr := (ht _ (box_lt h.rbx)).trans h.tr
  ts := (ht _ (box_lt h.sbx)).trans h.ts
  tx := fun j e => (ht j (h.sent.lt e)).trans (h.tx j e)
  tp := fun k hk j e => (ht j ((h.rep k hk).own_lt e)).trans (h.tp k hk j e)
/-- What a call leaves: the cluster in its block, marks that are as they were. -/
def Moved (w w' : World) (b : Nat) (t : Nat → Nat) (x : Cl) : Prop := ∃ t' m, (∀ j, j < w.heap.size → t' j = t j) ∧ CluIs w' b t' x m ∧ Kept (fun j => t j ≠ 0 ∧ t j < 8) w w'
theorem CluIs.same (h : CluIs w b t x m) : Moved w w b t x := ⟨t, m, fun _ _ => rfl, h, Kept.refl _ _⟩
theorem Moved.trans {w1 : World} {x' : Cl} {t1 : Nat → Nat} (hk : Kept (fun j => t j ≠ 0 ∧ t j < 8) w w1) (ht : ∀ j, j < w.heap.size → t1 j = t j) (h : Moved w1 w' b t1 x') : Moved w w' b t x' := by
  obtain ⟨t', m', h1, h2, h3⟩ := h
  exact ⟨t', m', fun j hj => (h1 j (Nat.lt_of_lt_of_le hj hk.size)).trans (ht j hj), h2, hk.trans h3 (fun j hj e => by rw [← ht j hj]; exact e)⟩
/-- What of the stored things is turned. -/
theorem CluIs.store (h : CluIs w b t x m) {x' : Cl} {sa' : Array Value} {la' : Nat → Option Addr} {lc' : Nat → Nat} (hk : Kept (fun j => t j = 3) w w') (hb : w'.heap[m.sb]? = some (.cells sa' 65 (0, 0)))
    (h0 : ∀ k : Nat, k < 3 → sa'[k * 4]? = some (.int .i64 (x'.hd k).tm)) (h1 : ∀ k : Nat, k < 3 → sa'[k * 4 + 1]? = some (.int .i64 (x'.hd k).vt)) (h2 : ∀ k : Nat, k < 3 → sa'[k * 4 + 2]? = some (.slice (la' k) (x'.lg k).length (lc' k))) (h3 : ∀ k : Nat, k < 3 → sa'[k * 4 + 3]? = some (.int .i64 (x'.st k)))
    (hr : x'.r = x.r) (hs : x'.sent = x.sent) (hl : ∀ k : Nat, k < 3 → Src (fun j => t j = 0) w' (la' k) (lc' k) (x'.lg k).length (recsV (x'.lg k))) : CluIs w' b t x' { m with sa := sa', la := la', lc := lc' } where
  box := hk.heap h.box (by rw [h.tb]; decide)
  rbx := hk.heap h.rbx (by rw [h.tr]; decide)
  rce := h.rce
  sbx := hb
  s0 := h0
  s1 := h1
  s2 := h2
  s3 := h3
  rep := fun k q => by rw [hr]; exact (h.rep k q).far hk (fun j e e3 => by have := h.tp k q j e; omega)
  lgs := hl
  sent := h.sent.kept hk (fun j e e3 => by have := h.tx j e; omega)
  ms := h.ms.trans hs.symm
  ok := fun p hp => (h.ok p hp).kept hk (fun j _ e e3 => by omega)
  sml := h.sml
  tb := h.tb
  tr := h.tr
  ts := h.ts
  tx := h.tx
  tp := h.tp
/-- A replica in its place. -/
theorem CluIs.place (h : CluIs w b t x m) {k : Nat} (hk3 : k < 3) {r' : R} {p' : Nat} {lv' : Value} {ra' : Array Value} (hk : Kept (fun j => t j = 2 ∨ t j = 5 + k) w w') (hb : w'.heap[m.rb]? = some (.cells ra' 30 (0, 0)))
    (hra : ∀ j, j < 3 → ra'[j]? = some (.pointer (some ⟨updN m.p k p' j, 0, none⟩))) (hr : RepAt w' p' lv' r') (ht : ∀ j, Own p' lv' j → t j = 5 + k) : CluIs w' b t { x with r := upd x.r k r' } { m with ra := ra', p := updN m.p k p', lv := updN m.lv k lv' } where
  box := hk.heap h.box (fun e => by have e : t b = 2 ∨ t b = 5 + k := e; have := h.tb; omega)
  rbx := hb
  rce := hra
  sbx := hk.heap h.sbx (fun e => by have e : t m.sb = 2 ∨ t m.sb = 5 + k := e; have := h.ts; omega)
  s0 := h.s0
  s1 := h.s1
  s2 := h.s2
  s3 := h.s3
  rep := fun i hi => by
    by_cases q : i = k
    · subst q
      show RepAt w' (updN m.p i p' i) (updN m.lv i lv' i) (upd x.r i r' i)
      rw [updN_same, updN_same, upd_same]
      exact hr
    · show RepAt w' (updN m.p k p' i) (updN m.lv k lv' i) (upd x.r k r' i)
      rw [updN_ne _ _ q, updN_ne _ _ q, upd_ne _ _ (show (i : Int) ≠ (k : Int) by omega)]
      exact (h.rep i hi).far hk (fun j e e3 => by have := h.tp i hi j e; omega)
  lgs := fun i hi => (h.lgs i hi).kept hk (fun j _ e e3 => by omega)
  sent := h.sent.kept hk (fun j e e3 => by have := h.tx j e; omega)
  ms := h.ms
  ok := fun p hp => (h.ok p hp).kept hk (fun j _ e e3 => by omega)
  sml := h.sml
  tb := h.tb
  tr := h.tr
  ts := h.ts
  tx := h.tx
  tp := fun i hi j e => by
    by_cases q : i = k
    · subst q
      have e : Own (updN m.p i p' i) (updN m.lv i lv' i) j := e
      rw [updN_same, updN_same] at e
      exact ht j e
    · have e : Own (updN m.p k p' i) (updN m.lv k lv' i) j := e
      rw [updN_ne _ _ q, updN_ne _ _ q] at e
      exact h.tp i hi j e
theorem CluIs.same_p (m : CM) (k : Nat) : ∀ j, m.p j = updN m.p k (m.p k) j := fun j => by
  unfold updN
  split
  · next e => rw [e]
  · rfl
/-- A replica's call. -/
theorem CluIs.did (h : CluIs w b t x m) {k : Nat} (hk3 : k < 3) {r' : R} {v : Value} {o : Out} (hd : Did w w' (m.p k) (m.lv k) r' v o) :
    ∃ t' m', (∀ j, j < w.heap.size → t' j = t j) ∧ CluIs w' b t' { x with r := upd x.r k r' } m' ∧ OutIs (fun j => t' j = 0 ∧ w.heap.size ≤ j) w' v o ∧ Kept (fun j => t j ≠ 0 ∧ t j < 8) w w' ∧ m'.xa = m.xa ∧ m'.xc = m.xc ∧ m'.ps = m.ps := by
  obtain ⟨lv', h1, h2, h3, h4⟩ := hd
  have hlt := (h.rep k hk3).lt
  obtain ⟨t', ht'⟩ : ∃ t' : Nat → Nat, t' = fun j => if j < w.heap.size then t j else if lv'.ownBlock = some j then 5 + k else 0 := ⟨_, rfl⟩
  have e1 : ∀ j, j < w.heap.size → t' j = t j := fun j hj => by rw [ht']; exact if_pos hj
  have e2 : ∀ j, w.heap.size ≤ j → lv'.ownBlock = some j → t' j = 5 + k := fun j hj e => by rw [ht']; show (if j < w.heap.size then _ else _) = _; rw [if_neg (by omega), if_pos e]
  have e3 : ∀ j, w.heap.size ≤ j → lv'.ownBlock ≠ some j → t' j = 0 := fun j hj e => by rw [ht']; show (if j < w.heap.size then _ else _) = _; rw [if_neg (by omega), if_neg e]
  have hm := h.mark e1
  have hkk : Kept (fun j => t' j = 2 ∨ t' j = 5 + k) w w' := h3.mono (fun j hj e => Or.inr (hm.tp k hk3 j e))
  refine ⟨t', _, e1, hm.place hk3 (p' := m.p k) (lv' := lv') hkk (h3.heap h.rbx (fun e => by have := h.tp k hk3 _ e; have := h.tr; omega)) (fun j hj => by rw [← CluIs.same_p]; exact h.rce j hj) h1 (fun j e => ?_), ?_, h3.mono (fun j hj e => by have := h.tp k hk3 j e; omega), rfl, rfl, rfl⟩
  · rcases e with e | e
    · exact hm.tp k hk3 j (Or.inl e)
    · rcases Nat.lt_or_ge j w.heap.size with q | q
      · rcases h2 with e5 | ⟨y, e5, e6⟩
        · exact hm.tp k hk3 j (Or.inr (by rw [← e5]; exact e))
        · rw [e5] at e; injection e with e; omega
      · exact e2 j q e
  · exact h4.mono2 (fun j hj hg => ⟨e3 j hg.1 hg.2, hg.1⟩)
end
/-- What is done with a result, where the replica is already as it is then. -/
def doneY (y : Cl) (i : Int) (o : Out) : Option Cl :=
  if y.st i = 1 then startC y i else
  let x1 : Cl := { y with hd := if o.save = true then upd y.hd i o.h else y.hd, lg := upd y.lg i (put (y.lg i) o) }
  if y.st i = 2 then startC x1 i else some { x1 with sent := x1.sent ++ o.send.take (300 - x1.sent.length) }
theorem doneC_eq (x : Cl) (i : Int) (r' : R) (o : Out) : doneC x i r' o = doneY { x with r := upd x.r i r' } i o := rfl
end Go.Proofs.Ytoghaogcekappaa
