/-
  IntakeOnce: the records that are accepted, in a slice of the law's; what stands at the head of its loops.
-/
import Derived.Test.YtmgpfkckafdbmaaIFinalM
import Derived.Test.YtmgpfkckafdbmaaIOnce
namespace Go.Proofs.Ytmgpfkckafdbmaa
set_option maxRecDepth 100000
open Go Go.RowKit Vl Go.Sort Go.ChangeShapes Go.WideShapes Go.ChangeAt

def entsV (l : List EIn) : List Value := l.flatMap (fun x => x.e.list)
theorem entsV_cons (x : EIn) (l : List EIn) : entsV (x :: l) = x.e.list ++ entsV l := by simp [entsV]
theorem entsV_length (l : List EIn) : (entsV l).length = l.length * 8 := by
  induction l with
  | nil => rfl
  | cons x l ih => rw [entsV_cons, List.length_append, ih]; simp [EE.list]; omega
theorem entsV_one (l : List EIn) : ∀ u ∈ entsV l, u.oneCell' = true := by
  intro u hu
  obtain ⟨x, _, hx⟩ := List.mem_flatMap.1 hu
  simp [EE.list] at hx
  rcases hx with rfl | rfl | rfl | rfl | rfl | rfl | rfl | rfl <;> rfl
theorem entsV_get (l : List EIn) : ∀ (k : Nat) (x : EIn), l[k]? = some x → ∀ j u, x.e.list[j]? = some u → (entsV l)[k * 8 + j]? = some u := by
  induction l with
  | nil => intro k x h; simp at h
  | cons a l ih =>
    intro k x h j u hu
    have ha : a.e.list.length = 8 := rfl
    rw [entsV_cons]
    cases k with
    | zero =>
      simp at h
      subst h
      rw [Nat.zero_mul, Nat.zero_add, List.getElem?_append_left (List.getElem?_eq_some_iff.1 hu).1]
      exact hu
    | succ k =>
      have := ih k x (by simpa using h) j u hu
      rw [List.getElem?_append_right (by omega), ← this]
      congr 1
      omega
theorem infoEnt : (Try.prog.info? 39).map (fun i => (i.zero, i.size, i.bytes)) = some (some (.agg #[.int .i64 0, .int .i64 0, .int .i64 0, .int .i64 0, .string ⟨#[]⟩, .int .i64 0, .int .i64 0, .slice none 0 0]), 8, 88) := by kernel_rfl
/-- One more record. -/
theorem app_ent (w : World) (base : Nat) (v : Value) (l : List EIn) (x : EIn) (B : Nat) (hB : w.heap[B]? = some x.e.obj) (h : w.ownsRow base 39 8 v l.length (entsV l)) (hl : l.length ≤ 100000) (hb : base ≤ w.heap.size) :
    ∃ a c w', (Builtin.append_ #[24, 24] 24 #[v, .slice (some ⟨B, 0, none⟩) 1 1]).run Try.prog w = .ok (.slice a (l.length + 1) c) w' ∧
      w'.ownsRow base 39 8 (.slice a (l ++ [x]).length c) (l ++ [x]).length (entsV (l ++ [x])) ∧ ((Value.slice a (l ++ [x]).length c).ownBlock = v.ownBlock ∨ (Value.slice a (l ++ [x]).length c).ownBlock = some w.heap.size) ∧ Kept (fun k => v.ownBlock = some k) w w' := by
  obtain ⟨i0, hi0, hz0, hz1, hz2⟩ := info_partsI infoEnt
  have hx : entsV [x] = x.e.list := by simp [entsV]
  obtain ⟨v5, w5, hr, hown5, hgr5, hbl5⟩ := run_append_any_own (P := Try.prog) w base 24 24 39 i0 _ 8 88 Try.underlying24 hi0 hz0 hz1 hz2 rfl (by decide) v l.length (entsV l) h
    (some ⟨B, 0, none⟩) 1 1 (entsV [x]) (by rw [entsV_length]; rfl) (fun _ => ⟨_, rfl, fun j u hu => by
      rw [Lib.add_plain, Nat.zero_add]
      rw [hx] at hu
      exact cell_block (cs := x.e.list) hB hu⟩) (entsV_one _) (by unfold maxLen; omega) (by omega) hb
  obtain ⟨a, c, rfl, _⟩ := own_shape (own_base hown5)
  have hlen : (l ++ [x]).length = l.length + 1 := by rw [List.length_append, List.length_singleton]
  have happ : entsV (l ++ [x]) = entsV l ++ entsV [x] := List.flatMap_append
  refine ⟨a, c, w5, hr, ?_, ?_, Kept.grown hgr5 (fun k e => e)⟩
  · rw [hlen, happ]
    exact hown5
  · rw [hlen]
    exact hbl5
/-- The cells of a record that is owned. -/
theorem ent_cells {w : World} {base n c : Nat} {ta : Option Addr} {l : List EIn} (h : w.ownsRow base 39 8 (.slice ta n c) n (entsV l)) {k : Nat} {x : EIn} (hx : l[k]? = some x) : ∃ g, ta = some ⟨g, 0, none⟩ ∧ EAt w g (k * 8) x.e := by
  have hn : 0 < n := by
    have h1 := h.1
    rw [entsV_length] at h1
    have := (List.getElem?_eq_some_iff.1 hx).1
    omega
  have hb := own_base h
  obtain ⟨g, hg⟩ : ∃ g, ta = some ⟨g, 0, none⟩ := by
    rcases hb.2 with ⟨e, h0⟩ | ⟨g, cap, cur, e, _⟩
    · omega
    · injection e with e
      exact ⟨g, e⟩
  have key : ∀ j u, x.e.list[j]? = some u → w.cell? ⟨g, k * 8 + j, none⟩ = some u := fun j u hu => by
    have := own_cell_size hb (by rw [hg]) _ _ (entsV_get l k x hx j u hu)
    rwa [Lib.add_plain, Nat.zero_add] at this
  exact ⟨g, hg, key 0 _ rfl, key 1 _ rfl, key 2 _ rfl, key 3 _ rfl, key 4 _ rfl, key 5 _ rfl, key 6 _ rfl, key 7 _ rfl⟩
structure OncIs (w wr : World) (x : Cfg) (b mb : Nat) (p : IP) (s : In.St) (ts : List EIn) (ta : Option Addr) (tc : Nat) (i : Nat) : Prop where
  hold : HoldI (Fb b mb (.slice ta ts.length tc)) w wr b x.c p s ks0
  mbe : p.mb = mb
  box : wr.heap[w.heap.size]? = some x.obj
  nB : w.heap.size ≠ b ∧ w.heap.size ≠ mb
  row : wr.ownsRow w.heap.size 39 8 (.slice ta ts.length tc) ts.length (entsV ts)
  rb : ∀ k, (Value.slice ta ts.length tc).ownBlock = some k → k ≠ b ∧ k ≠ mb ∧ k ≠ w.heap.size
  iv : Iv x.c s
  nx : s.next ≤ i
  rf : s.refused ≤ i
  tl : ts.length ≤ i
  below : Below w.heap.size w wr
section
variable {w wr : World} {x : Cfg} {b mb : Nat} {p : IP} {s : In.St} {ts : List EIn} {ta : Option Addr} {tc : Nat} {i : Nat}
theorem OncIs.on {w' : World} (h : OncIs w wr x b mb p s ts ta tc i) (hb : Below wr.heap.size wr w') : OncIs w w' x b mb p s ts ta tc i :=
  ⟨h.hold.on hb, h.mbe, box_on h.box hb, h.nB, own_kept h.row (Kept.below (S := fun _ => False) hb) (fun _ _ e => e), h.rb, h.iv, h.nx, h.rf, h.tl, h.below.trans (hb.mono h.below.size)⟩
theorem OncIs.apply {w' : World} {p' : IP} (h : OncIs w wr x b mb p s ts ta tc i) (hi : i ≤ 1000) (e : In.En) (h2 : HoldI (Fb b mb (.slice ta ts.length tc)) w w' b x.c p' (In.apply x.c s e).1 ks0 ∧ p'.mb = p.mb ∧ Kept (InI b p) wr w') : OncIs w w' x b mb p' (In.apply x.c s e).1 ts ta tc (i + 1) := by
  obtain ⟨g1, g2, g3⟩ := h2
  obtain ⟨k1, k2, k3⟩ := h.iv.apply e (by have := h.nx; omega) (by have := h.rf; omega)
  have hno : ∀ k, k ≠ b ∧ k ≠ mb → ¬ InI b p k := fun k hk f => by
    rcases f with f | f
    · exact hk.1 f
    · exact hk.2 (f.trans h.mbe)
  refine ⟨g1, g2.trans h.mbe, g3.heap h.box (hno _ h.nB), h.nB, own_kept h.row g3 (fun k hk => hno k ⟨(h.rb k hk).1, (h.rb k hk).2.1⟩), h.rb, k1, by have := h.nx; omega, by have := h.rf; omega, by have := h.tl; omega, (hold_step h.hold h.below ⟨g1, g2, g3⟩).2⟩
theorem OncIs.app {w' : World} {ta' : Option Addr} {tc' : Nat} {t : EIn} (h : OncIs w wr x b mb p s ts ta tc (i + 1)) (ht : ts.length ≤ i) (hr : w'.ownsRow w.heap.size 39 8 (.slice ta' (ts ++ [t]).length tc') (ts ++ [t]).length (entsV (ts ++ [t])))
    (ho : (Value.slice ta' (ts ++ [t]).length tc').ownBlock = (Value.slice ta ts.length tc).ownBlock ∨ (Value.slice ta' (ts ++ [t]).length tc').ownBlock = some wr.heap.size) (hk : Kept (fun k => (Value.slice ta ts.length tc).ownBlock = some k) wr w') :
    OncIs w w' x b mb p s (ts ++ [t]) ta' tc' (i + 1) := by
  have hb : b < wr.heap.size := h.hold.lt b (Or.inl rfl)
  have hm : mb < wr.heap.size := h.hold.lt mb (Or.inr (Or.inl rfl))
  have hx := box_lt h.box
  refine ⟨h.hold.turn hk (fun k hk => Or.inr (Or.inr hk)) (fun e => (h.rb _ e).1 rfl) (fun e => (h.rb _ e).2.1 h.mbe) (fun k hk' f => ?_) (Or.inl rfl) (Or.inr (Or.inl h.mbe)) (fun k f => ?_), h.mbe, hk.heap h.box (fun e => (h.rb _ e).2.2 rfl), h.nB, hr, fun k hk' => ?_, h.iv, h.nx, h.rf, by rw [List.length_append, List.length_singleton]; omega, h.below.trans (hk.toBelow h.below.size (fun k e => own_above h.row e))⟩
  · rcases f with f | f | f
    · exact Or.inl f
    · exact Or.inr (Or.inl f)
    · rcases ho with q | q
      · rw [q] at f
        exact Or.inr (Or.inr f)
      · rw [q] at f
        injection f with f
        omega
  · rcases f with f | f | f
    · have := hk.size
      omega
    · have := hk.size
      omega
    · exact own_lt (own_base hr) f
  · rcases ho with q | q
    · rw [q] at hk'
      exact h.rb k hk'
    · rw [q] at hk'
      injection hk' with hk'
      omega
/-- At the loop's start. -/
theorem onc_new {w1 w2 : World} (hx : w1.heap[w.heap.size]? = some x.obj) (hr : x.c.right) (hw : Below w.heap.size w w1) (h : HoldI (fun k => k = b ∨ k = p.mb) w w2 b x.c p In.new ks0 ∧ Below w1.heap.size w1 w2 ∧ w1.heap.size ≤ b ∧ w1.heap.size ≤ p.mb) : OncIs w w2 x b p.mb p In.new [] none 0 0 := by
  obtain ⟨h1, h2, h3, h4⟩ := h
  have hlt := box_lt hx
  refine ⟨h1.turn (Kept.refl (fun _ => False) w2) (fun k f => f.elim) (fun f => f) (fun f => f) (fun k _ f => by rcases f with f | f | f; exact Or.inl f; exact Or.inr f; cases f) (Or.inl rfl) (Or.inr (Or.inl rfl)) (fun k f => h1.lt k (by rcases f with f | f | f; exact Or.inl f; exact Or.inr f; cases f)), rfl, box_on hx h2, ⟨by omega, by omega⟩, World.ownsRow_nil _ _ _ _, fun k f => (by cases f), iv_new hr, Int.le_refl _, Int.le_refl _, Nat.le_refl _, hw.trans (h2.mono hw.size)⟩
end
/-- What has been accepted, as the law keeps it and as the model does. -/
structure DoneIs (w : World) (D : List EIn) (L : List Pq.K) : Prop where
  len : L.length = D.length
  same : ∀ (i : Nat) (y : EIn) (k : Pq.K), D[i]? = some y → L[i]? = some k → k.id = y.e.pr ∧ k.ep = y.e.ep ∧ k.seq = y.e.sq
  ok : ∀ y ∈ D, EOk w y.e y.row ∧ y.e.kd = 0
theorem done_nil (w : World) : DoneIs w [] [] := ⟨rfl, fun i y k h => (by cases h), fun y h => (by cases h)⟩
theorem DoneIs.app {w : World} {D : List EIn} {L : List Pq.K} (h : DoneIs w D L) {y : EIn} {k : Pq.K} (h1 : k.id = y.e.pr ∧ k.ep = y.e.ep ∧ k.seq = y.e.sq) (h2 : EOk w y.e y.row ∧ y.e.kd = 0) : DoneIs w (D ++ [y]) (L ++ [k]) := by
  refine ⟨by rw [List.length_append, List.length_append, h.len]; rfl, fun i z q hz hq => ?_, fun z hz => ?_⟩
  · by_cases hi : i < D.length
    · rw [List.getElem?_append_left hi] at hz
      rw [List.getElem?_append_left (by rw [h.len]; exact hi)] at hq
      exact h.same i z q hz hq
    · rw [List.getElem?_append_right (by omega)] at hz
      rw [List.getElem?_append_right (by rw [h.len]; omega), h.len] at hq
      have hi2 : i - D.length = 0 := by
        have := (List.getElem?_eq_some_iff.1 hz).1
        simp at this
        omega
      rw [hi2] at hz hq
      injection hz with hz
      injection hq with hq
      rw [← hz, ← hq]
      exact h1
  · rcases List.mem_append.1 hz with f | f
    · exact h.ok z f
    · rw [List.mem_singleton.1 f]
      exact h2
/-- How many of the first ones are of a producer and an epoch. -/
def ofN (D : List EIn) (a e : Int) (k : Nat) : Int := ((D.take k).filter (fun y => decide (y.e.pr = a ∧ y.e.ep = e))).length
theorem ofN_next {D : List EIn} {a e : Int} {k : Nat} {y : EIn} (hy : D[k]? = some y) : ofN D a e (k + 1) = ofN D a e k + if y.e.pr = a ∧ y.e.ep = e then 1 else 0 := by
  unfold ofN
  rw [List.take_add_one, hy, List.filter_append, List.length_append]
  by_cases h : y.e.pr = a ∧ y.e.ep = e
  · rw [if_pos h]
    simp [h]
  · rw [if_neg h]
    have : List.filter (fun y => decide (y.e.pr = a ∧ y.e.ep = e)) (some y).toList = [] := by
      simp only [Option.toList_some, List.filter_cons, List.filter_nil]
      rw [if_neg (by simpa using h)]
    rw [this]
    simp
theorem ofN_le (D : List EIn) (a e : Int) (k : Nat) : 0 ≤ ofN D a e k ∧ ofN D a e k ≤ k := by
  unfold ofN
  have h1 := List.length_filter_le (fun y : EIn => decide (y.e.pr = a ∧ y.e.ep = e)) (D.take k)
  rw [List.length_take] at h1
  omega
theorem ofN_end {w : World} : ∀ {D : List EIn} {L : List Pq.K} (_ : DoneIs w D L) (a e : Int) {k : Nat} (_ : D.length ≤ k), ofN D a e k = ((Pq.of L a e).length : Int) := by
  intro D L h a e k hk
  unfold ofN Pq.of
  rw [List.take_of_length_le hk]
  have key : ∀ (D : List EIn) (L : List Pq.K), L.length = D.length → (∀ (i : Nat) (y : EIn) (k : Pq.K), D[i]? = some y → L[i]? = some k → k.id = y.e.pr ∧ k.ep = y.e.ep) → (D.filter (fun y => decide (y.e.pr = a ∧ y.e.ep = e))).length = (L.filter (fun k => decide (k.id = a ∧ k.ep = e))).length := by
    intro D
    induction D with
    | nil =>
      intro L hl _
      rw [List.eq_nil_of_length_eq_zero hl]
      rfl
    | cons y D ih =>
      intro L hl hs
      cases L with
      | nil => cases hl
      | cons q L =>
        obtain ⟨g1, g2⟩ := hs 0 y q rfl rfl
        have := ih L (by simpa using hl) (fun i z k hz hk => hs (i + 1) z k (by simpa using hz) (by simpa using hk))
        rw [List.filter_cons, List.filter_cons, g1, g2]
        split
        · rw [List.length_cons, List.length_cons, this]
        · exact this
  rw [key D L h.len (fun i y k hy hk => ⟨(h.same i y k hy hk).1, (h.same i y k hy hk).2.1⟩)]
/-- The picks. -/
def PicksIn (w : World) (v : Value) (l : List Int) : Prop := l.length ≤ 9223372036854775807 ∧ ∃ a c, v = .slice a l.length c ∧ ∀ (i : Nat) (x : Int), l[i]? = some x → ∃ b off, a = some ⟨b, off, none⟩ ∧ w.cell? ⟨b, off + i, none⟩ = some (.int .i64 x) ∧ I64 x
section
variable {H : Type} {enc : TypeId × Value → H} {W : World} {base : Nat} {sp : Nat → Bool} {held : Bool}
theorem open_picks {fuel : Nat} {v : Value} {x : DataW H × List MemPlace} (h : DataW.trod enc Try.prog W base sp held fuel 32 [v] = some x) : ∃ l, PicksIn W v l := by
  rcases open_ints Try.underlying32 Try.underlying3 cellsIntI h with ⟨hv, _⟩ | ⟨a, len, cap, zs, hv, _, hl, hm, hz, _, hc, hw⟩
  · obtain rfl : v = .slice none 0 0 := by simpa using hv
    exact ⟨[], by decide, none, 0, rfl, fun i x h => by cases h⟩
  · obtain rfl : v = .slice (some a) len cap := by simpa using hv
    have hzl : len ≤ zs.length := by rw [hz]; split <;> omega
    have hlen : (zs.take len).length = len := by simp; omega
    refine ⟨zs.take len, by rw [hlen]; unfold maxLen at hm; omega, some a, cap, by rw [hlen], fun i x hx => ?_⟩
    have hi : i < len := by have := (List.getElem?_eq_some_iff.1 hx).1; omega
    have k0 := hc 0 (by omega)
    rw [show a.add 0 = a by simp [Addr.add]] at k0
    obtain ⟨b, off, rfl⟩ := cell_plainD k0
    have key := hc i (by omega)
    rw [Lib.add_plain] at key
    rw [List.getElem?_take_of_lt hi, List.getElem?_eq_getElem (by omega)] at hx
    injection hx with hx
    have hg : zs.getD i 0 = x := by rw [← hx]; simp [List.getD, List.getElem?_eq_getElem (show i < zs.length by omega)]
    rw [hg] at key
    refine ⟨b, off, rfl, key, ?_⟩
    have := bounds_i64 (hw x (by rw [← hx]; exact List.getElem_mem _))
    exact this
end
end Go.Proofs.Ytmgpfkckafdbmaa
