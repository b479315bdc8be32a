/-
  ProducerOnce, what its walk needs: bits; what is stored beside the table, four cells each; the operations that came in.
-/
import Derived.Test.YtlfjbiiacnikhaaQOpen
import Derived.Test.YtlfjbiiacnikhaaQOwn
import Derived.Test.YtlfjbiiacnikhaaQOnce
namespace Go.Proofs.Ytlfjbiiacnikhaa
set_option maxRecDepth 100000
open Go Go.RowKit Pq Go.Sort Go.ChangeShapes Go.WideShapes Go.ChangeAt

theorem i64_and_low (n : Int) (m : Nat) (hm : m < 62) : bits .and .i64 n (2 ^ m - 1 : Nat) = n % (2 ^ m : Nat) := by
  have hp : (2 : Nat) ^ m ≤ 2 ^ 61 := Nat.pow_le_pow_right (by decide) (by omega)
  have hp0 : 0 < (2 : Nat) ^ m := Nat.two_pow_pos m
  have h127 : (BitVec.ofInt 64 ((2 ^ m - 1 : Nat) : Int)).toNat = 2 ^ m - 1 := by
    rw [BitVec.toNat_ofInt, Int.emod_eq_of_lt (by omega) (by simp only [Nat.reducePow] at hp ⊢; omega)]
    omega
  have key : (BitVec.ofInt 64 n &&& BitVec.ofInt 64 ((2 ^ m - 1 : Nat) : Int)).toNat = (n % ((2 ^ 64 : Nat) : Int)).toNat % 2 ^ m := by
    rw [BitVec.toNat_and, BitVec.toNat_ofInt, h127, Nat.and_two_pow_sub_one_eq_mod]
  show IntKind.i64.wrap ((BitVec.ofInt 64 n &&& BitVec.ofInt 64 ((2 ^ m - 1 : Nat) : Int)).toNat : Nat) = n % (2 ^ m : Nat)
  rw [key, IntKind.wrap_i64]
  have h1 : (n % ((2 ^ 64 : Nat) : Int)) % ((2 ^ m : Nat) : Int) = n % ((2 ^ m : Nat) : Int) := Int.emod_emod_of_dvd n (by exact_mod_cast Nat.pow_dvd_pow 2 (by omega))
  have h2 : 0 ≤ n % ((2 ^ 64 : Nat) : Int) := Int.emod_nonneg _ (by decide)
  have h3 : (((n % ((2 ^ 64 : Nat) : Int)).toNat % 2 ^ m : Nat) : Int) = n % ((2 ^ m : Nat) : Int) := by
    rw [← h1, Int.natCast_emod, Int.toNat_of_nonneg h2]
  rw [h3]
  have h7 : (0 : Int) < ((2 ^ m : Nat) : Int) := by exact_mod_cast hp0
  have h4 : n % ((2 ^ m : Nat) : Int) < ((2 ^ m : Nat) : Int) := Int.emod_lt_of_pos _ h7
  have h5 : 0 ≤ n % ((2 ^ m : Nat) : Int) := Int.emod_nonneg _ (by omega)
  have h6 : ((2 ^ m : Nat) : Int) ≤ ((2 ^ 61 : Nat) : Int) := by exact_mod_cast hp
  generalize ((2 ^ m : Nat) : Int) = q at *
  generalize n % q = r at *
  simp only [Nat.reducePow] at h6
  omega
theorem i64_and1 (n : Int) : bits .and .i64 n 1 = n % 2 := i64_and_low n 1 (by decide)
theorem i64_and63 (n : Int) : bits .and .i64 n 63 = n % 64 := i64_and_low n 6 (by decide)
theorem i64_and255 (n : Int) : bits .and .i64 n 255 = n % 256 := i64_and_low n 8 (by decide)

/-! ### What is stored -/
def kC (x : K) : List Value := [.int .i64 x.id, .int .i64 x.ep, .int .i64 x.seq, .int .i64 x.pos]
def ksV (l : List K) : List Value := l.flatMap kC
theorem ksV_cons (x : K) (l : List K) : ksV (x :: l) = kC x ++ ksV l := by simp [ksV]
theorem ksV_app (a b : List K) : ksV (a ++ b) = ksV a ++ ksV b := by simp [ksV]
theorem ksV_length (l : List K) : (ksV l).length = l.length * 4 := by
  induction l with
  | nil => rfl
  | cons x l ih => rw [ksV_cons, List.length_append, ih]; simp [kC]; omega
theorem ksV_one (l : List K) : ∀ u ∈ ksV l, u.oneCell' = true := by
  intro u hu
  obtain ⟨x, _, hx⟩ := List.mem_flatMap.1 hu
  simp [kC] at hx
  rcases hx with rfl | rfl | rfl | rfl <;> rfl
theorem ksV_get (l : List K) : ∀ (k : Nat) (x : K), l[k]? = some x → ∀ j u, (kC x)[j]? = some u → (ksV l)[k * 4 + j]? = some u := by
  induction l with
  | nil => intro k x h; simp at h
  | cons a l ih =>
    intro k x h j u hu
    have ha : (kC a).length = 4 := rfl
    rw [ksV_cons]
    cases k with
    | zero =>
      simp at h
      subst h
      rw [Nat.zero_mul, Nat.zero_add, List.getElem?_append_left (List.getElem?_eq_some_iff.1 hu).1]
      exact hu
    | succ k =>
      have := ih k x (by simpa using h) j u hu
      rw [List.getElem?_append_right (by omega), ← this]
      congr 1
      omega
theorem infoK : (Try.prog.info? 39).map (fun i => (i.zero, i.size, i.bytes)) = some (some (.agg #[.int .i64 0, .int .i64 0, .int .i64 0, .int .i64 0]), 4, 32) := by kernel_rfl
def KRow (w : World) (base : Nat) (v : Value) (l : List K) : Prop := w.ownsRow base 39 4 v l.length (ksV l)
structure KCells (w : World) (b o : Nat) (x : K) : Prop where
  c0 : w.cell? ⟨b, o, none⟩ = some (.int .i64 x.id)
  c1 : w.cell? ⟨b, o + 1, none⟩ = some (.int .i64 x.ep)
  c2 : w.cell? ⟨b, o + 2, none⟩ = some (.int .i64 x.seq)
  c3 : w.cell? ⟨b, o + 3, none⟩ = some (.int .i64 x.pos)
theorem k_cells {w : World} {base : Nat} {a : Option Addr} {n c : Nat} {l : List K} (h : KRow w base (.slice a n c) l) {k : Nat} {x : K} (hx : l[k]? = some x) :
    ∃ b, a = some ⟨b, 0, none⟩ ∧ KCells w b (k * 4) x := by
  have h := own_base h
  have hk : k < l.length := (List.getElem?_eq_some_iff.1 hx).1
  have hn : l.length = n := by
    rcases h.2 with ⟨e, h0⟩ | ⟨g, cap, cur, e, _⟩
    · omega
    · injection e with _ e _; exact e.symm
  rw [hn] at h
  obtain ⟨g, rfl, _⟩ := own_at2 h rfl (by omega)
  have key : ∀ j u, (kC x)[j]? = some u → w.cell? ⟨g, k * 4 + j, none⟩ = some u := fun j u hu => by
    have := own_cell_size h rfl _ _ (ksV_get l k x hx j u hu)
    rwa [Lib.add_plain, Nat.zero_add] at this
  exact ⟨g, rfl, key 0 _ rfl, key 1 _ rfl, key 2 _ rfl, key 3 _ rfl⟩
/-- One more that is stored. -/
theorem app_k (w : World) (base : Nat) (v : Value) (l : List K) (x : K) (B : Nat) (hB : w.heap[B]? = some (.cells #[.int .i64 x.id, .int .i64 x.ep, .int .i64 x.seq, .int .i64 x.pos] 39 (0, 0))) (h : KRow w base v l) (hl : l.length ≤ 100000) (hb : base ≤ w.heap.size) :
    ∃ a c w', (Builtin.append_ #[25, 25] 25 #[v, .slice (some ⟨B, 0, none⟩) 1 1]).run Try.prog w = .ok (.slice a (l.length + 1) c) w' ∧
      KRow w' base (.slice a (l.length + 1) c) (l ++ [x]) ∧ ((Value.slice a (l.length + 1) c).ownBlock = v.ownBlock ∨ (Value.slice a (l.length + 1) c).ownBlock = some w.heap.size) ∧ Kept (fun k => v.ownBlock = some k) w w' := by
  obtain ⟨i0, hi0, hz0, hz1, hz2⟩ := info_parts infoK
  have hx : ksV [x] = kC x := by simp [ksV]
  obtain ⟨v5, w5, hr, hown5, hgr5, hbl5⟩ := run_append_any_own (P := Try.prog) w base 25 25 39 i0 _ 4 32 Try.underlying25 hi0 hz0 hz1 hz2 rfl (by decide) v l.length (ksV l) h
    (some ⟨B, 0, none⟩) 1 1 (ksV [x]) (ksV_length _) (fun _ => ⟨_, rfl, fun j u hu => by
      rw [Lib.add_plain, Nat.zero_add]
      rw [hx] at hu
      exact cell_block (cs := kC x) hB hu⟩) (ksV_one _) (by unfold maxLen; omega) (by omega) hb
  obtain ⟨a, c, rfl, _⟩ := own_shape (own_base hown5)
  refine ⟨a, c, w5, hr, ?_, hbl5, Kept.grown hgr5 (fun k e => e)⟩
  unfold KRow
  rw [ksV_app, List.length_append]
  exact hown5

/-! ### Operations that came in -/
structure Op10 where
  dk : Int
  id : Int
  ep : Int
  sq : Int
  far : Int
structure ORow (w : World) (b off : Nat) (x : Op10) : Prop where
  c0 : w.cell? ⟨b, off, none⟩ = some (.int .i64 x.dk)
  c1 : w.cell? ⟨b, off + 1, none⟩ = some (.int .i64 x.id)
  c2 : w.cell? ⟨b, off + 2, none⟩ = some (.int .i64 x.ep)
  c3 : w.cell? ⟨b, off + 3, none⟩ = some (.int .i64 x.sq)
  c4 : w.cell? ⟨b, off + 4, none⟩ = some (.int .i64 x.far)
def Op10.obj (x : Op10) : Obj := .cells #[.int .i64 x.dk, .int .i64 x.id, .int .i64 x.ep, .int .i64 x.sq, .int .i64 x.far] 28 (0, 0)
theorem Op10.cells {x : Op10} {w : World} {b : Nat} (h : w.heap[b]? = some x.obj) : ORow w b 0 x := by
  refine ⟨?_, ?_, ?_, ?_, ?_⟩ <;> (rw [Lib.cell_of_heap h]; rfl)
structure Fit10 (x : Op10) : Prop where
  dk : In64 x.dk
  id : In64 x.id
  ep : In64 x.ep
  sq : In64 x.sq
  far : In64 x.far
def OpsIn10 (w : World) (v : Value) (l : List Op10) : Prop :=
  l.length ≤ 9223372036854775807 ∧ ∃ a c, v = .slice a l.length c ∧ ∀ i x, l[i]? = some x → ∃ b off, a = some ⟨b, off, none⟩ ∧ ORow w b (off + i * 5) x ∧ Fit10 x
theorem ORow.on {w w' : World} {b off : Nat} {x : Op10} (h : ORow w b off x) (hb : Below w.heap.size w w') : ORow w' b off x := by
  have hk : ∀ {p : Addr} {v : Value}, w.cell? p = some v → w'.cell? p = some v := fun hp => (Kept.below (S := fun _ => False) hb).cell hp (fun e => e)
  exact ⟨hk h.c0, hk h.c1, hk h.c2, hk h.c3, hk h.c4⟩
section
variable {H : Type} {enc : TypeId × Value → H} {W : World} {base : Nat} {sp : Nat → Bool} {held : Bool}
theorem cellsO : Try.prog.cellsOf 28 = 5 := by kernel_rfl
theorem five_of {α : Type} : ∀ (cs : List α), cs.length = 5 → ∃ c0 c1 c2 c3 c4, cs = [c0, c1, c2, c3, c4]
  | [c0, c1, c2, c3, c4], _ => ⟨c0, c1, c2, c3, c4, rfl⟩
theorem open_op10 {fuel : Nat} {cs : List Value} {x : DataW H × List MemPlace} (h : DataW.trod enc Try.prog W base sp held fuel 28 cs = some x) :
    ∃ y : Op10, cs = [.int .i64 y.dk, .int .i64 y.id, .int .i64 y.ep, .int .i64 y.sq, .int .i64 y.far] ∧ Fit10 y := by
  obtain ⟨xs, n, rfl, _, hl, hx, hf⟩ := DataW.trod_struct Try.underlying28 h
  rw [cellsO] at hl
  obtain ⟨c0, c1, c2, c3, c4, rfl⟩ := five_of cs hl
  obtain ⟨y0, y1, y2, y3, y4, rfl⟩ := five_of xs hx
  have f0 : DataW.trod enc Try.prog W base sp held n 3 [c0] = some y0 := by have := hf 0 _ rfl; exact this
  have f1 : DataW.trod enc Try.prog W base sp held n 3 [c1] = some y1 := by have := hf 1 _ rfl; exact this
  have f2 : DataW.trod enc Try.prog W base sp held n 3 [c2] = some y2 := by have := hf 2 _ rfl; exact this
  have f3 : DataW.trod enc Try.prog W base sp held n 3 [c3] = some y3 := by have := hf 3 _ rfl; exact this
  have f4 : DataW.trod enc Try.prog W base sp held n 3 [c4] = some y4 := by have := hf 4 _ rfl; exact this
  obtain ⟨n0, e0, _, w0⟩ := DataW.trod_int Try.underlying3 f0
  obtain ⟨n1, e1, _, w1⟩ := DataW.trod_int Try.underlying3 f1
  obtain ⟨n2, e2, _, w2⟩ := DataW.trod_int Try.underlying3 f2
  obtain ⟨n3, e3, _, w3⟩ := DataW.trod_int Try.underlying3 f3
  obtain ⟨n4, e4, _, w4⟩ := DataW.trod_int Try.underlying3 f4
  obtain rfl : c0 = .int .i64 n0 := by simpa using e0
  obtain rfl : c1 = .int .i64 n1 := by simpa using e1
  obtain rfl : c2 = .int .i64 n2 := by simpa using e2
  obtain rfl : c3 = .int .i64 n3 := by simpa using e3
  obtain rfl : c4 = .int .i64 n4 := by simpa using e4
  exact ⟨⟨n0, n1, n2, n3, n4⟩, rfl, bounds_i64 w0, bounds_i64 w1, bounds_i64 w2, bounds_i64 w3, bounds_i64 w4⟩
theorem choose_op10 {n : Nat} {p : Nat → Op10 → Prop} (h : ∀ i, i < n → ∃ x, p i x) : ∃ f : Nat → Op10, ∀ i, i < n → p i (f i) := by
  have : ∀ i, ∃ x, i < n → p i x := fun i => by
    by_cases hi : i < n
    · obtain ⟨x, hx⟩ := h i hi
      exact ⟨x, fun _ => hx⟩
    · exact ⟨⟨0, 0, 0, 0, 0⟩, fun h => absurd h hi⟩
  exact ⟨fun i => Classical.choose (this i), fun i => Classical.choose_spec (this i)⟩
theorem open_ops10 {fuel : Nat} {v : Value} {x : DataW H × List MemPlace} (h : DataW.trod enc Try.prog W base sp held fuel 22 [v] = some x) : ∃ l, OpsIn10 W v l := by
  rcases Go.Deep.open_slice Try.underlying22 h with ⟨hv, _⟩ | ⟨a, len, cap, m, n, D, Pl, hv, _, hl, hm, hmm, _, hx⟩
  · obtain rfl : v = .slice none 0 0 := by simpa using hv
    exact ⟨[], by decide, none, 0, rfl, fun i x hx => by simp at hx⟩
  · obtain rfl : v = .slice (some a) len cap := by simpa using hv
    have hlm : len ≤ m := by rw [hmm]; split <;> omega
    rw [cellsO] at hx
    obtain ⟨f, hf⟩ := choose_op10 (n := len) (p := fun i y => W.cells? base (a.add (i * 5)) 5 = some [.int .i64 y.dk, .int .i64 y.id, .int .i64 y.ep, .int .i64 y.sq, .int .i64 y.far] ∧ Fit10 y) (fun i hi => by
      obtain ⟨cs', h1, h2⟩ := hx i (by omega)
      obtain ⟨y, rfl, hy⟩ := open_op10 h2
      exact ⟨y, h1, hy⟩)
    have hlen : ((List.range len).map f).length = len := by simp
    refine ⟨(List.range len).map f, by rw [hlen]; unfold maxLen at hm; omega, some a, cap, by rw [hlen], fun i x hx => ?_⟩
    have hi : i < len := by have := (List.getElem?_eq_some_iff.1 hx).1; omega
    rw [List.getElem?_map, List.getElem?_range hi] at hx
    obtain rfl : f i = x := by simpa using hx
    obtain ⟨hcs, hfit⟩ := hf i hi
    have key := (World.cells?_some hcs).2.2
    obtain ⟨hcs0, _⟩ := hf 0 (by omega)
    have k0 := (World.cells?_some hcs0).2.2 0 (by decide)
    rw [Nat.zero_mul, show (a.add 0).add 0 = a by simp [Addr.add]] at k0
    obtain ⟨b, off, rfl⟩ := cell_plainD k0
    simp only [Lib.add_plain] at key
    exact ⟨b, off, rfl, ⟨key 0 (by decide), key 1 (by decide), key 2 (by decide), key 3 (by decide), key 4 (by decide)⟩, hfit⟩
end

/-! ### What a record that is stored leaves of the epochs -/
theorem put_ep (s : List P) (a e q pos b : Int) : (Pq.get (Pq.put s a e q pos) b).ep = (Pq.get s b).ep := by
  unfold Pq.put
  split
  · by_cases h : b = a
    · have := get_set_same s (more (Pq.get s a) pos)
      rw [show (more (Pq.get s a) pos).id = a from get_id s a] at this
      rw [h, this]
      rfl
    · rw [get_set_ne s _ (by rw [show (more (Pq.get s a) pos).id = a from get_id s a]; exact h)]
  · rfl
end Go.Proofs.Ytlfjbiiacnikhaa
