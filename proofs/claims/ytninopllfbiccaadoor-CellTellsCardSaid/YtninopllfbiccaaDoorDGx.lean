/-
  The reference's disk: as lists, in a heap; its functions that only read.
  The reference's disk: Down, Size, may, fits, pending, Read, Start, Lose.
  The reference's disk: a file replaced; appending to rows of files and of sectors.
-/
import Derived.Test.YtninopllfbiccaaDoorDTN
import Derived.Laws.ResultCell
import Derived.Laws.Rows
import Derived.BigQuiet
namespace Go.Proofs.YtninopllfbiccaaDoor
set_option maxRecDepth 100000
open Go Go.RowKit Go.Maps Dk

namespace Dk
/-- A file of the reference: its number, its bytes, its durable part. -/
structure RF where
  num : Int
  now : List UInt8
  dur : List UInt8
structure R where
  fs : List RF
  q : List (Nat × Nat)
  lost : Nat
  down : Bool
  left : Nat
  keep : List Int
def getR (fs : List RF) (f : Int) : RF := (fs.find? fun x => x.num == f).getD ⟨f, [], []⟩
def setR (fs : List RF) (x : RF) : List RF := fs.filter (fun y => y.num != x.num) ++ [x]
structure R.Ok (X : R) : Prop where
  range : ∀ x ∈ X.fs, 0 ≤ x.num ∧ x.num < 16
  nodup : X.fs.Pairwise fun a b => a.num ≠ b.num
  small : ∀ x ∈ X.fs, x.now.length ≤ 16777216 ∧ x.dur.length ≤ 16777216
  len : X.q.length ≤ 4456449
  sec : ∀ p ∈ X.q, p.1 < 16 ∧ p.2 ≤ 262144
  lost : (X.lost : Int) ≤ 9223372036854775807
  left : (X.left : Int) ≤ 9223372036854775807
  keepIn : ∀ k ∈ X.keep, -9223372036854775808 ≤ k ∧ k ≤ 9223372036854775807
  keepLen : X.keep.length ≤ 4398046511104
theorem R.Ok.few {X : R} (h : X.Ok) : X.fs.length ≤ 16 := by
  have h1 := len_le_of_nodup 16 (X.fs.map fun x => x.num.toNat) (by
    refine List.Pairwise.map (R := fun a b => a.num ≠ b.num ∧ a ∈ X.fs ∧ b ∈ X.fs) _ ?_ ?_
    · rintro a b ⟨hne, h1, h2⟩ e
      have g1 := h.range a h1
      have g2 := h.range b h2
      omega
    · exact List.Pairwise.imp_of_mem (fun {a b} ha hb h => ⟨h, ha, hb⟩) h.nodup) (fun x hx => by
    obtain ⟨y, hy, rfl⟩ := List.mem_map.1 hx
    have := h.range y hy
    omega)
  simpa using h1
theorem getR_at {fs : List RF} {f : Int} {k : Nat} {x : RF} (h : ∀ y ∈ fs.take k, y.num ≠ f) (hx : fs[k]? = some x) (hf : x.num = f) : getR fs f = x := by
  have hk : k < fs.length := (List.getElem?_eq_some_iff.1 hx).1
  have e : fs = fs.take k ++ x :: fs.drop (k + 1) := by
    have := List.drop_eq_getElem_cons hk
    rw [(List.getElem?_eq_some_iff.1 hx).2] at this
    rw [← this, List.take_append_drop]
  have h1 : (fs.take k).find? (fun x => x.num == f) = none := by
    rw [List.find?_eq_none]
    intro y hy
    simpa using h y hy
  unfold getR
  rw [e, List.find?_append, h1, List.find?_cons_of_pos (by simpa using hf)]
  rfl
theorem getR_none {fs : List RF} {f : Int} (h : ∀ y ∈ fs, y.num ≠ f) : getR fs f = ⟨f, [], []⟩ := by
  have h1 : fs.find? (fun x => x.num == f) = none := by
    rw [List.find?_eq_none]
    intro y hy
    simpa using h y hy
  unfold getR
  rw [h1]
  rfl
theorem getR_cases (fs : List RF) (f : Int) : (getR fs f ∈ fs ∧ (getR fs f).num = f) ∨ getR fs f = ⟨f, [], []⟩ := by
  unfold getR
  cases h : fs.find? (fun x => x.num == f) with
  | none => exact Or.inr rfl
  | some x =>
    refine Or.inl ⟨List.mem_of_find?_eq_some h, ?_⟩
    have := List.find?_some h
    simpa using this
theorem getR_num (fs : List RF) (f : Int) : (getR fs f).num = f := by
  rcases getR_cases fs f with ⟨_, h⟩ | h
  · exact h
  · rw [h]
theorem getR_small {X : R} (h : X.Ok) (f : Int) : (getR X.fs f).now.length ≤ 16777216 ∧ (getR X.fs f).dur.length ≤ 16777216 := by
  rcases getR_cases X.fs f with ⟨h1, _⟩ | h1
  · exact h.small _ h1
  · rw [h1]; exact ⟨Nat.zero_le _, Nat.zero_le _⟩
theorem getR_set_same (fs : List RF) (x : RF) : getR (setR fs x) x.num = x := by
  have h1 : (fs.filter (fun y => y.num != x.num)).find? (fun y => y.num == x.num) = none := by
    rw [List.find?_eq_none]
    intro y hy
    have := (List.mem_filter.1 hy).2
    simpa using this
  unfold getR setR
  rw [List.find?_append, h1, List.find?_cons_of_pos (by simp)]
  rfl
theorem getR_set_other (fs : List RF) (x : RF) {f : Int} (hf : f ≠ x.num) : getR (setR fs x) f = getR fs f := by
  unfold getR setR
  rw [List.find?_append, List.find?_filter, List.find?_cons_of_neg (by simpa using fun e => hf e.symm)]
  simp only [List.find?_nil, Option.or_none]
  congr 2
  funext y
  by_cases h : y.num = f
  · simp [h, hf]
  · simp [h]
theorem R.Ok.set {X : R} (h : X.Ok) (x : RF) (h1 : 0 ≤ x.num ∧ x.num < 16) (h2 : x.now.length ≤ 16777216) (h3 : x.dur.length ≤ 16777216) : R.Ok { X with fs := setR X.fs x } := by
  refine ⟨fun y hy => ?_, ?_, fun y hy => ?_, h.len, h.sec, h.lost, h.left, h.keepIn, h.keepLen⟩
  · rcases List.mem_append.1 hy with hy | hy
    · exact h.range y (List.mem_filter.1 hy).1
    · obtain rfl := List.mem_singleton.1 hy; exact h1
  · show (X.fs.filter (fun y => y.num != x.num) ++ [x]).Pairwise _
    rw [List.pairwise_append]
    refine ⟨h.nodup.filter _, List.pairwise_singleton _ _, fun a ha b hb => ?_⟩
    obtain rfl := List.mem_singleton.1 hb
    have := (List.mem_filter.1 ha).2
    simpa using this
  · rcases List.mem_append.1 hy with hy | hy
    · exact h.small y (List.mem_filter.1 hy).1
    · obtain rfl := List.mem_singleton.1 hy; exact ⟨h2, h3⟩
end Dk

def rfV (x : RF) : Value := .agg #[.int .i64 x.num, .string ⟨x.now.toArray⟩, .string ⟨x.dur.toArray⟩]
def filesV (fs : List RF) : List Value := fs.flatMap fun x => [.int .i64 x.num, .string ⟨x.now.toArray⟩, .string ⟨x.dur.toArray⟩]
theorem filesV_cons (x : RF) (fs : List RF) : filesV (x :: fs) = [Value.int .i64 x.num, .string ⟨x.now.toArray⟩, .string ⟨x.dur.toArray⟩] ++ filesV fs := by simp [filesV]
theorem filesV_app (a b : List RF) : filesV (a ++ b) = filesV a ++ filesV b := by simp [filesV]
theorem filesV_length (fs : List RF) : (filesV fs).length = fs.length * 3 := by
  induction fs with
  | nil => rfl
  | cons x fs ih => rw [filesV_cons, List.length_append, ih]; simp; omega
theorem filesV_get (fs : List RF) : ∀ (k : Nat) (x : RF), fs[k]? = some x → (filesV fs)[k * 3]? = some (.int .i64 x.num) ∧ (filesV fs)[k * 3 + 1]? = some (.string ⟨x.now.toArray⟩) ∧ (filesV fs)[k * 3 + 2]? = some (.string ⟨x.dur.toArray⟩) := by
  induction fs with
  | nil => intro k x h; simp at h
  | cons a fs ih =>
    intro k x h
    rw [filesV_cons]
    cases k with
    | zero =>
      simp at h
      subst h
      exact ⟨rfl, rfl, rfl⟩
    | succ k =>
      obtain ⟨h1, h2, h3⟩ := ih k x (by simpa using h)
      refine ⟨?_, ?_, ?_⟩
      · rw [List.getElem?_append_right (by simp; omega), ← h1]
        congr 1
        simp
        omega
      · rw [List.getElem?_append_right (by simp; omega), ← h2]
        congr 1
        simp
        omega
      · rw [List.getElem?_append_right (by simp; omega), ← h3]
        congr 1
        simp
        omega

/-- The reference's disk in a heap. -/
structure RAt (w : World) (r : Nat) (fv qv kv : Value) (X : R) : Prop where
  cell : w.heap[r]? = some (.cells #[fv, qv, .int .i64 (X.lost : Int), .bool X.down, .int .i64 (X.left : Int), kv] 66 (0, 0))
  files : w.ownsRow 0 82 3 fv X.fs.length (filesV X.fs)
  queue : w.ownsRow 0 80 2 qv X.q.length (secsV X.q)
  keep : w.ownsRow 0 3 1 kv X.keep.length (intsV X.keep)
  nf : fv.ownBlock ≠ some r
  nq : qv.ownBlock ≠ some r
  nk : kv.ownBlock ≠ some r
  fq : ∀ k, fv.ownBlock = some k → qv.ownBlock ≠ some k
  fk : ∀ k, fv.ownBlock = some k → kv.ownBlock ≠ some k
  qk : ∀ k, qv.ownBlock = some k → kv.ownBlock ≠ some k
def InR (r : Nat) (fv qv kv : Value) (k : Nat) : Prop := k = r ∨ fv.ownBlock = some k ∨ qv.ownBlock = some k ∨ kv.ownBlock = some k
theorem RAt.lt {w : World} {r : Nat} {fv qv kv : Value} {X : R} (h : RAt w r fv qv kv X) {k : Nat} (hk : InR r fv qv kv k) : k < w.heap.size := by
  rcases hk with rfl | hk | hk | hk
  · exact (Array.getElem?_eq_some_iff.1 h.cell).1
  · exact own_lt h.files hk
  · exact own_lt h.queue hk
  · exact own_lt h.keep hk
theorem RAt.kept {w w' : World} {T : Nat → Prop} {r : Nat} {fv qv kv : Value} {X : R} (h : RAt w r fv qv kv X) (hk : Kept T w w') (hn : ∀ k, InR r fv qv kv k → ¬ T k) : RAt w' r fv qv kv X :=
  { cell := hk.heap h.cell (hn r (Or.inl rfl))
    files := own_kept h.files hk (fun k e => hn k (Or.inr (Or.inl e)))
    queue := own_kept h.queue hk (fun k e => hn k (Or.inr (Or.inr (Or.inl e))))
    keep := own_kept h.keep hk (fun k e => hn k (Or.inr (Or.inr (Or.inr e))))
    nf := h.nf, nq := h.nq, nk := h.nk, fq := h.fq, fk := h.fk, qk := h.qk }
theorem RAt.on {w w' : World} {r : Nat} {fv qv kv : Value} {X : R} (h : RAt w r fv qv kv X) (hb : Below w.heap.size w w') : RAt w' r fv qv kv X := h.kept (Kept.below (S := fun _ => False) hb) (fun _ _ e => e)
theorem RAt.c0 {w : World} {r : Nat} {fv qv kv : Value} {X : R} (h : RAt w r fv qv kv X) : w.cell? ⟨r, 0, none⟩ = some fv := by rw [Lib.cell_of_heap h.cell]; rfl
theorem RAt.c1 {w : World} {r : Nat} {fv qv kv : Value} {X : R} (h : RAt w r fv qv kv X) : w.cell? ⟨r, 1, none⟩ = some qv := by rw [Lib.cell_of_heap h.cell]; rfl
theorem RAt.c2 {w : World} {r : Nat} {fv qv kv : Value} {X : R} (h : RAt w r fv qv kv X) : w.cell? ⟨r, 2, none⟩ = some (.int .i64 (X.lost : Int)) := by rw [Lib.cell_of_heap h.cell]; rfl
theorem RAt.c3 {w : World} {r : Nat} {fv qv kv : Value} {X : R} (h : RAt w r fv qv kv X) : w.cell? ⟨r, 3, none⟩ = some (.bool X.down) := by rw [Lib.cell_of_heap h.cell]; rfl
theorem RAt.c4 {w : World} {r : Nat} {fv qv kv : Value} {X : R} (h : RAt w r fv qv kv X) : w.cell? ⟨r, 4, none⟩ = some (.int .i64 (X.left : Int)) := by rw [Lib.cell_of_heap h.cell]; rfl
theorem RAt.c5 {w : World} {r : Nat} {fv qv kv : Value} {X : R} (h : RAt w r fv qv kv X) : w.cell? ⟨r, 5, none⟩ = some kv := by rw [Lib.cell_of_heap h.cell]; rfl
theorem RAt.z {w : World} {r : Nat} {fv qv kv : Value} {X : R} (h : RAt w r fv qv kv X) (o : Nat) : w.frozen? ⟨r, o, none⟩ = false := Lib.frozen_of_heap h.cell o
/-- The cells of a file, where a row of files lies. -/
theorem files_cells {w : World} {a : Option Addr} {n c : Nat} {fs : List RF} (h : w.ownsRow 0 82 3 (.slice a n c) fs.length (filesV fs)) {k : Nat} {x : RF} (hx : fs[k]? = some x) :
    ∃ g, a = some ⟨g, 0, none⟩ ∧ (Value.slice a n c).ownBlock = some g ∧ w.cell? ⟨g, k * 3, none⟩ = some (.int .i64 x.num) ∧ w.cell? ⟨g, k * 3 + 1, none⟩ = some (.string ⟨x.now.toArray⟩) ∧ w.cell? ⟨g, k * 3 + 2, none⟩ = some (.string ⟨x.dur.toArray⟩) := by
  have hk : k < fs.length := (List.getElem?_eq_some_iff.1 hx).1
  have hn : fs.length = n := by
    rcases h.2 with ⟨e, h0⟩ | ⟨g, cap, cur, e, _⟩
    · omega
    · injection e with _ e _; exact e.symm
  rw [hn] at h
  obtain ⟨g, rfl, hb⟩ := own_at2 h rfl (by omega)
  obtain ⟨h1, h2, h3⟩ := filesV_get fs k x hx
  refine ⟨g, rfl, hb, ?_, ?_, ?_⟩
  · have := own_cell_size h rfl _ _ h1; rw [Lib.add_plain, Nat.zero_add] at this; exact this
  · have := own_cell_size h rfl _ _ h2; rw [Lib.add_plain, Nat.zero_add] at this; exact this
  · have := own_cell_size h rfl _ _ h3; rw [Lib.add_plain, Nat.zero_add] at this; exact this
theorem secs_cells {w : World} {e : TypeId} {a : Option Addr} {n c : Nat} {q : List (Nat × Nat)} (h : w.ownsRow 0 e 2 (.slice a n c) q.length (secsV q)) {k : Nat} {p : Nat × Nat} (hp : q[k]? = some p) :
    ∃ g, a = some ⟨g, 0, none⟩ ∧ (Value.slice a n c).ownBlock = some g ∧ w.cell? ⟨g, k * 2, none⟩ = some (.int .i64 (p.1 : Int)) ∧ w.cell? ⟨g, k * 2 + 1, none⟩ = some (.int .i64 (p.2 : Int)) := by
  have hk : k < q.length := (List.getElem?_eq_some_iff.1 hp).1
  have hn : q.length = n := by
    rcases h.2 with ⟨e, h0⟩ | ⟨g, cap, cur, e, _⟩
    · omega
    · injection e with _ e _; exact e.symm
  rw [hn] at h
  obtain ⟨g, rfl, hb⟩ := own_at2 h rfl (by omega)
  obtain ⟨h1, h2⟩ := secsV_get q k p hp
  refine ⟨g, rfl, hb, ?_, ?_⟩
  · have := own_cell_size h rfl _ _ h1; rw [Lib.add_plain, Nat.zero_add] at this; exact this
  · have := own_cell_size h rfl _ _ h2; rw [Lib.add_plain, Nat.zero_add] at this; exact this

/-- A block that holds a file of the reference. -/
def FBox (w : World) (b : Nat) (x : RF) : Prop := w.heap[b]? = some (.cells #[.int .i64 x.num, .string ⟨x.now.toArray⟩, .string ⟨x.dur.toArray⟩] 82 (0, 0))
theorem FBox.lt {w : World} {b : Nat} {x : RF} (h : FBox w b x) : b < w.heap.size := (Array.getElem?_eq_some_iff.1 h).1
theorem FBox.on {w w' : World} {b : Nat} {x : RF} (h : FBox w b x) (hb : Below w.heap.size w w') : FBox w' b x := (hb.block b h.lt).trans h
theorem FBox.c0 {w : World} {b : Nat} {x : RF} (h : FBox w b x) : w.cell? ⟨b, 0, none⟩ = some (.int .i64 x.num) := by rw [Lib.cell_of_heap h]; rfl
theorem FBox.c1 {w : World} {b : Nat} {x : RF} (h : FBox w b x) : w.cell? ⟨b, 1, none⟩ = some (.string ⟨x.now.toArray⟩) := by rw [Lib.cell_of_heap h]; rfl
theorem FBox.c2 {w : World} {b : Nat} {x : RF} (h : FBox w b x) : w.cell? ⟨b, 2, none⟩ = some (.string ⟨x.dur.toArray⟩) := by rw [Lib.cell_of_heap h]; rfl
theorem FBox.z {w : World} {b : Nat} {x : RF} (h : FBox w b x) (i : Nat) : w.frozen? ⟨b, i, none⟩ = false := Lib.frozen_of_heap h i
theorem FBox.new (w : World) (x : RF) : FBox (w.alloc (.cells #[.int .i64 x.num, .string ⟨x.now.toArray⟩, .string ⟨x.dur.toArray⟩] 82)) w.heap.size x := heap_alloc_new w _
theorem FBox.set3 {w : World} {b : Nat} {x : RF} (h : FBox w b x) (y : RF) : FBox (((w.setCell ⟨b, 0, none⟩ (.int .i64 y.num)).setCell ⟨b, 1, none⟩ (.string ⟨y.now.toArray⟩)).setCell ⟨b, 2, none⟩ (.string ⟨y.dur.toArray⟩)) b y := by
  unfold FBox at *
  simp [World.setCell, Array.getElem?_modify, h]
theorem below_set3 {B : Nat} {w0 w : World} (h : Below B w0 w) {b : Nat} (hb : B ≤ b) (x y z : Value) : Below B w0 (((w.setCell ⟨b, 0, none⟩ x).setCell ⟨b, 1, none⟩ y).setCell ⟨b, 2, none⟩ z) :=
  ((h.setCell (p := ⟨b, 0, none⟩) hb _).setCell (p := ⟨b, 1, none⟩) hb _).setCell (p := ⟨b, 2, none⟩) hb _
theorem infoRF : (Tryd.prog.info? 82).map (·.size) = some 3 := by kernel_rfl
theorem ret_rf {fn : Func} {p : Tmp} (hr : fn.results = #[.cell p 82]) (tmps : Array Value) (w : World) (b : Nat) (x : RF) (hp : tmps.getD p undef = .pointer (some ⟨b, 0, none⟩)) (h : FBox w b x) :
    (results fn tmps).run Tryd.prog w = .ok (rfV x) w :=
  results_cell_row hr tmps w b _ _ _ _ hp h Tryd.underlying82 rfl (by rw [infoRF]; rfl)

set_option maxHeartbeats 1000000 in
set_option maxRecDepth 100000 in
theorem rget_c (r : Nat) (fv qv kv : Value) (X : R) (f : Int) (w : World) (h : RAt w r fv qv kv X) (hl : X.fs.length ≤ 9223372036854775807) :
    Calls Tryd.prog 49 #[.pointer (some ⟨r, 0, none⟩), .int .i64 f] w fun e w' => e = .returned (rfV (getR X.fs f)) ∧ Below w.heap.size w w' := by
  obtain ⟨fa, fc, rfl, _⟩ := own_shape h.files
  obtain ⟨L, hL⟩ : ∃ L, L = X.fs.length := ⟨_, rfl⟩
  have hfl := h.files
  rw [← hL] at h hl hfl
  obtain ⟨W1, hW1⟩ : ∃ W1, W1 = w.alloc (.cells #[.int .i64 0, .string ⟨#[]⟩, .string ⟨#[]⟩] 82) := ⟨_, rfl⟩
  have hb1 : Below w.heap.size w W1 := by rw [hW1]; exact (Below.refl _ _).alloc (Nat.le_refl _) _
  have hx1 : FBox W1 w.heap.size ⟨0, [], []⟩ := by rw [hW1]; exact FBox.new w ⟨0, [], []⟩
  have h1 := h.on hb1
  have c0 := h1.c0
  have b0 := hx1.c0
  have b1 := hx1.c1
  have b2 := hx1.c2
  have z0 := hx1.z 0
  have z1 := hx1.z 1
  have z2 := hx1.z 2
  have HL := Lib.hid hL
  have HF := Lib.hid (own_kept hfl (Kept.below (S := fun _ => False) hb1) (fun _ _ e => e))
  have HB := Lib.hid hb1
  have HX := Lib.hid hx1
  clear h h1 hfl hb1 hx1 hL
  go_enter Tryd.func49, Tryd.ntmps49
  go_wp2_with fail
  rw [← hW1]
  clear hW1
  go_loopw [5] (fun v5 wr => ∃ k : Nat, k ≤ L ∧ v5 = .int .i64 (k : Int) ∧ Hid (∀ y ∈ X.fs.take k, y.num ≠ f) ∧ wr = W1) (fun v5 _ => L - (intOf v5).toNat)
  case atStart => exact ⟨0, Nat.zero_le _, rfl, Lib.hid (by simp), rfl⟩
  case round =>
    obtain ⟨k, hk, rfl, HN, hwr⟩ := hrel
    rw [hwr]
    clear hwr
    by_cases hkl : k < L
    · have hkl' : (k : Int) < (L : Int) := by omega
      obtain ⟨x, hx⟩ : ∃ x, X.fs[k]? = some x := ⟨X.fs[k]'(by have := HL.out; omega), List.getElem?_eq_getElem _⟩
      obtain ⟨g, rfl, _, d0, d1, d2⟩ := files_cells (by rw [← HL.out]; exact HF.out) hx
      have HX' := Lib.hid hx
      clear hx
      by_cases hf : x.num = f
      · have HG := Lib.hid (getR_at HN.out HX'.out hf)
        go_wp2_with fail
        (try simp only [Exit.inBlock, Exit.then])
        refine bodyPost_ret (ret_rf rfl _ _ w.heap.size x rfl (by rw [← hf]; exact HX.out.set3 x)) rfl ?_
        refine ⟨by rw [HG.out], by rw [← hf]; exact below_set3 HB.out (Nat.le_refl _) _ _ _⟩
      · go_wp2_with fail
        go_roundw
        case rel =>
          refine ⟨k + 1, hkl, by go_num, Lib.hid (fun y hy => ?_), by first | rfl | trivial⟩
          rw [List.take_add_one, HX'.out] at hy
          rcases List.mem_append.1 hy with hy | hy
          · exact HN.out y hy
          · simp at hy; rw [hy]; exact hf
        case measure => simp [intOf]; omega
    · have hkl' : ¬ (k : Int) < (L : Int) := by omega
      have HG := Lib.hid (show getR X.fs f = ⟨f, [], []⟩ from getR_none (fun y hy => HN.out y (by rw [List.take_of_length_le (by have := HL.out; omega)]; exact hy)))
      go_wp2_with fail
      (try simp only [Exit.inBlock, Exit.then])
      refine bodyPost_ret (ret_rf rfl _ _ w.heap.size ⟨f, [], []⟩ rfl (HX.out.set3 ⟨f, [], []⟩)) rfl ?_
      exact ⟨by rw [HG.out], below_set3 HB.out (Nat.le_refl _) _ _ _⟩
end Go.Proofs.YtninopllfbiccaaDoor

namespace Go.Proofs.YtninopllfbiccaaDoor
set_option maxRecDepth 100000
open Go Go.RowKit Go.Maps Dk

theorem rf_now (a b c : Value) (w : World) : (Instr.field 82 (.agg #[a, b, c]) 1).run Tryd.prog w = .ok b w := by kernel_rfl
theorem rsize_c (r : Nat) (fv qv kv : Value) (X : R) (f : Int) (w : World) (h : RAt w r fv qv kv X) (hl : X.fs.length ≤ 9223372036854775807) :
    Calls Tryd.prog 30 #[.pointer (some ⟨r, 0, none⟩), .int .i64 f] w fun e w' => e = .returned (.int .i64 ((getR X.fs f).now.length : Int)) ∧ Below w.heap.size w w' := by
  have q := rget_c r fv qv kv X f w h hl
  obtain ⟨x, hx⟩ : ∃ x, x = getR X.fs f := ⟨_, rfl⟩
  rw [← hx] at q ⊢
  unfold rfV at q
  have Q := Lib.hid q
  have hfd := rf_now
  clear h q hx
  go_enter Tryd.func30, Tryd.ntmps30
  go_wp2_with (go_at_call 49; refine Q.out.mono ?_; rintro e w2 ⟨rfl, hb⟩)
  go_ret
  exact ⟨rfl, hb⟩
def mayM (down : Bool) (f : Int) : Int := if down then 9 else if ok f then 0 else 1
theorem rmay_c (r : Nat) (fv qv kv : Value) (X : R) (f : Int) (w : World) (h : RAt w r fv qv kv X) : Calls Tryd.prog 48 #[.pointer (some ⟨r, 0, none⟩), .int .i64 f] w fun e w' => e = .returned (.int .i64 (mayM X.down f)) ∧ w' = w := by
  have c3 := h.c3
  clear h
  go_enter Tryd.func48, Tryd.ntmps48
  unfold mayM ok
  cases hd : X.down with
  | true =>
    rw [hd] at c3
    go_wp2_with fail
    go_ret
    first | exact ⟨rfl, rfl⟩ | simp
  | false =>
    rw [hd] at c3
    by_cases h0 : f < 0
    · have e : decide (0 ≤ f ∧ f < 16) = false := by simp; omega
      rw [e]
      clear e
      go_wp2_with fail
      go_ret
      first | exact ⟨rfl, rfl⟩ | simp
    · by_cases h15 : 15 < f
      · have e : decide (0 ≤ f ∧ f < 16) = false := by simp; omega
        rw [e]
        clear e
        go_wp2_with fail
        go_ret
        first | exact ⟨rfl, rfl⟩ | simp
      · have e : decide (0 ≤ f ∧ f < 16) = true := by simp; omega
        rw [e]
        clear e
        go_wp2_with fail
        go_ret
        first | exact ⟨rfl, rfl⟩ | simp
def fitsM (a : Int) (s : List UInt8) : Bool := decide (0 ≤ a) && decide (a + s.length ≤ 16777216)
theorem rfits_c (a : Int) (s : List UInt8) (hs : s.length ≤ 1000000) (w : World) : Calls Tryd.prog 53 #[.int .i64 a, .string ⟨s.toArray⟩] w fun e w' => e = .returned (.bool (fitsM a s)) ∧ w' = w := by
  go_enter Tryd.func53, Tryd.ntmps53
  by_cases h0 : 0 ≤ a
  · by_cases h1 : a ≤ 16777216
    · have e : fitsM a s = decide (a + (s.length : Int) ≤ 16777216) := by unfold fitsM; rw [decide_eq_true h0, Bool.true_and]
      rw [e]
      clear e
      go_wp2_with fail
      go_ret
      first | exact ⟨rfl, rfl⟩ | simp
    · have e : fitsM a s = false := by unfold fitsM; rw [decide_eq_true h0, Bool.true_and]; simp; omega
      rw [e]
      clear e
      go_wp2_with fail
      go_ret
      first | exact ⟨rfl, rfl⟩ | simp
  · have e : fitsM a s = false := by unfold fitsM; rw [decide_eq_false h0]; rfl
    rw [e]
    clear e
    go_wp2_with fail
    go_ret
    first | exact ⟨rfl, rfl⟩ | simp

def pendR (q : List (Nat × Nat)) (f n : Int) : Bool := q.any fun p => (p.1 : Int) == f && (p.2 : Int) == n
set_option maxHeartbeats 1000000 in
set_option maxRecDepth 100000 in
theorem rpending_c (r : Nat) (fv qv kv : Value) (X : R) (f n : Int) (w : World) (h : RAt w r fv qv kv X) (hl : X.q.length ≤ 9223372036854775807) :
    Calls Tryd.prog 61 #[.pointer (some ⟨r, 0, none⟩), .int .i64 f, .int .i64 n] w fun e w' => e = .returned (.bool (pendR X.q f n)) ∧ w' = w := by
  obtain ⟨qa, qc, rfl, _⟩ := own_shape h.queue
  obtain ⟨L, hL⟩ : ∃ L, L = X.q.length := ⟨_, rfl⟩
  have hfl := h.queue
  rw [← hL] at h hl hfl
  have c1 := h.c1
  have HL := Lib.hid hL
  have HF := Lib.hid hfl
  clear h hfl hL
  go_enter Tryd.func61, Tryd.ntmps61
  go_wp2_with fail
  go_loopw [7] (fun v7 wr => ∃ k : Nat, k ≤ L ∧ v7 = .int .i64 (k : Int) ∧ Hid (pendR (X.q.take k) f n = false) ∧ wr = w) (fun v7 _ => L - (intOf v7).toNat)
  case atStart => exact ⟨0, Nat.zero_le _, rfl, Lib.hid rfl, rfl⟩
  case round =>
    obtain ⟨k, hk, rfl, HN, hwr⟩ := hrel
    rw [hwr]
    clear hwr
    by_cases hkl : k < L
    · have hkl' : (k : Int) < (L : Int) := by omega
      obtain ⟨p, hp⟩ : ∃ p, X.q[k]? = some p := ⟨X.q[k]'(by have := HL.out; omega), List.getElem?_eq_getElem _⟩
      obtain ⟨g, rfl, _, d0, d1⟩ := secs_cells (by rw [← HL.out]; exact HF.out) hp
      have HP := Lib.hid hp
      clear hp
      have hnext : ∀ b : Bool, ((p.1 : Int) == f && (p.2 : Int) == n) = b → Hid (pendR (X.q.take (k + 1)) f n = b) := fun b hb => Lib.hid (by
        have h0 := HN.out
        unfold pendR at h0 ⊢
        rw [List.take_add_one, HP.out, List.any_append, h0]
        simp [hb])
      by_cases h1 : (p.1 : Int) = f
      · by_cases h2 : (p.2 : Int) = n
        · have HE := Lib.hid (show pendR X.q f n = true from by
            unfold pendR
            rw [List.any_eq_true]
            exact ⟨p, List.mem_of_getElem? HP.out, by simp [h1, h2]⟩)
          clear hnext
          go_wp2_with fail
          go_ret
          rw [HE.out]
          exact ⟨rfl, rfl⟩
        · have HE := hnext false (by simp [h2])
          clear hnext
          go_wp2_with fail
          go_roundw
          case rel => exact ⟨k + 1, hkl, by go_num, HE, by first | rfl | trivial⟩
          case measure => simp [intOf]; omega
      · have HE := hnext false (by simp [h1])
        clear hnext
        go_wp2_with fail
        go_roundw
        case rel => exact ⟨k + 1, hkl, by go_num, HE, by first | rfl | trivial⟩
        case measure => simp [intOf]; omega
    · have hkl' : ¬ (k : Int) < (L : Int) := by omega
      have HE := Lib.hid (show pendR X.q f n = false from by
        have := HN.out
        rw [List.take_of_length_le (by have := HL.out; omega)] at this
        exact this)
      go_wp2_with fail
      go_ret
      rw [HE.out]
      exact ⟨rfl, rfl⟩

/-- What Read returns. -/
def readR (X : R) (f a n : Int) : List UInt8 × Int := if X.down then ([], 9) else if ok f && decide (0 ≤ a) && decide (0 ≤ n) then (((getR X.fs f).now.drop a.toNat).take n.toNat, 0) else ([], 1)
set_option maxHeartbeats 1000000 in
set_option maxRecDepth 100000 in
theorem rread_c (r : Nat) (fv qv kv : Value) (X : R) (hX : X.Ok) (f a n : Int) (hn : n ≤ 9223372036854775807) (w : World) (h : RAt w r fv qv kv X) :
    Calls Tryd.prog 29 #[.pointer (some ⟨r, 0, none⟩), .int .i64 f, .int .i64 a, .int .i64 n] w
      fun e w' => e = .returned (.tuple #[.string ⟨(readR X f a n).1.toArray⟩, .int .i64 (readR X f a n).2]) ∧ Below w.heap.size w w' := by
  have hfew := hX.few
  have q := rget_c r fv qv kv X f w h (by omega)
  have hsm := (getR_small hX f).1
  obtain ⟨x, hx⟩ : ∃ x, x = getR X.fs f := ⟨_, rfl⟩
  unfold readR
  rw [← hx] at q hsm ⊢
  unfold rfV at q
  have Q := Lib.hid q
  have M := Lib.hid (rmay_c r fv qv kv X f w h)
  obtain ⟨nm, N, dr⟩ := x
  have hfd := rf_now
  have hsm : N.length ≤ 16777216 := hsm
  clear h q hx hfew hX
  have key : ∀ m : Int, M = M → True := fun _ _ => trivial
  clear key
  unfold mayM at M
  cases hd : X.down with
  | true =>
    rw [hd] at M
    have M := Lib.hid M.out
    go_enter Tryd.func29, Tryd.ntmps29
    go_wp2_with (go_at_call 48; refine M.out.mono ?_; rintro e w1 ⟨rfl, h1⟩; rw [h1]; clear h1)
    go_ret2
    exact ⟨rfl, Below.refl _ _⟩
  | false =>
    rw [hd] at M
    cases hok : ok f with
    | false =>
      rw [hok] at M
      go_enter Tryd.func29, Tryd.ntmps29
      go_wp2_with (go_at_call 48; refine M.out.mono ?_; rintro e w1 ⟨rfl, h1⟩; rw [h1]; clear h1)
      go_ret2
      exact ⟨rfl, Below.refl _ _⟩
    | true =>
      rw [hok] at M
      by_cases ha : a < 0
      · have e : decide (0 ≤ a) = false := decide_eq_false (by omega)
        rw [e]
        clear e
        go_enter Tryd.func29, Tryd.ntmps29
        go_wp2_with (go_at_call 48; refine M.out.mono ?_; rintro e w1 ⟨rfl, h1⟩; rw [h1]; clear h1)
        go_ret2
        exact ⟨rfl, Below.refl _ _⟩
      · by_cases hn0 : n < 0
        · have e : decide (0 ≤ n) = false := decide_eq_false (by omega)
          rw [e]
          clear e
          have e2 : decide (0 ≤ a) = true := decide_eq_true (by omega)
          rw [e2]
          clear e2
          go_enter Tryd.func29, Tryd.ntmps29
          go_wp2_with (go_at_call 48; refine M.out.mono ?_; rintro e w1 ⟨rfl, h1⟩; rw [h1]; clear h1)
          go_ret2
          exact ⟨rfl, Below.refl _ _⟩
        · have e : decide (0 ≤ n) = true := decide_eq_true (by omega)
          have e2 : decide (0 ≤ a) = true := decide_eq_true (by omega)
          rw [e, e2]
          clear e e2
          obtain ⟨a, rfl⟩ := Int.eq_ofNat_of_zero_le (show 0 ≤ a by omega)
          obtain ⟨n, rfl⟩ := Int.eq_ofNat_of_zero_le (show 0 ≤ n by omega)
          simp only [Int.toNat_natCast]
          by_cases hl : N.length ≤ a
          · have hl' : (N.length : Int) ≤ (a : Int) := by omega
            have he : (N.drop a).take n = [] := by rw [List.drop_of_length_le hl]; simp
            have HE := Lib.hid he
            clear he
            go_enter Tryd.func29, Tryd.ntmps29
            go_wp2_with (first | (go_at_call 48; refine M.out.mono ?_; rintro e w1 ⟨rfl, h1⟩; rw [h1]; clear h1) | (go_at_call 49; refine Q.out.mono ?_; rintro e w2 ⟨rfl, hb⟩))
            go_ret2
            refine ⟨?_, hb⟩
            rw [HE.out]
            rfl
          · have hl' : ¬ (N.length : Int) ≤ (a : Int) := by omega
            obtain ⟨m, hm⟩ : ∃ m, m = min n (N.length - a) := ⟨_, rfl⟩
            obtain ⟨en, hen⟩ : ∃ en, en = a + m := ⟨_, rfl⟩
            have hsl := slice_str N a en (by omega) (by omega)
            have hm2 : (if (N.length : Int) - (a : Int) < (n : Int) then (N.length : Int) - (a : Int) else (n : Int)) = (m : Int) := by split <;> omega
            have hm3 : (a : Int) + (m : Int) = (en : Int) := by omega
            have hme : m ≤ 16777216 := by omega
            have hene : en ≤ 16777216 := by omega
            have he : (N.take en).drop a = (N.drop a).take n := by
              rw [hen, mid_eq N a n a m (by omega) hm]
            have HE := Lib.hid he
            clear he hm hen
            go_enter Tryd.func29, Tryd.ntmps29
            go_wp2_with (first | (go_at_call 48; refine M.out.mono ?_; rintro e w1 ⟨rfl, h1⟩; rw [h1]; clear h1) | (go_at_call 49; refine Q.out.mono ?_; rintro e w2 ⟨rfl, hb⟩))
            go_ret2
            refine ⟨?_, hb⟩
            rw [HE.out]
            rfl

/-- The reference's disk, in blocks of S alone. -/
def RIn (w : World) (r : Nat) (S : Nat → Prop) (X : R) : Prop := ∃ fv qv kv, RAt w r fv qv kv X ∧ ∀ k, InR r fv qv kv k → S k
theorem RIn.kept {w w' : World} {S T : Nat → Prop} {r : Nat} {X : R} (h : RIn w r S X) (hk : Kept T w w') (hn : ∀ k, S k → ¬ T k) : RIn w' r S X := by
  obtain ⟨fv, qv, kv, h1, h2⟩ := h
  exact ⟨fv, qv, kv, h1.kept hk (fun k hin => hn k (h2 k hin)), h2⟩
theorem RIn.mono {w : World} {S T : Nat → Prop} {r : Nat} {X : R} (h : RIn w r S X) (hs : ∀ k, k < w.heap.size → S k → T k) : RIn w r T X := by
  obtain ⟨fv, qv, kv, h1, h2⟩ := h
  exact ⟨fv, qv, kv, h1, fun k hin => hs k (h1.lt hin) (h2 k hin)⟩
/-- Numbers and the flag set, the rest as it was. -/
theorem RAt.recell {w w' : World} {r : Nat} {fv qv kv : Value} {X : R} (h : RAt w r fv qv kv X) (hk : Kept (fun k => k = r) w w') (lost left : Nat) (down : Bool)
    (hc : w'.heap[r]? = some (.cells #[fv, qv, .int .i64 (lost : Int), .bool down, .int .i64 (left : Int), kv] 66 (0, 0))) : RAt w' r fv qv kv { X with lost := lost, left := left, down := down } :=
  { cell := hc
    files := own_kept h.files hk (fun k e e' => h.nf (by rw [e, e']))
    queue := own_kept h.queue hk (fun k e e' => h.nq (by rw [e, e']))
    keep := own_kept h.keep hk (fun k e e' => h.nk (by rw [e, e']))
    nf := h.nf, nq := h.nq, nk := h.nk, fq := h.fq, fk := h.fk, qk := h.qk }
theorem rstart_c (r : Nat) (fv qv kv : Value) (X : R) (w : World) (h : RAt w r fv qv kv X) : Calls Tryd.prog 22 #[.pointer (some ⟨r, 0, none⟩)] w fun e w' => e = .returned (.tuple #[]) ∧ RAt w' r fv qv kv { X with down := false } ∧ Kept (fun k => k = r) w w' := by
  have c3 := h.c3
  have z3 := h.z 3
  have H := Lib.hid h
  clear h
  go_enter Tryd.func22, Tryd.ntmps22
  go_wp2_with fail
  go_end0
  have hk := Kept.set r 3 w (.bool false)
  exact ⟨rfl, H.out.recell hk X.lost X.left false (cells6_set H.out.cell 3 (.bool false) (by omega)), hk⟩
theorem rlose_c (r : Nat) (fv qv kv : Value) (X : R) (n : Int) (w : World) (h : RAt w r fv qv kv X) : Calls Tryd.prog 17 #[.pointer (some ⟨r, 0, none⟩), .int .i64 n] w fun e w' => e = .returned (.tuple #[]) ∧ RAt w' r fv qv kv { X with lost := n.toNat } ∧ Kept (fun k => k = r) w w' := by
  have c2 := h.c2
  have z2 := h.z 2
  have hm : (if n < 0 then (0 : Int) else n) = (n.toNat : Int) := by split <;> omega
  have H := Lib.hid h
  clear h
  obtain ⟨m, hme⟩ : ∃ m, m = n.toNat := ⟨_, rfl⟩
  rw [← hme] at hm ⊢
  clear hme
  go_enter Tryd.func17, Tryd.ntmps17
  go_wp2_with fail
  go_end0
  have hk := Kept.set r 2 w (.int .i64 (m : Int))
  exact ⟨rfl, H.out.recell hk m X.left X.down (cells6_set H.out.cell 2 (.int .i64 (m : Int)) (by omega)), hk⟩
end Go.Proofs.YtninopllfbiccaaDoor

namespace Go.Proofs.YtninopllfbiccaaDoor
set_option maxRecDepth 100000
open Go Go.RowKit Go.Maps Dk

theorem infoRFile : (Tryd.prog.info? 82).map (fun i => (i.zero, i.size, i.bytes)) = some (some (.agg #[.int .i64 0, .string ⟨#[]⟩, .string ⟨#[]⟩]), 3, 40) := by kernel_rfl
theorem infoRSec : (Tryd.prog.info? 80).map (fun i => (i.zero, i.size, i.bytes)) = some (some (.agg #[.int .i64 0, .int .i64 0]), 2, 16) := by kernel_rfl
theorem own_above {w : World} {base : Nat} {e : TypeId} {size : Nat} {v : Value} {n : Nat} {xs : List Value} (h : w.ownsRow base e size v n xs) {k : Nat} (hk : v.ownBlock = some k) : base ≤ k := by
  rcases h.2 with ⟨rfl, _⟩ | ⟨g, cap, cur, rfl, hg, _⟩
  · cases hk
  · injection hk with hk; subst hk; exact hg
theorem own_kept' {w w' : World} {S : Nat → Prop} {base : Nat} {e : TypeId} {size : Nat} {v : Value} {n : Nat} {xs : List Value} (h : w.ownsRow base e size v n xs) (hk : Kept S w w') (hn : ∀ k, v.ownBlock = some k → ¬ S k) : w'.ownsRow base e size v n xs := own_kept h hk hn
/-- One file appended to a row of files. -/
theorem app_file (w : World) (base : Nat) (v : Value) (fs : List RF) (x : RF) (h : w.ownsRow base 82 3 v fs.length (filesV fs)) (hl : fs.length ≤ 1000) (hb : base ≤ w.heap.size) :
    ∃ a c w', (Builtin.append_ #[63, 63] 63 #[v, .slice (some ⟨w.heap.size, 0, none⟩) 1 1]).run Tryd.prog (w.alloc (.cells #[.int .i64 x.num, .string ⟨x.now.toArray⟩, .string ⟨x.dur.toArray⟩] 82)) = .ok (.slice a (fs.length + 1) c) w' ∧
      w'.ownsRow base 82 3 (.slice a (fs.length + 1) c) (fs ++ [x]).length (filesV (fs ++ [x])) ∧ ((Value.slice a (fs.length + 1) c).ownBlock = v.ownBlock ∨ ∃ y, (Value.slice a (fs.length + 1) c).ownBlock = some y ∧ w.heap.size ≤ y) ∧ Kept (fun k => v.ownBlock = some k) w w' := by
  obtain ⟨i0, hi0, hz0, hz1, hz2⟩ := info_parts infoRFile
  obtain ⟨v5, w5, hr, hown5, hgr5, hbl5⟩ := run_append_any_own (P := Tryd.prog) (w.alloc (.cells #[.int .i64 x.num, .string ⟨x.now.toArray⟩, .string ⟨x.dur.toArray⟩] 82)) base 63 63 82 i0 _ 3 40 Tryd.underlying63 hi0 hz0 hz1 hz2 rfl (by decide) _ _ _ (h.alloc _)
    (some ⟨w.heap.size, 0, none⟩) 1 1 [.int .i64 x.num, .string ⟨x.now.toArray⟩, .string ⟨x.dur.toArray⟩] rfl (fun _ => ⟨_, rfl, fun j u hu => by
      rw [Lib.add_plain, Lib.cell_of_heap (heap_alloc_new w _)]
      match j, hu with
      | 0, hu => simpa using hu
      | 1, hu => simpa using hu
      | 2, hu => simpa using hu⟩) (by simp [Value.oneCell']) (by unfold maxLen; omega) (by omega) (by simp; omega)
  obtain ⟨a, c, rfl, _⟩ := own_shape (own_base hown5)
  refine ⟨a, c, w5, hr, ?_, ?_, (Kept.alloc _ w _).trans (Kept.grown hgr5 (fun k e => e)) (fun _ _ e => e)⟩
  · rw [filesV_app, List.length_append]; exact hown5
  · rcases hbl5 with e | e
    · exact Or.inl e
    · exact Or.inr ⟨_, e, by simp⟩
theorem app_sec (w : World) (base : Nat) (v : Value) (q : List (Nat × Nat)) (p : Nat × Nat) (h : w.ownsRow base 80 2 v q.length (secsV q)) (hl : q.length ≤ 10000000) (hb : base ≤ w.heap.size) :
    ∃ a c w', (Builtin.append_ #[64, 64] 64 #[v, .slice (some ⟨w.heap.size, 0, none⟩) 1 1]).run Tryd.prog (w.alloc (.cells #[.int .i64 (p.1 : Int), .int .i64 (p.2 : Int)] 80)) = .ok (.slice a (q.length + 1) c) w' ∧
      w'.ownsRow base 80 2 (.slice a (q.length + 1) c) (q ++ [p]).length (secsV (q ++ [p])) ∧ ((Value.slice a (q.length + 1) c).ownBlock = v.ownBlock ∨ ∃ y, (Value.slice a (q.length + 1) c).ownBlock = some y ∧ w.heap.size ≤ y) ∧ Kept (fun k => v.ownBlock = some k) w w' := by
  obtain ⟨i0, hi0, hz0, hz1, hz2⟩ := info_parts infoRSec
  obtain ⟨v5, w5, hr, hown5, hgr5, hbl5⟩ := run_append_any_own (P := Tryd.prog) (w.alloc (.cells #[.int .i64 (p.1 : Int), .int .i64 (p.2 : Int)] 80)) base 64 64 80 i0 _ 2 16 Tryd.underlying64 hi0 hz0 hz1 hz2 rfl (by decide) _ _ _ (h.alloc _)
    (some ⟨w.heap.size, 0, none⟩) 1 1 [.int .i64 (p.1 : Int), .int .i64 (p.2 : Int)] rfl (fun _ => ⟨_, rfl, fun j u hu => by
      rw [Lib.add_plain, Lib.cell_of_heap (heap_alloc_new w _)]
      match j, hu with
      | 0, hu => simpa using hu
      | 1, hu => simpa using hu⟩) (by simp [Value.oneCell']) (by unfold maxLen; omega) (by omega) (by simp; omega)
  obtain ⟨a, c, rfl, _⟩ := own_shape (own_base hown5)
  refine ⟨a, c, w5, hr, ?_, ?_, (Kept.alloc _ w _).trans (Kept.grown hgr5 (fun k e => e)) (fun _ _ e => e)⟩
  · rw [secsV_app, List.length_append]; exact hown5
  · rcases hbl5 with e | e
    · exact Or.inl e
    · exact Or.inr ⟨_, e, by simp⟩

set_option maxHeartbeats 2000000 in
set_option maxRecDepth 100000 in
theorem rset_c (r : Nat) (fv qv kv : Value) (X : R) (x : RF) (hl : X.fs.length ≤ 100) (w : World) (h : RAt w r fv qv kv X) :
    Calls Tryd.prog 58 #[.pointer (some ⟨r, 0, none⟩), rfV x] w fun e w' => e = .returned (.tuple #[]) ∧ ∃ fv', RAt w' r fv' qv kv { X with fs := setR X.fs x } ∧ (∀ k, fv'.ownBlock = some k → w.heap.size ≤ k) ∧ Kept (fun k => k = r) w w' := by
  obtain ⟨fa, fc, rfl, _⟩ := own_shape h.files
  obtain ⟨L, hL⟩ : ∃ L, L = X.fs.length := ⟨_, rfl⟩
  have hfl := h.files
  rw [← hL] at h hl hfl
  obtain ⟨W1, hW1⟩ : ∃ W1, W1 = w.alloc (.cells #[.int .i64 x.num, .string ⟨x.now.toArray⟩, .string ⟨x.dur.toArray⟩] 82) := ⟨_, rfl⟩
  have hb1 : Below w.heap.size w W1 := by rw [hW1]; exact (Below.refl _ _).alloc (Nat.le_refl _) _
  have hx1 : FBox W1 w.heap.size x := by rw [hW1]; exact FBox.new w x
  have hs1 : w.heap.size + 1 ≤ W1.heap.size := by rw [hW1]; simp
  have HL := Lib.hid hL
  have H := Lib.hid h
  have HB := Lib.hid hb1
  have HX := Lib.hid hx1
  have HS := Lib.hid hs1
  clear h hfl hb1 hx1 hs1 hL
  unfold rfV
  go_enter Tryd.func58, Tryd.ntmps58
  go_wp2_with fail
  rw [← hW1]
  clear hW1
  go_loopw [4, 5] (fun v4 v5 wr => ∃ k : Nat, k ≤ L ∧ v5 = .int .i64 (k : Int) ∧ Hid (wr.ownsRow (w.heap.size + 1) 82 3 v4 ((X.fs.take k).filter (fun y => y.num != x.num)).length (filesV ((X.fs.take k).filter (fun y => y.num != x.num)))) ∧ FBox wr w.heap.size x ∧ Below w.heap.size w wr) (fun _ v5 _ => L - (intOf v5).toNat)
  case atStart => exact ⟨0, Nat.zero_le _, rfl, Lib.hid (by simp only [List.take_zero, List.filter_nil]; exact World.ownsRow_nil _ _ _ _), HX.out, HB.out⟩
  case round =>
    obtain ⟨k, hk, rfl, HO, hx, hb⟩ := hrel
    have hR := H.out.on hb
    have c0 := hR.c0
    have b0 := hx.c0
    have HFX := Lib.hid hx
    have HBB := Lib.hid hb
    have HRR := Lib.hid hR
    by_cases hkl : k < L
    · have hkl' : (k : Int) < (L : Int) := by omega
      have hk0 : (0 : Int) ≤ (k : Int) := by omega
      obtain ⟨y, hy⟩ : ∃ y, X.fs[k]? = some y := ⟨X.fs[k]'(by have := HL.out; omega), List.getElem?_eq_getElem _⟩
      obtain ⟨g, rfl, _, d0, d1, d2⟩ := files_cells (by have := hR.files; exact this) hy
      have HY := Lib.hid hy
      clear hR hx hb hy
      by_cases hne : y.num = x.num
      · go_wp2_with fail
        go_quiet (fail)
        go_wp2_with fail
        go_roundw
        case rel =>
          refine ⟨k + 1, hkl, by go_num, Lib.hid ?_, HFX.out, below_drewN HBB.out _⟩
          have e : (X.fs.take (k + 1)).filter (fun y => y.num != x.num) = (X.fs.take k).filter (fun y => y.num != x.num) := by
            rw [List.take_add_one, HY.out, List.filter_append]
            simp [hne]
          rw [e]
          exact own_kept HO.out (Kept.below (S := fun _ => False) (below_drewN (Below.refl _ _) _)) (fun _ _ e => e)
        case measure => simp [intOf]; omega
      · go_wp2_with fail
        go_quiet (fail)
        generalize hwd : World.drewN _ _ = wy
        have hk1 : Kept (fun _ => False) wr wy := by rw [← hwd]; exact Kept.below (below_drewN (Below.refl _ _) _)
        have hs1 : w.heap.size + 1 ≤ wy.heap.size := by have := hk1.size; have := HFX.out.lt; omega
        obtain ⟨a', c', w5, hr, ho5, hb5, hk5⟩ := app_file wy (w.heap.size + 1) _ _ y (own_kept HO.out hk1 (fun _ _ e => e)) (by have := List.length_filter_le (fun y => y.num != x.num) (X.fs.take k); have := HL.out; simp at *; omega) hs1
        have e0 := hk1.cell c0 (fun e => e)
        have e1 := hk1.cell d0 (fun e => e)
        have e2 := hk1.cell d1 (fun e => e)
        have e3 := hk1.cell d2 (fun e => e)
        have hrel : ∃ k' : Nat, k' ≤ L ∧ Value.int .i64 ((k : Int) + 1) = .int .i64 (k' : Int) ∧ Hid (w5.ownsRow (w.heap.size + 1) 82 3 (.slice a' (((X.fs.take k).filter (fun y => y.num != x.num)).length + 1) c') ((X.fs.take k').filter (fun y => y.num != x.num)).length (filesV ((X.fs.take k').filter (fun y => y.num != x.num)))) ∧ FBox w5 w.heap.size x ∧ Below w.heap.size w w5 := by
          have e : (X.fs.take (k + 1)).filter (fun y => y.num != x.num) = (X.fs.take k).filter (fun y => y.num != x.num) ++ [y] := by
            rw [List.take_add_one, HY.out, List.filter_append]
            simp [hne]
          have hab : ∀ j, _ := fun j (e : _ = some j) => own_above HO.out e
          refine ⟨k + 1, hkl, by go_num, Lib.hid (by rw [e]; exact ho5), ?_, ?_⟩
          · exact (hk5.block _ (by omega) (fun e => by have := hab _ e; omega)).trans ((hk1.block _ HFX.out.lt (fun e => e)).trans HFX.out)
          · exact HBB.out.trans (((hk1.toBelow (B := w.heap.size) (by have := HFX.out.lt; omega) (fun _ e => e.elim))).trans (hk5.toBelow (by omega) (fun k e => by have := hab k e; omega)))
        have HR := Lib.hid hr
        have HREL := Lib.hid hrel
        clear hr ho5 hb5 hk5 hrel hk1 hs1 hwd c0 d0 d1 d2 b0
        go_wp2_with (at_builtin; refine Lib.wpList_append_run _ rfl _ _ _ _ rfl _ _ rfl rfl _ w5 HR.out ?_)
        go_roundw
        case rel => exact HREL.out
        case measure => simp [intOf]; omega
    · have hkl' : ¬ (k : Int) < (L : Int) := by omega
      have b1 := hx.c1
      have b2 := hx.c2
      have hfe : (X.fs.take k).filter (fun y => y.num != x.num) = X.fs.filter (fun y => y.num != x.num) := by rw [List.take_of_length_le (by have := HL.out; omega)]
      rw [hfe] at HO
      have hs1 : w.heap.size + 1 ≤ wr.heap.size := by have := HFX.out.lt; omega
      obtain ⟨a', c', w5, hr, ho5, hb5, hk5⟩ := app_file wr (w.heap.size + 1) _ _ x HO.out (by have := List.length_filter_le (fun y => y.num != x.num) X.fs; have := HL.out; omega) hs1
      have hab : ∀ j, _ := fun j (e : _ = some j) => own_above HO.out e
      have hrs : r < w.heap.size := H.out.lt (Or.inl rfl)
      have hR5 := hR.kept hk5 (fun k hin e => by
        have h1 := H.out.lt hin
        have h2 := hab k e
        omega)
      have e0 := hR5.c0
      have z0 := hR5.z 0
      have hb5' : ∀ j, (Value.slice a' ((X.fs.filter (fun y => y.num != x.num)).length + 1) c').ownBlock = some j → w.heap.size ≤ j := fun j e => by have := own_above ho5 e; omega
      have hk6 := Kept.set r 0 w5 (.slice a' ((X.fs.filter (fun y => y.num != x.num)).length + 1) c')
      have hfin : RAt (w5.setCell ⟨r, 0, none⟩ (.slice a' ((X.fs.filter (fun y => y.num != x.num)).length + 1) c')) r (.slice a' ((X.fs.filter (fun y => y.num != x.num)).length + 1) c') qv kv { X with fs := setR X.fs x } :=
        { cell := cells6_set hR5.cell 0 _ (by omega)
          files := own_base (own_kept ho5 hk6 (fun j e e' => by have := hb5' j e; omega))
          queue := own_kept hR5.queue hk6 (fun j e e' => hR5.nq (by rw [e, e']))
          keep := own_kept hR5.keep hk6 (fun j e e' => hR5.nk (by rw [e, e']))
          nf := fun e => by have := hb5' r e; omega
          nq := hR5.nq
          nk := hR5.nk
          fq := fun j e e' => by have h1 := hb5' j e; have h2 := H.out.lt (Or.inr (Or.inr (Or.inl e'))); omega
          fk := fun j e e' => by have h1 := hb5' j e; have h2 := H.out.lt (Or.inr (Or.inr (Or.inr e'))); omega
          qk := hR5.qk }
      have hkk : Kept (fun k => k = r) w (w5.setCell ⟨r, 0, none⟩ (.slice a' ((X.fs.filter (fun y => y.num != x.num)).length + 1) c')) := by
        refine ((Kept.below (S := fun k => k = r) hb).trans (hk5.mono (S' := fun k => w.heap.size < k) (fun k _ e => by have := hab k e; omega)) (fun k hk e => by omega)).trans hk6 (fun _ _ e => e)
      have HR := Lib.hid hr
      have HFIN := Lib.hid hfin
      have HKK := Lib.hid hkk
      have HBB5 := Lib.hid hb5'
      clear hr ho5 hb5 hk5 hk6 hb5' hfin hkk hR5 hR hx hb hfe hs1 HO hab
      go_wp2_with (at_builtin; refine Lib.wpList_append_run _ rfl _ _ _ _ rfl _ _ rfl rfl _ w5 HR.out ?_)
      go_end0
      exact ⟨rfl, _, HFIN.out, HBB5.out, HKK.out⟩
end Go.Proofs.YtninopllfbiccaaDoor
