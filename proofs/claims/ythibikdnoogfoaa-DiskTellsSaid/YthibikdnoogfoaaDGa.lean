/-
  The reference's disk: as lists, in a heap; its functions that only read.
-/
import Derived.Test.YthibikdnoogfoaaDReads
import Derived.Laws.ResultCell
import Derived.Laws.Rows
import Derived.BigQuiet
namespace Go.Proofs.Ythibikdnoogfoaa
open Go Go.RowKit Go.Maps Dk

namespace Dk
/-- A file of the reference: its number, its bytes, its durable part. -/
structure RF where
  num : Int
  now : List UInt8
  dur : List UInt8
structure R where
  fs : List RF
  q : List (Nat × Nat)
  lost : Nat
  down : Bool
  left : Nat
  keep : List Int
def getR (fs : List RF) (f : Int) : RF := (fs.find? fun x => x.num == f).getD ⟨f, [], []⟩
def setR (fs : List RF) (x : RF) : List RF := fs.filter (fun y => y.num != x.num) ++ [x]
structure R.Ok (X : R) : Prop where
  range : ∀ x ∈ X.fs, 0 ≤ x.num ∧ x.num < 16
  nodup : X.fs.Pairwise fun a b => a.num ≠ b.num
  small : ∀ x ∈ X.fs, x.now.length ≤ 16777216 ∧ x.dur.length ≤ 16777216
  len : X.q.length ≤ 4456449
  sec : ∀ p ∈ X.q, p.1 < 16 ∧ p.2 ≤ 262144
  lost : (X.lost : Int) ≤ 9223372036854775807
  left : (X.left : Int) ≤ 9223372036854775807
  keepIn : ∀ k ∈ X.keep, -9223372036854775808 ≤ k ∧ k ≤ 9223372036854775807
  keepLen : X.keep.length ≤ 4398046511104
theorem R.Ok.few {X : R} (h : X.Ok) : X.fs.length ≤ 16 := by
  have h1 := len_le_of_nodup 16 (X.fs.map fun x => x.num.toNat) (by
    refine List.Pairwise.map (R := fun a b => a.num ≠ b.num ∧ a ∈ X.fs ∧ b ∈ X.fs) _ ?_ ?_
    · rintro a b ⟨hne, h1, h2⟩ e
      have g1 := h.range a h1
      have g2 := h.range b h2
      omega
    · exact List.Pairwise.imp_of_mem (fun {a b} ha hb h => ⟨h, ha, hb⟩) h.nodup) (fun x hx => by
    obtain ⟨y, hy, rfl⟩ := List.mem_map.1 hx
    have := h.range y hy
    omega)
  simpa using h1
theorem getR_at {fs : List RF} {f : Int} {k : Nat} {x : RF} (h : ∀ y ∈ fs.take k, y.num ≠ f) (hx : fs[k]? = some x) (hf : x.num = f) : getR fs f = x := by
  have hk : k < fs.length := (List.getElem?_eq_some_iff.1 hx).1
  have e : fs = fs.take k ++ x :: fs.drop (k + 1) := by
    have := List.drop_eq_getElem_cons hk
    rw [(List.getElem?_eq_some_iff.1 hx).2] at this
    rw [← this, List.take_append_drop]
  have h1 : (fs.take k).find? (fun x => x.num == f) = none := by
    rw [List.find?_eq_none]
    intro y hy
    simpa using h y hy
  unfold getR
  rw [e, List.find?_append, h1, List.find?_cons_of_pos (by simpa using hf)]
  rfl
theorem getR_none {fs : List RF} {f : Int} (h : ∀ y ∈ fs, y.num ≠ f) : getR fs f = ⟨f, [], []⟩ := by
  have h1 : fs.find? (fun x => x.num == f) = none := by
    rw [List.find?_eq_none]
    intro y hy
    simpa using h y hy
  unfold getR
  rw [h1]
  rfl
theorem getR_cases (fs : List RF) (f : Int) : (getR fs f ∈ fs ∧ (getR fs f).num = f) ∨ getR fs f = ⟨f, [], []⟩ := by
  unfold getR
  cases h : fs.find? (fun x => x.num == f) with
  | none => exact Or.inr rfl
  | some x =>
    refine Or.inl ⟨List.mem_of_find?_eq_some h, ?_⟩
    have := List.find?_some h
    simpa using this
theorem getR_num (fs : List RF) (f : Int) : (getR fs f).num = f := by
  rcases getR_cases fs f with ⟨_, h⟩ | h
  · exact h
  · rw [h]
theorem getR_small {X : R} (h : X.Ok) (f : Int) : (getR X.fs f).now.length ≤ 16777216 ∧ (getR X.fs f).dur.length ≤ 16777216 := by
  rcases getR_cases X.fs f with ⟨h1, _⟩ | h1
  · exact h.small _ h1
  · rw [h1]; exact ⟨Nat.zero_le _, Nat.zero_le _⟩
theorem getR_set_same (fs : List RF) (x : RF) : getR (setR fs x) x.num = x := by
  have h1 : (fs.filter (fun y => y.num != x.num)).find? (fun y => y.num == x.num) = none := by
    rw [List.find?_eq_none]
    intro y hy
    have := (List.mem_filter.1 hy).2
    simpa using this
  unfold getR setR
  rw [List.find?_append, h1, List.find?_cons_of_pos (by simp)]
  rfl
theorem getR_set_other (fs : List RF) (x : RF) {f : Int} (hf : f ≠ x.num) : getR (setR fs x) f = getR fs f := by
  unfold getR setR
  rw [List.find?_append, List.find?_filter, List.find?_cons_of_neg (by simpa using fun e => hf e.symm)]
  simp only [List.find?_nil, Option.or_none]
  congr 2
  funext y
  by_cases h : y.num = f
  · simp [h, hf]
  · simp [h]
theorem R.Ok.set {X : R} (h : X.Ok) (x : RF) (h1 : 0 ≤ x.num ∧ x.num < 16) (h2 : x.now.length ≤ 16777216) (h3 : x.dur.length ≤ 16777216) : R.Ok { X with fs := setR X.fs x } := by
  refine ⟨fun y hy => ?_, ?_, fun y hy => ?_, h.len, h.sec, h.lost, h.left, h.keepIn, h.keepLen⟩
  · rcases List.mem_append.1 hy with hy | hy
    · exact h.range y (List.mem_filter.1 hy).1
    · obtain rfl := List.mem_singleton.1 hy; exact h1
  · show (X.fs.filter (fun y => y.num != x.num) ++ [x]).Pairwise _
    rw [List.pairwise_append]
    refine ⟨h.nodup.filter _, List.pairwise_singleton _ _, fun a ha b hb => ?_⟩
    obtain rfl := List.mem_singleton.1 hb
    have := (List.mem_filter.1 ha).2
    simpa using this
  · rcases List.mem_append.1 hy with hy | hy
    · exact h.small y (List.mem_filter.1 hy).1
    · obtain rfl := List.mem_singleton.1 hy; exact ⟨h2, h3⟩
end Dk

def rfV (x : RF) : Value := .agg #[.int .i64 x.num, .string ⟨x.now.toArray⟩, .string ⟨x.dur.toArray⟩]
def filesV (fs : List RF) : List Value := fs.flatMap fun x => [.int .i64 x.num, .string ⟨x.now.toArray⟩, .string ⟨x.dur.toArray⟩]
theorem filesV_cons (x : RF) (fs : List RF) : filesV (x :: fs) = [Value.int .i64 x.num, .string ⟨x.now.toArray⟩, .string ⟨x.dur.toArray⟩] ++ filesV fs := by simp [filesV]
theorem filesV_app (a b : List RF) : filesV (a ++ b) = filesV a ++ filesV b := by simp [filesV]
theorem filesV_length (fs : List RF) : (filesV fs).length = fs.length * 3 := by
  induction fs with
  | nil => rfl
  | cons x fs ih => rw [filesV_cons, List.length_append, ih]; simp; omega
theorem filesV_get (fs : List RF) : ∀ (k : Nat) (x : RF), fs[k]? = some x → (filesV fs)[k * 3]? = some (.int .i64 x.num) ∧ (filesV fs)[k * 3 + 1]? = some (.string ⟨x.now.toArray⟩) ∧ (filesV fs)[k * 3 + 2]? = some (.string ⟨x.dur.toArray⟩) := by
  induction fs with
  | nil => intro k x h; simp at h
  | cons a fs ih =>
    intro k x h
    rw [filesV_cons]
    cases k with
    | zero =>
      simp at h
      subst h
      exact ⟨rfl, rfl, rfl⟩
    | succ k =>
      obtain ⟨h1, h2, h3⟩ := ih k x (by simpa using h)
      refine ⟨?_, ?_, ?_⟩
      · rw [List.getElem?_append_right (by simp; omega), ← h1]
        congr 1
        simp
        omega
      · rw [List.getElem?_append_right (by simp; omega), ← h2]
        congr 1
        simp
        omega
      · rw [List.getElem?_append_right (by simp; omega), ← h3]
        congr 1
        simp
        omega

/-- The reference's disk in a heap. -/
structure RAt (w : World) (r : Nat) (fv qv kv : Value) (X : R) : Prop where
  cell : w.heap[r]? = some (.cells #[fv, qv, .int .i64 (X.lost : Int), .bool X.down, .int .i64 (X.left : Int), kv] 61 (0, 0))
  files : w.ownsRow 0 69 3 fv X.fs.length (filesV X.fs)
  queue : w.ownsRow 0 81 2 qv X.q.length (secsV X.q)
  keep : w.ownsRow 0 3 1 kv X.keep.length (intsV X.keep)
  nf : fv.ownBlock ≠ some r
  nq : qv.ownBlock ≠ some r
  nk : kv.ownBlock ≠ some r
  fq : ∀ k, fv.ownBlock = some k → qv.ownBlock ≠ some k
  fk : ∀ k, fv.ownBlock = some k → kv.ownBlock ≠ some k
  qk : ∀ k, qv.ownBlock = some k → kv.ownBlock ≠ some k
def InR (r : Nat) (fv qv kv : Value) (k : Nat) : Prop := k = r ∨ fv.ownBlock = some k ∨ qv.ownBlock = some k ∨ kv.ownBlock = some k
theorem RAt.lt {w : World} {r : Nat} {fv qv kv : Value} {X : R} (h : RAt w r fv qv kv X) {k : Nat} (hk : InR r fv qv kv k) : k < w.heap.size := by
  rcases hk with rfl | hk | hk | hk
  · exact (Array.getElem?_eq_some_iff.1 h.cell).1
  · exact own_lt h.files hk
  · exact own_lt h.queue hk
  · exact own_lt h.keep hk
theorem RAt.kept {w w' : World} {T : Nat → Prop} {r : Nat} {fv qv kv : Value} {X : R} (h : RAt w r fv qv kv X) (hk : Kept T w w') (hn : ∀ k, InR r fv qv kv k → ¬ T k) : RAt w' r fv qv kv X :=
  { cell := hk.heap h.cell (hn r (Or.inl rfl))
    files := own_kept h.files hk (fun k e => hn k (Or.inr (Or.inl e)))
    queue := own_kept h.queue hk (fun k e => hn k (Or.inr (Or.inr (Or.inl e))))
    keep := own_kept h.keep hk (fun k e => hn k (Or.inr (Or.inr (Or.inr e))))
    nf := h.nf, nq := h.nq, nk := h.nk, fq := h.fq, fk := h.fk, qk := h.qk }
theorem RAt.on {w w' : World} {r : Nat} {fv qv kv : Value} {X : R} (h : RAt w r fv qv kv X) (hb : Below w.heap.size w w') : RAt w' r fv qv kv X := h.kept (Kept.below (S := fun _ => False) hb) (fun _ _ e => e)
theorem RAt.c0 {w : World} {r : Nat} {fv qv kv : Value} {X : R} (h : RAt w r fv qv kv X) : w.cell? ⟨r, 0, none⟩ = some fv := by rw [Lib.cell_of_heap h.cell]; rfl
theorem RAt.c1 {w : World} {r : Nat} {fv qv kv : Value} {X : R} (h : RAt w r fv qv kv X) : w.cell? ⟨r, 1, none⟩ = some qv := by rw [Lib.cell_of_heap h.cell]; rfl
theorem RAt.c2 {w : World} {r : Nat} {fv qv kv : Value} {X : R} (h : RAt w r fv qv kv X) : w.cell? ⟨r, 2, none⟩ = some (.int .i64 (X.lost : Int)) := by rw [Lib.cell_of_heap h.cell]; rfl
theorem RAt.c3 {w : World} {r : Nat} {fv qv kv : Value} {X : R} (h : RAt w r fv qv kv X) : w.cell? ⟨r, 3, none⟩ = some (.bool X.down) := by rw [Lib.cell_of_heap h.cell]; rfl
theorem RAt.c4 {w : World} {r : Nat} {fv qv kv : Value} {X : R} (h : RAt w r fv qv kv X) : w.cell? ⟨r, 4, none⟩ = some (.int .i64 (X.left : Int)) := by rw [Lib.cell_of_heap h.cell]; rfl
theorem RAt.c5 {w : World} {r : Nat} {fv qv kv : Value} {X : R} (h : RAt w r fv qv kv X) : w.cell? ⟨r, 5, none⟩ = some kv := by rw [Lib.cell_of_heap h.cell]; rfl
theorem RAt.z {w : World} {r : Nat} {fv qv kv : Value} {X : R} (h : RAt w r fv qv kv X) (o : Nat) : w.frozen? ⟨r, o, none⟩ = false := Lib.frozen_of_heap h.cell o
/-- The cells of a file, where a row of files lies. -/
theorem files_cells {w : World} {a : Option Addr} {n c : Nat} {fs : List RF} (h : w.ownsRow 0 69 3 (.slice a n c) fs.length (filesV fs)) {k : Nat} {x : RF} (hx : fs[k]? = some x) :
    ∃ g, a = some ⟨g, 0, none⟩ ∧ (Value.slice a n c).ownBlock = some g ∧ w.cell? ⟨g, k * 3, none⟩ = some (.int .i64 x.num) ∧ w.cell? ⟨g, k * 3 + 1, none⟩ = some (.string ⟨x.now.toArray⟩) ∧ w.cell? ⟨g, k * 3 + 2, none⟩ = some (.string ⟨x.dur.toArray⟩) := by
  have hk : k < fs.length := (List.getElem?_eq_some_iff.1 hx).1
  have hn : fs.length = n := by
    rcases h.2 with ⟨e, h0⟩ | ⟨g, cap, cur, e, _⟩
    · omega
    · injection e with _ e _; exact e.symm
  rw [hn] at h
  obtain ⟨g, rfl, hb⟩ := own_at2 h rfl (by omega)
  obtain ⟨h1, h2, h3⟩ := filesV_get fs k x hx
  refine ⟨g, rfl, hb, ?_, ?_, ?_⟩
  · have := own_cell_size h rfl _ _ h1; rw [Lib.add_plain, Nat.zero_add] at this; exact this
  · have := own_cell_size h rfl _ _ h2; rw [Lib.add_plain, Nat.zero_add] at this; exact this
  · have := own_cell_size h rfl _ _ h3; rw [Lib.add_plain, Nat.zero_add] at this; exact this
theorem secs_cells {w : World} {e : TypeId} {a : Option Addr} {n c : Nat} {q : List (Nat × Nat)} (h : w.ownsRow 0 e 2 (.slice a n c) q.length (secsV q)) {k : Nat} {p : Nat × Nat} (hp : q[k]? = some p) :
    ∃ g, a = some ⟨g, 0, none⟩ ∧ (Value.slice a n c).ownBlock = some g ∧ w.cell? ⟨g, k * 2, none⟩ = some (.int .i64 (p.1 : Int)) ∧ w.cell? ⟨g, k * 2 + 1, none⟩ = some (.int .i64 (p.2 : Int)) := by
  have hk : k < q.length := (List.getElem?_eq_some_iff.1 hp).1
  have hn : q.length = n := by
    rcases h.2 with ⟨e, h0⟩ | ⟨g, cap, cur, e, _⟩
    · omega
    · injection e with _ e _; exact e.symm
  rw [hn] at h
  obtain ⟨g, rfl, hb⟩ := own_at2 h rfl (by omega)
  obtain ⟨h1, h2⟩ := secsV_get q k p hp
  refine ⟨g, rfl, hb, ?_, ?_⟩
  · have := own_cell_size h rfl _ _ h1; rw [Lib.add_plain, Nat.zero_add] at this; exact this
  · have := own_cell_size h rfl _ _ h2; rw [Lib.add_plain, Nat.zero_add] at this; exact this

/-- A block that holds a file of the reference. -/
def FBox (w : World) (b : Nat) (x : RF) : Prop := w.heap[b]? = some (.cells #[.int .i64 x.num, .string ⟨x.now.toArray⟩, .string ⟨x.dur.toArray⟩] 69 (0, 0))
theorem FBox.lt {w : World} {b : Nat} {x : RF} (h : FBox w b x) : b < w.heap.size := (Array.getElem?_eq_some_iff.1 h).1
theorem FBox.on {w w' : World} {b : Nat} {x : RF} (h : FBox w b x) (hb : Below w.heap.size w w') : FBox w' b x := (hb.block b h.lt).trans h
theorem FBox.c0 {w : World} {b : Nat} {x : RF} (h : FBox w b x) : w.cell? ⟨b, 0, none⟩ = some (.int .i64 x.num) := by rw [Lib.cell_of_heap h]; rfl
theorem FBox.c1 {w : World} {b : Nat} {x : RF} (h : FBox w b x) : w.cell? ⟨b, 1, none⟩ = some (.string ⟨x.now.toArray⟩) := by rw [Lib.cell_of_heap h]; rfl
theorem FBox.c2 {w : World} {b : Nat} {x : RF} (h : FBox w b x) : w.cell? ⟨b, 2, none⟩ = some (.string ⟨x.dur.toArray⟩) := by rw [Lib.cell_of_heap h]; rfl
theorem FBox.z {w : World} {b : Nat} {x : RF} (h : FBox w b x) (i : Nat) : w.frozen? ⟨b, i, none⟩ = false := Lib.frozen_of_heap h i
theorem FBox.new (w : World) (x : RF) : FBox (w.alloc (.cells #[.int .i64 x.num, .string ⟨x.now.toArray⟩, .string ⟨x.dur.toArray⟩] 69)) w.heap.size x := heap_alloc_new w _
theorem FBox.set3 {w : World} {b : Nat} {x : RF} (h : FBox w b x) (y : RF) : FBox (((w.setCell ⟨b, 0, none⟩ (.int .i64 y.num)).setCell ⟨b, 1, none⟩ (.string ⟨y.now.toArray⟩)).setCell ⟨b, 2, none⟩ (.string ⟨y.dur.toArray⟩)) b y := by
  unfold FBox at *
  simp [World.setCell, Array.getElem?_modify, h]
theorem below_set3 {B : Nat} {w0 w : World} (h : Below B w0 w) {b : Nat} (hb : B ≤ b) (x y z : Value) : Below B w0 (((w.setCell ⟨b, 0, none⟩ x).setCell ⟨b, 1, none⟩ y).setCell ⟨b, 2, none⟩ z) :=
  ((h.setCell (p := ⟨b, 0, none⟩) hb _).setCell (p := ⟨b, 1, none⟩) hb _).setCell (p := ⟨b, 2, none⟩) hb _
theorem infoRF : (Try.prog.info? 69).map (·.size) = some 3 := by kernel_rfl
theorem ret_rf {fn : Func} {p : Tmp} (hr : fn.results = #[.cell p 69]) (tmps : Array Value) (w : World) (b : Nat) (x : RF) (hp : tmps.getD p undef = .pointer (some ⟨b, 0, none⟩)) (h : FBox w b x) :
    (results fn tmps).run Try.prog w = .ok (rfV x) w :=
  results_cell_row hr tmps w b _ _ _ _ hp h Try.underlying69 rfl (by rw [infoRF]; rfl)

set_option maxHeartbeats 1000000 in
set_option maxRecDepth 100000 in
theorem rget_c (r : Nat) (fv qv kv : Value) (X : R) (f : Int) (w : World) (h : RAt w r fv qv kv X) (hl : X.fs.length ≤ 9223372036854775807) :
    Calls Try.prog 40 #[.pointer (some ⟨r, 0, none⟩), .int .i64 f] w fun e w' => e = .returned (rfV (getR X.fs f)) ∧ Below w.heap.size w w' := by
  obtain ⟨fa, fc, rfl, _⟩ := own_shape h.files
  obtain ⟨L, hL⟩ : ∃ L, L = X.fs.length := ⟨_, rfl⟩
  have hfl := h.files
  rw [← hL] at h hl hfl
  obtain ⟨W1, hW1⟩ : ∃ W1, W1 = w.alloc (.cells #[.int .i64 0, .string ⟨#[]⟩, .string ⟨#[]⟩] 69) := ⟨_, rfl⟩
  have hb1 : Below w.heap.size w W1 := by rw [hW1]; exact (Below.refl _ _).alloc (Nat.le_refl _) _
  have hx1 : FBox W1 w.heap.size ⟨0, [], []⟩ := by rw [hW1]; exact FBox.new w ⟨0, [], []⟩
  have h1 := h.on hb1
  have c0 := h1.c0
  have b0 := hx1.c0
  have b1 := hx1.c1
  have b2 := hx1.c2
  have z0 := hx1.z 0
  have z1 := hx1.z 1
  have z2 := hx1.z 2
  have HL := Lib.hid hL
  have HF := Lib.hid (own_kept hfl (Kept.below (S := fun _ => False) hb1) (fun _ _ e => e))
  have HB := Lib.hid hb1
  have HX := Lib.hid hx1
  clear h h1 hfl hb1 hx1 hL
  go_enter Try.func40, Try.ntmps40
  go_wp2_with fail
  rw [← hW1]
  clear hW1
  go_loopw [5] (fun v5 wr => ∃ k : Nat, k ≤ L ∧ v5 = .int .i64 (k : Int) ∧ Hid (∀ y ∈ X.fs.take k, y.num ≠ f) ∧ wr = W1) (fun v5 _ => L - (intOf v5).toNat)
  case atStart => exact ⟨0, Nat.zero_le _, rfl, Lib.hid (by simp), rfl⟩
  case round =>
    obtain ⟨k, hk, rfl, HN, hwr⟩ := hrel
    rw [hwr]
    clear hwr
    by_cases hkl : k < L
    · have hkl' : (k : Int) < (L : Int) := by omega
      obtain ⟨x, hx⟩ : ∃ x, X.fs[k]? = some x := ⟨X.fs[k]'(by have := HL.out; omega), List.getElem?_eq_getElem _⟩
      obtain ⟨g, rfl, _, d0, d1, d2⟩ := files_cells (by rw [← HL.out]; exact HF.out) hx
      have HX' := Lib.hid hx
      clear hx
      by_cases hf : x.num = f
      · have HG := Lib.hid (getR_at HN.out HX'.out hf)
        go_wp2_with fail
        (try simp only [Exit.inBlock, Exit.then])
        refine bodyPost_ret (ret_rf rfl _ _ w.heap.size x rfl (by rw [← hf]; exact HX.out.set3 x)) rfl ?_
        refine ⟨by rw [HG.out], by rw [← hf]; exact below_set3 HB.out (Nat.le_refl _) _ _ _⟩
      · go_wp2_with fail
        go_roundw
        case rel =>
          refine ⟨k + 1, hkl, by go_num, Lib.hid (fun y hy => ?_), by first | rfl | trivial⟩
          rw [List.take_add_one, HX'.out] at hy
          rcases List.mem_append.1 hy with hy | hy
          · exact HN.out y hy
          · simp at hy; rw [hy]; exact hf
        case measure => simp [intOf]; omega
    · have hkl' : ¬ (k : Int) < (L : Int) := by omega
      have HG := Lib.hid (show getR X.fs f = ⟨f, [], []⟩ from getR_none (fun y hy => HN.out y (by rw [List.take_of_length_le (by have := HL.out; omega)]; exact hy)))
      go_wp2_with fail
      (try simp only [Exit.inBlock, Exit.then])
      refine bodyPost_ret (ret_rf rfl _ _ w.heap.size ⟨f, [], []⟩ rfl (HX.out.set3 ⟨f, [], []⟩)) rfl ?_
      exact ⟨by rw [HG.out], below_set3 HB.out (Nat.le_refl _) _ _ _⟩
end Go.Proofs.Ythibikdnoogfoaa
