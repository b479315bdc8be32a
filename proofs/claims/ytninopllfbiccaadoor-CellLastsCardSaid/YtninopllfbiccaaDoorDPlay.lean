/-
  The law's helpers: few, played.
-/
import Derived.Test.YtninopllfbiccaaDoorDSmall
namespace Go.Proofs.YtninopllfbiccaaDoor
set_option maxRecDepth 100000
open Go Go.RowKit Go.Maps Dk

/-- A list of acts that came in. -/
def ActsOf (P : Act → Prop) (w : World) (v : Value) (l : List Act) : Prop :=
  l.length ≤ 9223372036854775807 ∧ ∃ a c, v = .slice a l.length c ∧ ∀ i x, l[i]? = some x → ∃ b off ka kc, a = some ⟨b, off, none⟩ ∧
    (w.cell? ⟨b, off + i * 5, none⟩ = some (.int .i64 x.op) ∧ w.cell? ⟨b, off + i * 5 + 1, none⟩ = some (.int .i64 x.f) ∧ w.cell? ⟨b, off + i * 5 + 2, none⟩ = some (.int .i64 x.n) ∧ w.cell? ⟨b, off + i * 5 + 3, none⟩ = some (.string ⟨x.s.toArray⟩) ∧
      w.cell? ⟨b, off + i * 5 + 4, none⟩ = some (.slice ka x.keep.length kc)) ∧ SrcV w 1 (.slice ka x.keep.length kc) x.keep.length (intsV x.keep) ∧ P x
theorem ActsOf.on {P : Act → Prop} {w w' : World} {v : Value} {l : List Act} (h : ActsOf P w v l) (hb : Below w.heap.size w w') : ActsOf P w' v l := by
  obtain ⟨h0, a, c, h1, h2⟩ := h
  refine ⟨h0, a, c, h1, fun i x hx => ?_⟩
  obtain ⟨b, off, ka, kc, h3, ⟨c0, c1, c2, c3, c4⟩, h4, h5⟩ := h2 i x hx
  have hk : ∀ {p : Addr} {v : Value}, w.cell? p = some v → w'.cell? p = some v := fun hp => (Kept.below (S := fun _ => False) hb).cell hp (fun e => e)
  exact ⟨b, off, ka, kc, h3, ⟨hk c0, hk c1, hk c2, hk c3, hk c4⟩, h4.on hb, h5⟩
theorem ActsOf.mono {P Q : Act → Prop} {w : World} {v : Value} {l : List Act} (h : ActsOf P w v l) (hPQ : ∀ x ∈ l, P x → Q x) : ActsOf Q w v l := by
  obtain ⟨h0, a, c, h1, h2⟩ := h
  refine ⟨h0, a, c, h1, fun i x hx => ?_⟩
  obtain ⟨b, off, ka, kc, h3, h4, h5, h6⟩ := h2 i x hx
  exact ⟨b, off, ka, kc, h3, h4, h5, hPQ x (List.mem_of_getElem? hx) h6⟩
/-- An act, as it may come in: its list of numbers may be long. -/
structure Act.Fit (a : Act) : Prop where
  op : In64 a.op
  f : In64 a.f
  n : In64 a.n
  s : a.s.length ≤ 9223372036854775807
  keepIn : ∀ k ∈ a.keep, In64 k
abbrev ActsAt (w : World) (v : Value) (l : List Act) : Prop := ActsOf Act.Ok w v l
abbrev ActsIn (w : World) (v : Value) (l : List Act) : Prop := ActsOf Act.Fit w v l
theorem ActsOf.toIn {w : World} {v : Value} {l : List Act} (h : ActsAt w v l) : ActsIn w v l := h.mono fun _ _ ok => ⟨ok.op, ok.f, ok.n, ok.s, ok.keepIn⟩

def fine (x : Act) : Bool := !(decide (300 < x.s.length) || decide (60 < x.keep.length) || (decide (3000 < x.n) && decide (x.n < 16776916)))
def fewM (l : List Act) : Bool := l.all fine && decide (l.length ≤ 40)
theorem ActsOf.few {w : World} {v : Value} {l : List Act} (h : ActsIn w v l) (hf : fewM l = true) : ActsAt w v l := by
  refine h.mono fun x hx ok => ⟨ok.op, ok.f, ok.n, ok.s, ?_, ok.keepIn⟩
  unfold fewM at hf
  rw [Bool.and_eq_true, List.all_eq_true] at hf
  have := hf.1 x hx
  unfold fine at this
  simp only [Bool.not_eq_true', Bool.or_eq_false_iff, decide_eq_false_iff_not] at this
  omega

def playM (l : List Act) : D := l.foldl (fun X a => (doM X a).1) D.new

end Go.Proofs.YtninopllfbiccaaDoor
