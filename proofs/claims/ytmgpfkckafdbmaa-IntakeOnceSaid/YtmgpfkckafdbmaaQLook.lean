/-
  Right, stored, follows, sort.Search with the closure of find, find.
-/
import Derived.Test.YtmgpfkckafdbmaaQSmall
namespace Go.Proofs.Ytmgpfkckafdbmaa
set_option maxRecDepth 100000
open Go Go.RowKit Pq

theorem tab_drop {s : List P} {k : Nat} {p : P} (hx : s[k]? = some p) (m : Int) : Tab m (s.drop k) ↔ m < p.id ∧ (inB p.id ∧ OkP p) ∧ Tab p.id (s.drop (k + 1)) := by
  obtain ⟨h1, h2⟩ := List.getElem?_eq_some_iff.1 hx
  rw [List.drop_eq_getElem_cons h1, h2]
  show _ ∧ _ ∧ _ ∧ _ ↔ _
  constructor
  · rintro ⟨a, b, c, d⟩; exact ⟨a, ⟨b, c⟩, d⟩
  · rintro ⟨a, ⟨b, c⟩, d⟩; exact ⟨a, b, c, d⟩
/-- Where a record's position lies. -/
theorem follows_c {G : Nat → Prop} {w : World} {a : Option Addr} {c : Nat} {l : List Int} (h : Src G w a c l.length (numsV l)) (hn : l.length ≤ 9223372036854775807) (pos : Int) :
    Calls Try.prog 39 #[.int .i64 pos, .slice a l.length c] w fun e w' => e = .returned (.bool (decide (below l pos))) ∧ w' = w := by
  rcases List.eq_nil_or_concat l with rfl | ⟨l', x, rfl⟩
  · have HF := Lib.hid (show decide (below [] pos) = true from decide_eq_true (fun x hx => by simp at hx))
    clear h
    go_enter Try.func39, Try.ntmps39
    go_wp2_with fail
    go_ret
    exact ⟨by rw [HF.out]; rfl, rfl⟩
  · have hlen : (l'.concat x).length = l'.length + 1 := by simp
    obtain ⟨b, off, rfl, c0⟩ := num_cell h rfl (show (l'.concat x)[l'.length]? = some x by simp)
    have HF := Lib.hid (show below (l'.concat x) pos ↔ x < pos from ⟨fun f => f x (by simp), fun f y hy => by simp at hy; omega⟩)
    rw [hlen] at hn ⊢
    have hz : (((l'.length + 1 : Nat) : Int) == 0) = false := by simp; omega
    have hw1 : IntKind.i64.wrap (((l'.length + 1 : Nat) : Int) - 1) = (l'.length : Int) := by rw [IntKind.wrap_i64]; omega
    generalize l'.length = m at *
    have hz2 : ((m : Int) + 1 == 0) = false := by simpa using hz
    generalize l'.concat x = l0 at *
    clear h hlen
    by_cases hp : x < pos
    · have HG := Lib.hid (show decide (below l0 pos) = true from decide_eq_true (HF.out.2 hp))
      go_enter Try.func39, Try.ntmps39
      go_wp2_with fail
      go_ret
      exact ⟨by rw [HG.out]; rfl, rfl⟩
    · have HG := Lib.hid (show decide (below l0 pos) = false from decide_eq_false (fun f => hp (HF.out.1 f)))
      go_enter Try.func39, Try.ntmps39
      go_wp2_with fail
      go_ret
      exact ⟨by rw [HG.out]; exact congrArg (fun b => Ending.returned (.bool b)) hz2, rfl⟩
def storedI (p : P) (q : Int) : Int := if p.last.length < (p.nx - q).toNat then -1 else p.last.getD (p.last.length - (p.nx - q).toNat) 0
theorem stored_c {G : Nat → Prop} {w : World} {x : PP} (h : x.ok G w) (h1 : inB x.p.nx) (h2 : x.p.last.length ≤ 100000) (q : Int) (hq : 0 ≤ q) (hq2 : q < x.p.nx) :
    Calls Try.prog 42 #[x.val, .int .i64 q] w fun e w' => e = .returned (.int .i64 (storedI x.p q)) ∧ Below w.heap.size w w' := by
  obtain ⟨W1, hW1⟩ : ∃ W1, W1 = w.alloc x.obj := ⟨_, rfl⟩
  have hb1 : Below w.heap.size w W1 := by rw [hW1]; exact below_new w _
  have hx1 : x.at W1 w.heap.size := by rw [hW1]; exact box_new w _
  have hok := h.on hb1
  have hc := hx1.cells
  have c0 := hc.c0
  have c1 := hc.c1
  have c2 := hc.c2
  have c3 := hc.c3
  have HB := Lib.hid hb1
  obtain ⟨⟨i, ep, nx, last⟩, a, c⟩ := x
  have hs : storedI ⟨i, ep, nx, last⟩ q = if (last.length : Int) - (nx - q) < 0 then -1 else last.getD ((last.length : Int) - (nx - q)).toNat 0 := by
    unfold storedI
    dsimp only at *
    by_cases g : (last.length : Int) - (nx - q) < 0
    · rw [if_pos g, if_pos (by omega)]
    · rw [if_neg g, if_neg (by omega)]
      congr 1
      omega
  rw [hs]
  unfold PP.obj at hW1
  unfold PP.val
  unfold PP.ok at hok
  unfold inB at h1
  dsimp only at *
  have hw1 : IntKind.i64.wrap (nx - q) = nx - q := by rw [IntKind.wrap_i64]; omega
  have hw2 : IntKind.i64.wrap ((last.length : Int) - (nx - q)) = (last.length : Int) - (nx - q) := by rw [IntKind.wrap_i64]; omega
  clear hs hb1 hx1 h hc
  by_cases g : (last.length : Int) - (nx - q) < 0
  · rw [if_pos g]
    clear hok
    generalize last.length = L at *
    go_enter Try.func42, Try.ntmps42
    go_upto_region 1 with fail
    rw [← hW1]
    clear hW1
    go_wp2_with fail
    go_ret
    exact ⟨rfl, HB.out⟩
  · rw [if_neg g]
    obtain ⟨k, hk⟩ : ∃ k : Nat, (last.length : Int) - (nx - q) = (k : Int) := ⟨((last.length : Int) - (nx - q)).toNat, by omega⟩
    have hkl : k < last.length := by omega
    obtain ⟨y, hy⟩ : ∃ y, last[k]? = some y := ⟨_, List.getElem?_eq_getElem hkl⟩
    obtain ⟨b, off, rfl, e0⟩ := num_cell hok rfl hy
    rw [hk] at hw2 g ⊢
    have e : last.getD (k : Int).toNat 0 = y := by rw [Int.toNat_natCast, List.getD_eq_getElem?_getD, hy]; rfl
    rw [e]
    clear hok hy e
    have hkl' : (k : Int) < (last.length : Int) := by omega
    generalize last.length = L at *
    go_enter Try.func42, Try.ntmps42
    go_upto_region 1 with fail
    rw [← hW1]
    clear hW1
    go_wp2_with fail
    go_ret
    exact ⟨rfl, HB.out⟩
end Go.Proofs.Ytmgpfkckafdbmaa
