/-
  Right, stored, follows, sort.Search with the closure of find, find.
-/
import Derived.Test.YtlfjbiiacnikhaaDoorQSmall
namespace Go.Proofs.YtlfjbiiacnikhaaDoor
set_option maxRecDepth 100000
open Go Go.RowKit Pq

theorem tab_drop {s : List P} {k : Nat} {p : P} (hx : s[k]? = some p) (m : Int) : Tab m (s.drop k) ↔ m < p.id ∧ (inB p.id ∧ OkP p) ∧ Tab p.id (s.drop (k + 1)) := by
  obtain ⟨h1, h2⟩ := List.getElem?_eq_some_iff.1 hx
  rw [List.drop_eq_getElem_cons h1, h2]
  show _ ∧ _ ∧ _ ∧ _ ↔ _
  constructor
  · rintro ⟨a, b, c, d⟩; exact ⟨a, ⟨b, c⟩, d⟩
  · rintro ⟨a, ⟨b, c⟩, d⟩; exact ⟨a, b, c, d⟩
set_option maxHeartbeats 1000000 in
theorem rightT_c {G : Nat → Prop} {w : World} {a : Option Addr} {c : Nat} {l : List PP} (h : Tb G w a c l) (hn : l.length ≤ 9223372036854775807) (hd : ∀ x ∈ l, x.p.last.length ≤ 9223372036854775807) :
    Calls Tryd.prog 8 #[.slice a l.length c] w fun e w' => e = .returned (.bool (decide (Right (tab l)))) ∧ Below w.heap.size w w' := by
  obtain ⟨L, hL⟩ : ∃ L, L = l.length := ⟨_, rfl⟩
  have HL := Lib.hid hL
  by_cases h50 : 50 < L
  · have HF := Lib.hid (show decide (Right (tab l)) = false from decide_eq_false (fun f => by have := f.1; rw [tab_length] at this; omega))
    rw [← hL] at hn ⊢
    have h50' : (50 : Int) < (L : Int) := by omega
    clear hL h
    go_enter Tryd.func8, Tryd.ntmps8
    go_wp2_with fail
    go_ret
    exact ⟨by rw [HF.out]; rfl, Below.refl _ _⟩
  · have HT := Lib.hid (show Right (tab l) ↔ Tab (-1) (tab l) from ⟨fun f => f.2, fun f => ⟨by rw [tab_length]; omega, f⟩⟩)
    have HS := Lib.hid (fun (W : World) (hW : Below w.heap.size w W) => h.on hW)
    have HD := Lib.hid hd
    rw [← hL] at hn ⊢
    have h50' : ¬ (50 : Int) < (L : Int) := by omega
    clear h hL hd
    go_enter Tryd.func8, Tryd.ntmps8
    go_wp2_with fail
    go_loopw [3, 11] (fun v3 v11 wr => ∃ (k : Nat) (p : Int), k ≤ L ∧ v3 = .int .i64 p ∧ v11 = .int .i64 (k : Int) ∧ (Tab (-1) (tab l) ↔ Tab p ((tab l).drop k)) ∧ Below w.heap.size w wr) (fun _ v11 _ => L - (intOf v11).toNat)
    case atStart => exact ⟨0, -1, Nat.zero_le _, rfl, rfl, Iff.rfl, Below.refl _ _⟩
    case round =>
      obtain ⟨k, p, hk, rfl, rfl, hs, hb⟩ := hrel
      by_cases hkl : k < L
      · have hkl' : (k : Int) < (L : Int) := by omega
        obtain ⟨x, hx⟩ : ∃ x, l[k]? = some x := ⟨l[k]'(by have := HL.out; omega), List.getElem?_eq_getElem _⟩
        obtain ⟨b, off, rfl, hc⟩ := pp_cells (HS.out wr hb).row rfl hx
        have c0 := hc.c0
        have c1 := hc.c1
        have c2 := hc.c2
        have c3 := hc.c3
        obtain ⟨W1, hW1⟩ : ∃ W1, W1 = wr.alloc x.obj := ⟨_, rfl⟩
        have hb1 : Below wr.heap.size wr W1 := by rw [hW1]; exact below_new wr _
        have hx1 : x.at W1 wr.heap.size := by rw [hW1]; exact box_new wr _
        have hxm : x ∈ l := List.mem_of_getElem? hx
        have hok := ((HS.out wr hb).last x hxm).on hb1
        have QR := Lib.hid (right_c hok (HD.out x hxm))
        have HA := Lib.hid (hs.trans (tab_drop (tab_get hx) p))
        have HB := Lib.hid (hb.trans (hb1.mono hb.size))
        have hd1 := hx1.cells
        have d0 := hd1.c0
        have d1 := hd1.c1
        have d2 := hd1.c2
        have d3 := hd1.c3
        obtain ⟨⟨i, ep, nx, last⟩, xa, xc⟩ := x
        unfold PP.obj at hW1
        dsimp only at *
        clear hs hx hb hb1 hx1 hok hc hxm hd1
        by_cases h1 : i ≤ p
        · have HF := Lib.hid (show decide (Right (tab l)) = false from decide_eq_false (fun f => by have := (HA.out.1 (HT.out.1 f)).1; omega))
          go_upto_region 7 with fail
          rw [← hW1]
          clear hW1 c0 c1 c2 c3
          go_wp2_with fail
          go_ret
          exact ⟨by rw [HF.out]; rfl, HB.out⟩
        · by_cases h2 : inB i ∧ OkP ⟨i, ep, nx, last⟩
          · have Q2 := Lib.hid (by have := QR.out; rw [decide_eq_true h2] at this; exact this)
            have HA2 := Lib.hid (show Tab (-1) (tab l) ↔ Tab i ((tab l).drop (k + 1)) from HA.out.trans ⟨fun f => f.2.2, fun f => ⟨by omega, h2, f⟩⟩)
            clear h2
            go_upto_region 7 with fail
            rw [← hW1]
            clear hW1 c0 c1 c2 c3
            go_wp2_with (go_at_call 26; refine Q2.out.mono ?_; rintro e w1 ⟨rfl, hb2⟩; have e0 := (Kept.below (S := fun _ => False) hb2).cell d0 (fun e => e))
            go_roundw
            case rel => exact ⟨k + 1, i, hkl, rfl, by go_num, HA2.out, HB.out.trans (hb2.mono HB.out.size)⟩
            case measure => simp [intOf]; omega
          · have Q2 := Lib.hid (by have := QR.out; rw [decide_eq_false h2] at this; exact this)
            have HF := Lib.hid (show decide (Right (tab l)) = false from decide_eq_false (fun f => h2 (HA.out.1 (HT.out.1 f)).2.1))
            clear h2
            go_upto_region 7 with fail
            rw [← hW1]
            clear hW1 c0 c1 c2 c3
            go_wp2_with (go_at_call 26; refine Q2.out.mono ?_; rintro e w1 ⟨rfl, hb2⟩)
            go_ret
            exact ⟨by rw [HF.out]; rfl, HB.out.trans (hb2.mono HB.out.size)⟩
      · have hkl' : ¬ (k : Int) < (L : Int) := by omega
        have HF := Lib.hid (show decide (Right (tab l)) = true from decide_eq_true (HT.out.2 (hs.2 (by rw [List.drop_eq_nil_of_le (by rw [tab_length]; have := HL.out; omega)]; trivial))))
        clear hs
        go_wp2_with fail
        go_ret
        exact ⟨by rw [HF.out]; rfl, hb⟩
/-- Where a record's position lies. -/
theorem follows_c {G : Nat → Prop} {w : World} {a : Option Addr} {c : Nat} {l : List Int} (h : Src G w a c l.length (numsV l)) (hn : l.length ≤ 9223372036854775807) (pos : Int) :
    Calls Tryd.prog 30 #[.int .i64 pos, .slice a l.length c] w fun e w' => e = .returned (.bool (decide (below l pos))) ∧ w' = w := by
  rcases List.eq_nil_or_concat l with rfl | ⟨l', x, rfl⟩
  · have HF := Lib.hid (show decide (below [] pos) = true from decide_eq_true (fun x hx => by simp at hx))
    clear h
    go_enter Tryd.func30, Tryd.ntmps30
    go_wp2_with fail
    go_ret
    exact ⟨by rw [HF.out]; rfl, rfl⟩
  · have hlen : (l'.concat x).length = l'.length + 1 := by simp
    obtain ⟨b, off, rfl, c0⟩ := num_cell h rfl (show (l'.concat x)[l'.length]? = some x by simp)
    have HF := Lib.hid (show below (l'.concat x) pos ↔ x < pos from ⟨fun f => f x (by simp), fun f y hy => by simp at hy; omega⟩)
    rw [hlen] at hn ⊢
    have hz : (((l'.length + 1 : Nat) : Int) == 0) = false := by simp; omega
    have hw1 : IntKind.i64.wrap (((l'.length + 1 : Nat) : Int) - 1) = (l'.length : Int) := by rw [IntKind.wrap_i64]; omega
    generalize l'.length = m at *
    have hz2 : ((m : Int) + 1 == 0) = false := by simpa using hz
    generalize l'.concat x = l0 at *
    clear h hlen
    by_cases hp : x < pos
    · have HG := Lib.hid (show decide (below l0 pos) = true from decide_eq_true (HF.out.2 hp))
      go_enter Tryd.func30, Tryd.ntmps30
      go_wp2_with fail
      go_ret
      exact ⟨by rw [HG.out]; rfl, rfl⟩
    · have HG := Lib.hid (show decide (below l0 pos) = false from decide_eq_false (fun f => hp (HF.out.1 f)))
      go_enter Tryd.func30, Tryd.ntmps30
      go_wp2_with fail
      go_ret
      exact ⟨by rw [HG.out]; exact congrArg (fun b => Ending.returned (.bool b)) hz2, rfl⟩
def storedI (p : P) (q : Int) : Int := if p.last.length < (p.nx - q).toNat then -1 else p.last.getD (p.last.length - (p.nx - q).toNat) 0
theorem stored_c {G : Nat → Prop} {w : World} {x : PP} (h : x.ok G w) (h1 : inB x.p.nx) (h2 : x.p.last.length ≤ 100000) (q : Int) (hq : 0 ≤ q) (hq2 : q < x.p.nx) :
    Calls Tryd.prog 35 #[x.val, .int .i64 q] w fun e w' => e = .returned (.int .i64 (storedI x.p q)) ∧ Below w.heap.size w w' := by
  obtain ⟨W1, hW1⟩ : ∃ W1, W1 = w.alloc x.obj := ⟨_, rfl⟩
  have hb1 : Below w.heap.size w W1 := by rw [hW1]; exact below_new w _
  have hx1 : x.at W1 w.heap.size := by rw [hW1]; exact box_new w _
  have hok := h.on hb1
  have hc := hx1.cells
  have c0 := hc.c0
  have c1 := hc.c1
  have c2 := hc.c2
  have c3 := hc.c3
  have HB := Lib.hid hb1
  obtain ⟨⟨i, ep, nx, last⟩, a, c⟩ := x
  have hs : storedI ⟨i, ep, nx, last⟩ q = if (last.length : Int) - (nx - q) < 0 then -1 else last.getD ((last.length : Int) - (nx - q)).toNat 0 := by
    unfold storedI
    dsimp only at *
    by_cases g : (last.length : Int) - (nx - q) < 0
    · rw [if_pos g, if_pos (by omega)]
    · rw [if_neg g, if_neg (by omega)]
      congr 1
      omega
  rw [hs]
  unfold PP.obj at hW1
  unfold PP.val
  unfold PP.ok at hok
  unfold inB at h1
  dsimp only at *
  have hw1 : IntKind.i64.wrap (nx - q) = nx - q := by rw [IntKind.wrap_i64]; omega
  have hw2 : IntKind.i64.wrap ((last.length : Int) - (nx - q)) = (last.length : Int) - (nx - q) := by rw [IntKind.wrap_i64]; omega
  clear hs hb1 hx1 h hc
  by_cases g : (last.length : Int) - (nx - q) < 0
  · rw [if_pos g]
    clear hok
    generalize last.length = L at *
    go_enter Tryd.func35, Tryd.ntmps35
    go_upto_region 1 with fail
    rw [← hW1]
    clear hW1
    go_wp2_with fail
    go_ret
    exact ⟨rfl, HB.out⟩
  · rw [if_neg g]
    obtain ⟨k, hk⟩ : ∃ k : Nat, (last.length : Int) - (nx - q) = (k : Int) := ⟨((last.length : Int) - (nx - q)).toNat, by omega⟩
    have hkl : k < last.length := by omega
    obtain ⟨y, hy⟩ : ∃ y, last[k]? = some y := ⟨_, List.getElem?_eq_getElem hkl⟩
    obtain ⟨b, off, rfl, e0⟩ := num_cell hok rfl hy
    rw [hk] at hw2 g ⊢
    have e : last.getD (k : Int).toNat 0 = y := by rw [Int.toNat_natCast, List.getD_eq_getElem?_getD, hy]; rfl
    rw [e]
    clear hok hy e
    have hkl' : (k : Int) < (last.length : Int) := by omega
    generalize last.length = L at *
    go_enter Tryd.func35, Tryd.ntmps35
    go_upto_region 1 with fail
    rw [← hW1]
    clear hW1
    go_wp2_with fail
    go_ret
    exact ⟨rfl, HB.out⟩
end Go.Proofs.YtlfjbiiacnikhaaDoor
