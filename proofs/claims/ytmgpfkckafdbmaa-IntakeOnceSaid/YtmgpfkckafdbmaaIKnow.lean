/-
  Know: the known columns are copied, each with columns of its own.
-/
import Derived.Test.YtmgpfkckafdbmaaIClone
import Derived.Test.YtmgpfkckafdbmaaQClone
import Derived.Test.YtmgpfkckafdbmaaISmall
namespace Go.Proofs.Ytmgpfkckafdbmaa
set_option maxRecDepth 100000
open Go Go.RowKit

theorem own_set {w : World} {base : Nat} {e : TypeId} {size g n c : Nat} {xs : List Value} (h : w.ownsRow base e size (.slice (some ⟨g, 0, none⟩) n c) n xs) (j : Nat) (u : Value) :
    (w.setCell ⟨g, j, none⟩ u).ownsRow base e size (.slice (some ⟨g, 0, none⟩) n c) n (xs.set j u) := by
  refine ⟨by rw [List.length_set]; exact h.1, ?_⟩
  rcases h.2 with ⟨h1, _⟩ | ⟨g', cap, cur, h1, h2, h3, h4, h5, h6, h7⟩
  · cases h1
  · injection h1 with e1 e2 e3
    injection e1 with e1
    injection e1 with e1
    subst e1 e3
    refine Or.inr ⟨g, c, cur.setIfInBounds j u, rfl, h2, box_set h3 j u, h4, h5, by simpa using h6, ?_⟩
    rw [Array.toList_setIfInBounds, List.take_set, h7]
theorem own_kcell {w : World} {base : Nat} {e : TypeId} {g n c : Nat} {l : List KP} (h : w.ownsRow base e 3 (.slice (some ⟨g, 0, none⟩) n c) n (kpsV l)) {k : Nat} {x : KP} (hx : l[k]? = some x) : w.cell? ⟨g, k * 3 + 2, none⟩ = some (.slice x.a x.cols.length x.c) ∧ w.frozen? ⟨g, k * 3 + 2, none⟩ = false := by
  have h1 := own_cell_size (own_base h) rfl _ _ (kpsV_get l k x hx 2 _ rfl)
  rw [Lib.add_plain, Nat.zero_add] at h1
  refine ⟨h1, ?_⟩
  rcases h.2 with ⟨e1, _⟩ | ⟨g', cap, cur, e1, _, h3, _⟩
  · cases e1
  · injection e1 with e1 e2 e3
    injection e1 with e1
    injection e1 with e1
    subst e1
    exact Lib.frozen_of_heap h3 _
def KP.core (x : KP) : ByteArray × Int × List CP := (x.src, x.sch, x.cols)
theorem core_kns : ∀ {l m : List KP}, l.map KP.core = m.map KP.core → kns l = kns m
  | [], [], _ => rfl
  | [], _ :: _, h => by cases h
  | _ :: _, [], h => by cases h
  | x :: l, y :: m, h => by
    rw [List.map_cons, List.map_cons] at h
    injection h with h1 h2
    have e := core_kns h2
    unfold KP.core at h1
    injection h1 with e1 e2
    injection e2 with e2 e3
    unfold kns at e ⊢
    rw [List.map_cons, List.map_cons, e]
    unfold KP.kn
    rw [e1, e2, e3]
theorem core_len {l m : List KP} (h : l.map KP.core = m.map KP.core) : l.length = m.length := by
  have := congrArg List.length h
  simpa using this
theorem core_cols {l m : List KP} (h : l.map KP.core = m.map KP.core) {n : Nat} (hm : ∀ x ∈ m, x.cols.length ≤ n) : ∀ x ∈ l, x.cols.length ≤ n := by
  intro x hx
  have h1 : x.core ∈ m.map KP.core := by rw [← h]; exact List.mem_map_of_mem hx
  obtain ⟨y, hy, e⟩ := List.mem_map.1 h1
  have h2 := hm y hy
  unfold KP.core at e
  injection e with _ e
  injection e with _ e
  rw [← e]
  exact h2

/-- What stands at the head of Know's loop. -/
structure KnowIs (G : Nat → Prop) (w0 w : World) (b : Nat) (c : In.C) (p : IP) (s : In.St) (K : List KP) (ka : Option Addr) (kc : Nat) (L : List KP) (i : Nat) : Prop where
  same : L.map KP.core = K.map KP.core
  rest : ∀ j, i ≤ j → L[j]? = K[j]?
  done : ∀ j x, j < i → L[j]? = some x → x.ok (fun k => w0.heap.size ≤ k ∧ ka ≠ some ⟨k, 0, none⟩) w
  box : w.heap[b]? = some (ixObj c { p with ka := ka, kc := kc, K := L } s)
  own : w.ownsRow w0.heap.size 53 3 (.slice ka L.length kc) L.length (kpsV L)
  tb : Tb G w p.ta p.tc p.T
  cs : CntAt w p.mb s.cs
  kept : Kept (fun k => k = b) w0 w
theorem KnowIs.on {G : Nat → Prop} {w0 w w' : World} {b : Nat} {c : In.C} {p : IP} {s : In.St} {K : List KP} {ka : Option Addr} {kc : Nat} {L : List KP} {i : Nat} (h : KnowIs G w0 w b c p s K ka kc L i) (hb : Below w.heap.size w w') : KnowIs G w0 w' b c p s K ka kc L i :=
  ⟨h.same, h.rest, fun j x hj hx => (h.done j x hj hx).on hb, box_on h.box hb, own_kept h.own (Kept.below (S := fun _ => False) hb) (fun _ _ e => e), h.tb.on hb, h.cs.on hb, h.kept.trans (Kept.below hb) (fun _ _ e => e)⟩
/-- One more has columns of its own. -/
theorem KnowIs.next {G : Nat → Prop} {w0 w : World} {b : Nat} {c : In.C} {p : IP} {s : In.St} {K : List KP} {kc : Nat} {L : List KP} {i g : Nat} (h : KnowIs G w0 w b c p s K (some ⟨g, 0, none⟩) kc L i) (hI : IxAt G w0 b c p s)
    {x : KP} (hx : L[i]? = some x) {a' : Option Addr} {c' : Nat} (ho : Src (fun k => w0.heap.size ≤ k ∧ k ≠ g) w a' c' x.cols.length (cpsV x.cols)) :
    KnowIs G w0 (w.setCell ⟨g, i * 3 + 2, none⟩ (.slice a' x.cols.length c')) b c p s K (some ⟨g, 0, none⟩) kc (L.set i { x with a := a', c := c' }) (i + 1) := by
  have hil : i < L.length := (List.getElem?_eq_some_iff.1 hx).1
  have hgw : w0.heap.size ≤ g := own_above h.own rfl
  have hb : b < w0.heap.size := hI.lt (Or.inl rfl)
  have hm : p.mb < w0.heap.size := hI.lt (Or.inr rfl)
  have hk := Kept.set g (i * 3 + 2) w (.slice a' x.cols.length c')
  have hlen : (L.set i { x with a := a', c := c' }).length = L.length := List.length_set
  have hne : ∀ k, k ≠ g → (some (⟨g, 0, none⟩ : Addr)) ≠ some ⟨k, 0, none⟩ := fun k f e => by
    injection e with e
    injection e with e
    exact f e.symm
  refine ⟨?_, fun j hj => ?_, fun j y hj hy => ?_, ?_, ?_, ?_, ?_, ?_⟩
  · rw [← h.same, List.map_set]
    apply List.ext_getElem?
    intro j
    rw [List.getElem?_set]
    split
    · next e =>
      subst e
      rw [List.length_map, if_pos hil, List.getElem?_map, hx]
      rfl
    · rfl
  · rw [List.getElem?_set_ne (by omega)]
    exact h.rest j (by omega)
  · by_cases e : j = i
    · subst e
      rw [List.getElem?_set_self hil] at hy
      injection hy with hy
      subst hy
      exact (Src.kept ho hk (fun k _ f e => f.2 e)).mono' (fun k f => ⟨f.1, hne k f.2⟩)
    · rw [List.getElem?_set_ne (by omega)] at hy
      exact Src.kept (h.done j y (by omega) hy) hk (fun k _ f e => f.2 (by rw [e]))
  · have := box_other h.box (show b ≠ g by omega) (i * 3 + 2) (.slice a' x.cols.length c')
    unfold ixObj at this ⊢
    dsimp only at this ⊢
    rw [hlen]
    exact this
  · have := own_set h.own (i * 3 + 2) (.slice a' x.cols.length c')
    rw [hlen, ← kpsV_set L i x { x with a := a', c := c' } hx rfl rfl]
    exact this
  · have h1 : Tb (fun k => k < w0.heap.size ∧ G k) w p.ta p.tc p.T := (hI.tb.monoW (G' := fun k => k < w0.heap.size ∧ G k) (fun k q f => ⟨q, f⟩)).kept h.kept (fun k _ f e => hI.nb (e ▸ f.2))
    exact (h1.kept hk (fun k _ f e => by omega)).mono (fun k f => f.2)
  · exact h.cs.kept hk (by omega)
  · exact h.kept.trans hk (fun k q e => by omega)
/-- At its end. -/
theorem KnowIs.end {G : Nat → Prop} {w0 w : World} {b : Nat} {c : In.C} {p : IP} {s : In.St} {K : List KP} {ka : Option Addr} {kc : Nat} {L : List KP} {i : Nat} (h : KnowIs G w0 w b c p s K ka kc L i) (hI : IxAt G w0 b c p s) (hG : ∀ k, w0.heap.size ≤ k → G k) (hi : K.length ≤ i) :
    IxAt G w b c { p with ka := ka, kc := kc, K := L } s :=
  ⟨h.box, ⟨Src.own h.own (fun k hk => hG k (own_above h.own hk)), fun x hx => by
    obtain ⟨j, hj⟩ := List.getElem?_of_mem hx
    have q1 : j < L.length := (List.getElem?_eq_some_iff.1 hj).1
    have := core_len h.same
    exact Src.mono' (h.done j x (by omega) hj) (fun k f => hG k f.1)⟩, h.tb, hI.tabs, h.cs, hI.nb, hI.nm, hI.ne⟩
set_option maxHeartbeats 2000000 in
theorem know_c {G : Nat → Prop} {w : World} {b : Nat} {c : In.C} {p : IP} {s : In.St} (hI : IxAt G w b c p s) (hG : ∀ k, w.heap.size ≤ k → G k) {a : Option Addr} {kc0 : Nat} {K : List KP} (hK : Kns (fun k => k ≠ b) w a kc0 K) (hn : K.length ≤ 1000) (hn2 : ∀ x ∈ K, x.cols.length ≤ 1000) :
    Calls Try.prog 19 #[.pointer (some ⟨b, 0, none⟩), .slice a K.length kc0] w fun e w' => e = .returned (.tuple #[]) ∧ ∃ ka kc L, L.map KP.core = K.map KP.core ∧ IxAt G w' b c { p with ka := ka, kc := kc, K := L } s ∧ Kept (fun k => k = b) w w' := by
  have HI := Lib.hid hI
  have HG := Lib.hid hG
  have HK := Lib.hid (fun (W : World) (hW : Kept (fun k => k = b) w W) => hK.kept hW (fun k _ f e => f e))
  have HN2 := Lib.hid hn2
  have QK := Lib.hid (cloneK_c hK.row hn)
  have hcc := hI.cells
  have c6 := hcc.c6
  have hf6 := hI.z 6
  obtain ⟨n, hnn⟩ : ∃ n, n = K.length := ⟨_, rfl⟩
  have HN := Lib.hid hnn
  rw [← hnn] at hn QK ⊢
  clear hI hG hK hn2 hcc hnn
  go_enter Try.func19, Try.ntmps19
  go_upto_region 1 with (go_at_call 22; refine QK.out.mono ?_; rintro e w1 ⟨ka, kc, rfl, ho1, hb1⟩; have HO1 := Lib.hid ho1; have HB1 := Lib.hid hb1; have d6 := (Kept.below (S := fun _ => False) hb1).cell c6 (fun e => e); have hg6 := Lib.frozen_of_heap (box_on HI.out.box hb1) 6; clear ho1 hb1 c6 hf6)
  obtain ⟨w2, hw2⟩ : ∃ w2, w2 = w1.setCell ⟨b, 6, none⟩ (.slice ka n kc) := ⟨_, rfl⟩
  have H2 := Lib.hid (show KnowIs G w w2 b c p s K ka kc K 0 by
    have k1 := Kept.set b 6 w1 (.slice ka n kc)
    rw [← hw2] at k1
    have hI1 := HI.out.on HB1.out
    obtain ⟨_, g2, g3⟩ := hI1.gset 6 (.slice ka n kc)
    rw [← hw2] at g2 g3
    refine ⟨rfl, fun _ _ => rfl, fun j x hj _ => absurd hj (Nat.not_lt_zero _), ?_, ?_, g2, g3, (Kept.below HB1.out).trans k1 (fun _ _ e => e)⟩
    · rw [hw2]
      have := box_set hI1.box 6 (.slice ka n kc)
      rw [HN.out] at this ⊢
      exact this
    · rw [← HN.out]
      exact own_kept HO1.out k1 (fun k hk e => by
        have := own_above HO1.out hk
        have := HI.out.lt (Or.inl rfl : InI b p b)
        omega))
  rw [← hw2]
  clear hw2 d6 hg6
  go_wp2_with fail
  go_loopw [13] (fun v13 wr => ∃ (i : Nat) (L : List KP), i ≤ n ∧ v13 = .int .i64 (i : Int) ∧ Hid (KnowIs G w wr b c p s K ka kc L i)) (fun v13 _ => n - (intOf v13).toNat)
  case atStart => exact ⟨0, K, Nat.zero_le _, rfl, H2⟩
  case round =>
    obtain ⟨i, L, hi, rfl, HL⟩ := hrel
    obtain ⟨w3, hw3⟩ : ∃ w3, w3 = wr := ⟨wr, rfl⟩
    subst hw3
    by_cases hin : i < n
    · have hin' : (i : Int) < (n : Int) := by omega
      obtain ⟨x, hx⟩ : ∃ x, K[i]? = some x := ⟨K[i]'(by have := HN.out; omega), List.getElem?_eq_getElem _⟩
      have hxL : L[i]? = some x := by rw [HL.out.rest i (Nat.le_refl _), hx]
      have hkn := HK.out w3 HL.out.kept
      obtain ⟨kb, ko, rfl, hc⟩ := kp_cells hkn.row rfl hx
      have c0 := hc.c0
      have c1 := hc.c1
      have c2 := hc.c2
      have hok := hkn.cols x (List.mem_of_getElem? hx)
      have hxn := HN2.out x (List.mem_of_getElem? hx)
      have hLn : L.length = n := by rw [core_len HL.out.same, HN.out]
      obtain ⟨g, hka, hg⟩ : ∃ g, ka = some ⟨g, 0, none⟩ ∧ w.heap.size ≤ g := by
        obtain ⟨g, h1, h2⟩ := own_at2 (own_base HL.out.own) (c := kc) rfl (by omega)
        exact ⟨g, h1, own_above HL.out.own h2⟩
      obtain ⟨W4, hW4⟩ : ∃ W4, W4 = w3.alloc x.obj := ⟨_, rfl⟩
      have hb4 : Below w3.heap.size w3 W4 := by rw [hW4]; exact below_new w3 _
      have hx4 : W4.heap[w3.heap.size]? = some x.obj := by rw [hW4]; exact box_new w3 _
      have hcc := KP.cells3 hx4
      have d2 := hcc.c2
      have H4 := Lib.hid (HL.out.on hb4)
      have hb6 := ixObj_cells H4.out.box
      have e6 := hb6.c6
      dsimp only at e6
      rw [hLn, hka] at e6
      have HX := Lib.hid (And.intro hxL hLn)
      have HGG := Lib.hid (And.intro hka hg)
      have Q4 := Lib.hid ((cloneC_c (hok.on (below_drew hb4)) hxn).mono (R' := fun e w' => ∃ a' c', e = .returned (.slice a' x.cols.length c') ∧ w'.cell? ⟨b, 6, none⟩ = some (.slice (some ⟨g, 0, none⟩) n kc) ∧ w'.cell? ⟨g, i * 3 + 2, none⟩ = some (.slice x.a x.cols.length x.c) ∧ w'.frozen? ⟨g, i * 3 + 2, none⟩ = false ∧ Hid (KnowIs G w w' b c p s K ka kc L i ∧ Src (fun k => w.heap.size ≤ k ∧ k ≠ g) w' a' c' x.cols.length (cpsV x.cols))) (fun e w' hh => by
        obtain ⟨a', c', q1, q2, q3⟩ := hh
        obtain ⟨hxL, hLn⟩ := HX.out
        obtain ⟨hka, hg⟩ := HGG.out
        have h5 := H4.out.on (show Below W4.heap.size W4 w' from (below_drew (Below.refl _ _)).trans q3)
        have hc5 := (ixObj_cells h5.box).c6
        dsimp only at hc5
        rw [hLn, hka] at hc5
        have ho5 := h5.own
        rw [hka] at ho5
        obtain ⟨k1, k2⟩ := own_kcell ho5 hxL
        refine ⟨a', c', q1, hc5, k1, k2, Lib.hid ⟨h5, q2.mono' (fun k hk => ?_)⟩⟩
        have l1 : W4.drew.heap.size ≤ k := hk
        have l2 : W4.drew.heap.size = W4.heap.size := rfl
        have l3 : g < W4.heap.size := by
          have := H4.out.own
          rw [hka] at this
          exact own_lt (own_base this) rfl
        have l4 := H4.out.kept.size
        omega))
      clear hok hc hcc hb4 hx4 hb6 hkn hxn hka hg hLn hxL hx
      obtain ⟨⟨src⟩, sch, cols, xa, xc⟩ := x
      unfold KP.obj at hW4
      dsimp only at *
      go_upto_region 4 with fail
      rw [← hW4]
      clear hW4 c0 c1 c2
      go_region_law (go_simp; go_at_call 23; refine Q4.out.mono ?_; rintro e w5 ⟨a', c', rfl, n1, n2, n3, HH⟩)
      all_goals
        have HN6 := Lib.hid (show KnowIs G w (w5.setCell ⟨g, i * 3 + 2, none⟩ (.slice a' cols.length c')) b c p s K ka kc (L.set i ⟨⟨src⟩, sch, cols, a', c'⟩) (i + 1) by
          obtain ⟨hka, _⟩ := HGG.out
          have h5 := HH.out.1
          rw [hka] at h5 ⊢
          exact h5.next HI.out HX.out.1 HH.out.2)
        go_wp2_with fail
        go_roundw
        case rel => exact ⟨i + 1, _, hin, by go_num, HN6⟩
        case measure => (simp only [intOf]; omega)
    · have hin' : ¬ (i : Int) < (n : Int) := by omega
      go_wp2_with fail
      go_end0
      exact ⟨rfl, ka, kc, L, HL.out.same, HL.out.end HI.out HG.out (by have := HN.out; omega), HL.out.kept⟩
end Go.Proofs.Ytmgpfkckafdbmaa
