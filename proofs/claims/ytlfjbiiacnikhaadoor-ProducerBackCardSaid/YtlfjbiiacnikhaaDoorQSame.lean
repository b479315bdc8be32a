/-
  Two equal tables are the same.
-/
import Derived.Test.YtlfjbiiacnikhaaDoorQOpen
namespace Go.Proofs.YtlfjbiiacnikhaaDoor
set_option maxRecDepth 100000
open Go Go.RowKit Pq

theorem sameNums_c {G G' : Nat → Prop} {w : World} {xa ya : Option Addr} {xc yc : Nat} {l : List Int} (h1 : Src G w xa xc l.length (numsV l)) (h2 : Src G' w ya yc l.length (numsV l)) (hn : l.length ≤ 1000000) :
    Calls Tryd.prog 49 #[.slice xa l.length xc, .slice ya l.length yc] w fun e w' => e = .returned (.bool true) ∧ Below w.heap.size w w' := by
  obtain ⟨L, hL⟩ : ∃ L, L = l.length := ⟨_, rfl⟩
  have HL := Lib.hid hL
  have H1 := Lib.hid (fun (W : World) (hW : Below w.heap.size w W) => h1.on hW)
  have H2 := Lib.hid (fun (W : World) (hW : Below w.heap.size w W) => h2.on hW)
  rw [← hL] at hn ⊢
  clear h1 h2 hL
  go_enter Tryd.func49, Tryd.ntmps49
  go_wp2_with fail
  go_loopw [13] (fun v13 wr => ∃ k : Nat, k ≤ L ∧ v13 = .int .i64 (k : Int) ∧ Hid (Below w.heap.size w wr)) (fun v13 _ => L - (intOf v13).toNat)
  case atStart => exact ⟨0, Nat.zero_le _, rfl, Lib.hid (Below.refl _ _)⟩
  case round =>
    obtain ⟨k, hk, rfl, hb⟩ := hrel
    by_cases hkl : k < L
    · have hkl' : (k : Int) < (L : Int) := by omega
      obtain ⟨x, hx⟩ : ∃ x, l[k]? = some x := ⟨l[k]'(by have := HL.out; omega), List.getElem?_eq_getElem _⟩
      obtain ⟨b1, o1, rfl, c1⟩ := num_cell (H1.out wr hb.out) rfl hx
      obtain ⟨b2, o2, rfl, c2⟩ := num_cell (H2.out wr hb.out) rfl hx
      have hxx : (x != x) = false := by simp
      clear hx
      go_upto_region 6 with fail
      go_quiet (fail)
      go_wp2_with fail
      go_roundw
      case rel => exact ⟨k + 1, hkl, by go_num, Lib.hid (hb.out.trans ((show Below wr.heap.size wr (wr.drewN nq) from ⟨rfl, rfl, rfl, Nat.le_refl _, fun _ _ => rfl⟩).mono hb.out.size))⟩
      case measure => (simp only [intOf]; omega)
    · have hkl' : ¬ (k : Int) < (L : Int) := by omega
      go_wp2_with fail
      go_ret
      exact ⟨rfl, hb.out⟩
set_option maxHeartbeats 2000000 in
theorem equal_c {G G' : Nat → Prop} {w : World} {x y : PP} (hp : x.p = y.p) (h1 : x.ok G w) (h2 : y.ok G' w) (hn : x.p.last.length ≤ 1000000) :
    Calls Tryd.prog 37 #[x.val, y.val] w fun e w' => e = .returned (.bool true) ∧ Below w.heap.size w w' := by
  obtain ⟨p, xa, xc⟩ := x
  obtain ⟨p', ya, yc⟩ := y
  have hp : p = p' := hp
  subst hp
  obtain ⟨W2, hW2⟩ : ∃ W2, W2 = (w.alloc (PP.obj ⟨p, xa, xc⟩)).alloc (PP.obj ⟨p, ya, yc⟩) := ⟨_, rfl⟩
  have hb2 : Below w.heap.size w W2 := by rw [hW2]; exact ((Below.refl _ _).alloc (Nat.le_refl _) _).alloc (by simp) _
  have hx : PP.at ⟨p, xa, xc⟩ W2 w.heap.size := by rw [hW2]; exact box_on (box_new w _) (below_new _ _)
  have hy : PP.at ⟨p, ya, yc⟩ W2 (w.heap.size + 1) := by
    have h0 := box_new (w.alloc (PP.obj ⟨p, xa, xc⟩)) (PP.obj ⟨p, ya, yc⟩)
    rw [← hW2] at h0
    have e : (w.alloc (PP.obj ⟨p, xa, xc⟩)).heap.size = w.heap.size + 1 := by simp
    rwa [e] at h0
  have QS := Lib.hid (sameNums_c (h1.on hb2) (h2.on hb2) hn)
  have hcx := hx.cells
  have hcy := hy.cells
  have c0 := hcx.c0
  have c1 := hcx.c1
  have c2 := hcx.c2
  have c3 := hcx.c3
  have d0 := hcy.c0
  have d1 := hcy.c1
  have d2 := hcy.c2
  have d3 := hcy.c3
  obtain ⟨i, ep, nx, last⟩ := p
  have HB := Lib.hid hb2
  have e0 : (i == i) = true := by simp
  have e1 : (ep == ep) = true := by simp
  have e2 : (nx == nx) = true := by simp
  unfold PP.obj at hW2
  unfold PP.val
  dsimp only at *
  clear hx hy hcx hcy hb2 h1 h2
  go_enter Tryd.func37, Tryd.ntmps37
  go_upto_region 1 with fail
  rw [← hW2]
  clear hW2
  go_wp2_with (go_at_call 49; refine QS.out.mono ?_; rintro e w1 ⟨rfl, hb3⟩)
  go_ret
  exact ⟨rfl, HB.out.trans (hb3.mono HB.out.size)⟩
set_option maxHeartbeats 4000000 in
theorem same_c {w : World} {xa ya : Option Addr} {xc yc : Nat} {l m : List PP} (h1 : Tb (fun _ => True) w xa xc l) (h2 : Tb (fun _ => True) w ya yc m) (hlm : tab l = tab m) (hn : l.length ≤ 1000000) (hd : ∀ x ∈ l, x.p.last.length ≤ 1000000) :
    Calls Tryd.prog 12 #[.slice xa l.length xc, .slice ya m.length yc] w fun e w' => e = .returned (.bool true) ∧ Below w.heap.size w w' := by
  have hml : m.length = l.length := by have := congrArg List.length hlm; rw [tab_length, tab_length] at this; exact this.symm
  obtain ⟨L, hL⟩ : ∃ L, L = l.length := ⟨_, rfl⟩
  have HL := Lib.hid hL
  have HML := Lib.hid hml
  have HLM := Lib.hid hlm
  have H1 := Lib.hid (fun (W : World) (hW : Below w.heap.size w W) => h1.on hW)
  have H2 := Lib.hid (fun (W : World) (hW : Below w.heap.size w W) => h2.on hW)
  have HD := Lib.hid hd
  rw [hml, ← hL]
  rw [← hL] at hn
  clear h1 h2 hL hml hlm hd
  have key : Calls Tryd.prog 36 #[.slice xa L xc, .slice ya L yc, .func (.func 37) #[] #[]] w fun e w' => e = .returned (.bool true) ∧ Below w.heap.size w w' := by
    go_enter Tryd.func36, Tryd.ntmps36
    go_wp2_with fail
    go_loopw [17] (fun v17 wr => ∃ k : Nat, k ≤ L ∧ v17 = .int .i64 (k : Int) ∧ Hid (Below w.heap.size w wr)) (fun v17 _ => L - (intOf v17).toNat)
    case atStart => exact ⟨0, Nat.zero_le _, rfl, Lib.hid (Below.refl _ _)⟩
    case round =>
      obtain ⟨k, hk, rfl, hb⟩ := hrel
      by_cases hkl : k < L
      · have hkl' : (k : Int) < (L : Int) := by omega
        obtain ⟨x, hx⟩ : ∃ x, l[k]? = some x := ⟨l[k]'(by have := HL.out; omega), List.getElem?_eq_getElem _⟩
        obtain ⟨y, hy⟩ : ∃ y, m[k]? = some y := ⟨m[k]'(by have := HL.out; have := HML.out; omega), List.getElem?_eq_getElem _⟩
        have hxy : x.p = y.p := by
          have e1 := tab_get hx
          rw [HLM.out, tab_get hy] at e1
          injection e1 with e1
          exact e1.symm
        obtain ⟨b1, o1, rfl, hc⟩ := pp_cells (H1.out wr hb.out).row rfl hx
        obtain ⟨c0, c1, c2, c3⟩ := hc
        obtain ⟨W1, hW1⟩ : ∃ W1, W1 = wr.alloc x.obj := ⟨_, rfl⟩
        have hb1 : Below wr.heap.size wr W1 := by rw [hW1]; exact below_new wr _
        have hx1 : x.at W1 wr.heap.size := by rw [hW1]; exact box_new wr _
        have hbW1 := hb.out.trans (hb1.mono hb.out.size)
        obtain ⟨b2, o2, rfl, hc2⟩ := pp_cells (H2.out W1 hbW1).row rfl hy
        obtain ⟨d0, d1, d2, d3⟩ := hc2
        obtain ⟨W2, hW2⟩ : ∃ W2, W2 = W1.alloc y.obj := ⟨_, rfl⟩
        have hb2 : Below W1.heap.size W1 W2 := by rw [hW2]; exact below_new W1 _
        have hy2 : y.at W2 W1.heap.size := by rw [hW2]; exact box_new W1 _
        have hx2 : x.at W2 wr.heap.size := box_on hx1 hb2
        have hbW2 := hbW1.trans (hb2.mono hbW1.size)
        have QE := Lib.hid (equal_c hxy ((H1.out W2 hbW2).last x (List.mem_of_getElem? hx)) ((H2.out W2 hbW2).last y (List.mem_of_getElem? hy)) (HD.out x (List.mem_of_getElem? hx)))
        obtain ⟨e0, e1, e2, e3⟩ := hx2.cells
        obtain ⟨f0, f1, f2, f3⟩ := hy2.cells
        have HBB := Lib.hid hbW2
        obtain ⟨⟨xi, xe, xn, xl⟩, xaa, xcc⟩ := x
        obtain ⟨⟨yi, ye, yn, yl⟩, yaa, ycc⟩ := y
        unfold PP.obj at hW1 hW2
        unfold PP.val at QE
        dsimp only at *
        clear hx hy hxy hb1 hx1 hb2 hy2 hx2 hbW1 hbW2
        go_upto_region 6 with fail
        rw [← hW1]
        clear hW1 c0 c1 c2 c3
        go_upto_region 7 with fail
        rw [← hW2]
        clear hW2 d0 d1 d2 d3
        go_wp2_with (go_at_call 37; refine QE.out.mono ?_; rintro e w3 ⟨rfl, hb3⟩)
        go_roundw
        case rel => exact ⟨k + 1, hkl, by go_num, Lib.hid (HBB.out.trans (hb3.mono HBB.out.size))⟩
        case measure => (simp only [intOf]; omega)
      · have hkl' : ¬ (k : Int) < (L : Int) := by omega
        go_wp2_with fail
        go_ret
        exact ⟨rfl, hb.out⟩
  have Q := Lib.hid key
  clear key
  go_enter Tryd.func12, Tryd.ntmps12
  go_wp2_with (go_at_call 36; refine Q.out.mono ?_; rintro e w1 ⟨rfl, hb⟩)
  go_ret
  exact ⟨rfl, hb⟩
end Go.Proofs.YtlfjbiiacnikhaaDoor
