/-
  Bytes: a table is written.
-/
import Derived.Test.YtlfjbiiacnikhaaDoorQOpen
import Derived.Test.YtlfjbiiacnikhaaDoorQRead
import Derived.Test.YtlfjbiiacnikhaaDoorEnc
namespace Go.Proofs.YtlfjbiiacnikhaaDoor
set_option maxRecDepth 100000
open Go Go.RowKit Pq Wire

theorem rowAt_src {G : Nat → Prop} {w : World} {a : Option Addr} {c : Nat} {l : List Int} (h : Src G w a c l.length (numsV l)) (hl : l.length ≤ 1000000) : RowAt w (.slice a l.length c) (ints l) := by
  have e : (ints l).length = l.length := by simp [ints]
  refine ⟨by rw [e]; omega, a, c, by rw [e], fun hne => ?_⟩
  obtain ⟨b, off, h1, _, h3⟩ := h.2 (by
    rcases Nat.eq_zero_or_pos l.length with q | q
    · exact absurd (List.eq_nil_of_length_eq_zero (by rw [e]; exact q)) hne
    · exact q)
  exact ⟨b, off, h1, fun i x hx => h3 i x hx⟩
theorem eT_part (s : List P) (k : Nat) (p : P) (h : s[k]? = some p) : eNum (s.length : Int) ++ (s.take (k + 1)).flatMap eP = (eNum (s.length : Int) ++ (s.take k).flatMap eP) ++ eP p := by
  rw [List.take_add_one, h, List.flatMap_append, List.append_assoc]
  simp
theorem eT_le (s : List P) (k : Nat) : (eNum (s.length : Int) ++ (s.take k).flatMap eP).length ≤ (eT s).length := by
  unfold eT
  rw [List.length_append, List.length_append]
  have : (s.take k).flatMap eP ++ (s.drop k).flatMap eP = s.flatMap eP := by rw [← List.flatMap_append, List.take_append_drop]
  rw [← this, List.length_append]
  omega
theorem built_lt {B b : Nat} {l : List UInt8} {w w' : World} (h : Built B b l w w') : b < w'.heap.size := by
  rcases h.1 with ⟨_, v, hb, _⟩ | ⟨_, v, hb, _⟩ <;> exact box_lt hb
theorem eNums_le (l : List Int) : (l.flatMap eInt).length ≤ (eNums l).length := by
  unfold eNums eList
  simp
  omega
set_option maxHeartbeats 4000000 in
theorem bytes_c {w : World} {a : Option Addr} {c : Nat} {l : List PP} (h : Tb (fun _ => True) w a c l) (hw : ∀ x ∈ l, WrP x.p) (hbig : (eT (tab l)).length ≤ 1000000) (hn : l.length ≤ 1000000) (hd : ∀ x ∈ l, x.p.last.length ≤ 1000000) (hg : Good w) :
    Calls Tryd.prog 7 #[.slice a l.length c] w fun e w' => e = .returned (.string ⟨(eT (tab l)).toArray⟩) ∧ Below w.heap.size w w' := by
  obtain ⟨n, hnl⟩ : ∃ n, n = l.length := ⟨_, rfl⟩
  have HN := Lib.hid hnl
  have HT := Lib.hid (fun (W : World) (hW : Below w.heap.size w W) => h.on hW)
  have HW := Lib.hid hw
  have HD := Lib.hid hd
  have HBig := Lib.hid hbig
  have HG := Lib.hid hg
  have hlin : InR (n : Int) := by unfold InR; omega
  have hgA : Good (w.alloc (.cells #[.pointer none, .slice none 0 0] 50)) := hg.on ((Below.refl _ _).alloc (Nat.le_refl _) _)
  have HbA : Built w.heap.size w.heap.size [] w (w.alloc (.cells #[.pointer none, .slice none 0 0] 50)) := ⟨Lib.fresh_isBuilder 50 5 w, (Below.refl _ _).alloc (Nat.le_refl _) _⟩
  have QN := Lib.hid (wNum_c (n : Int) hlin _ hgA)
  have HBA := Lib.hid HbA
  have hlen0 : (eNum (n : Int)).length ≤ 1000000 := by have := eT_le (tab l) 0; rw [tab_length, ← hnl] at this; simp at this; omega
  rw [← hnl] at hn ⊢
  clear h hw hd hbig hg hgA HbA hnl
  go_enter Tryd.func7, Tryd.ntmps7
  go_wp2_with (first | (go_at_call 22; refine QN.out.mono ?_; rintro e w1 ⟨rfl, hb1⟩; have HB1 := Lib.hid (HBA.out.on hb1 (by simp)); clear hb1) | (go_at_call 21; refine (writeString_c _ _ _ _ _ _ HB1.out (by simp; omega) HB1.out.2.size).mono ?_; rintro e w2 ⟨⟨n2, rfl⟩, hB2, hz2⟩))
  rw [List.nil_append] at hB2
  have HB2 := Lib.hid hB2
  clear hB2 hz2
  go_loopw [14] (fun v14 wr => ∃ k : Nat, k ≤ n ∧ v14 = .int .i64 (k : Int) ∧ Hid (Built w.heap.size w.heap.size (eNum (n : Int) ++ ((tab l).take k).flatMap eP) w wr)) (fun v14 _ => n - (intOf v14).toNat)
  case atStart => exact ⟨0, Nat.zero_le _, rfl, by simpa using HB2⟩
  case round =>
    obtain ⟨k, hk, rfl, hB⟩ := hrel
    obtain ⟨u0, hu0⟩ : ∃ u0, u0 = wr := ⟨wr, rfl⟩
    subst hu0
    by_cases hkn : k < n
    · have hkn' : (k : Int) < (n : Int) := by omega
      obtain ⟨x, hx⟩ : ∃ x, l[k]? = some x := ⟨l[k]'(by have := HN.out; omega), List.getElem?_eq_getElem _⟩
      obtain ⟨b, off, rfl, hc⟩ := pp_cells (HT.out u0 hB.out.2).row rfl hx
      have c0 := hc.c0
      have c1 := hc.c1
      have c2 := hc.c2
      have c3 := hc.c3
      have hxm : x ∈ l := List.mem_of_getElem? hx
      obtain ⟨W1, hW1⟩ : ∃ W1, W1 = u0.alloc x.obj := ⟨_, rfl⟩
      have hb1 : Below u0.heap.size u0 W1 := by rw [hW1]; exact below_new u0 _
      have hx1 : x.at W1 u0.heap.size := by rw [hW1]; exact box_new u0 _
      have hz := hB.out.2.size
      have HB3 := Lib.hid (hB.out.on hb1 hz)
      have hd1 := hx1.cells
      have d0 := hd1.c0
      have d1 := hd1.c1
      have d2 := hd1.c2
      have hpart := eT_part (tab l) k x.p (tab_get hx)
      have hle := eT_le (tab l) (k + 1)
      rw [tab_length, ← HN.out] at hpart hle
      rw [hpart, List.length_append] at hle
      have HLe := Lib.hid (Nat.le_trans hle HBig.out)
      have HPart := Lib.hid hpart
      obtain ⟨w0i, w1i, w2i, _, w4i⟩ := HW.out x hxm
      have HWI := Lib.hid (And.intro w0i (And.intro w1i (And.intro w2i w4i)))
      have HX := Lib.hid hx1
      have HXok := Lib.hid (fun (W : World) (hW : Below w.heap.size w W) => (HT.out W hW).last x hxm)
      have HBlt := Lib.hid (built_lt hB.out)
      have HDx := Lib.hid (HD.out x hxm)
      have HBw := Lib.hid hb1
      obtain ⟨⟨i, ep, nx, last⟩, xa, xc⟩ := x
      unfold PP.obj at hW1
      dsimp only at *
      clear hx hc hxm hb1 hx1 hd1 hpart hle w0i w1i w2i w4i hz
      obtain ⟨L, hL⟩ : ∃ L, L = eNum (n : Int) ++ ((tab l).take k).flatMap eP := ⟨_, rfl⟩
      rw [← hL] at HB3 HLe HPart
      have hLL := HLe.out
      have heP' : eP ⟨i, ep, nx, last⟩ = ((eInt i ++ eInt ep) ++ eInt nx) ++ eNums last := rfl
      have heP : eP ⟨i, ep, nx, last⟩ = ((eInt i ++ eInt ep) ++ eInt nx) ++ eNums last := rfl
      rw [heP] at hLL
      simp only [List.length_append] at hLL
      have hNe : (eNums last).length = (eList eInt last).length := rfl
      have hne1 : u0.heap.size ≠ w.heap.size := by have := HBlt.out; omega
      have HNb := Lib.hid (show (last.flatMap eInt).length ≤ 1000000000000 by have := eNums_le last; omega)
      have hne2 : 42 ≠ 5 := by decide
      go_upto_region 6 with fail
      rw [← hW1]
      clear hW1 c0 c1 c2 c3
      go_wp2_with fail
      go_loopw [25] (fun v25 w3 => ((v25 = .int .i64 0 ∧ Hid (Built w.heap.size w.heap.size L w w3)) ∨ (v25 = .int .i64 1 ∧ Hid (Built w.heap.size w.heap.size (L ++ eInt i) w w3)) ∨ (v25 = .int .i64 2 ∧ Hid (Built w.heap.size w.heap.size (L ++ (eInt i ++ eInt ep)) w w3)) ∨ (v25 = .int .i64 3 ∧ Hid (Built w.heap.size w.heap.size (L ++ ((eInt i ++ eInt ep) ++ eInt nx)) w w3))) ∧ Hid (PP.at ⟨⟨i, ep, nx, last⟩, xa, xc⟩ w3 u0.heap.size)) (fun v25 _ => 3 - (intOf v25).toNat)
      case atStart => exact ⟨Or.inl ⟨rfl, HB3⟩, HX⟩
      case round =>
        obtain ⟨u1, hu1⟩ : ∃ u1, u1 = wr := ⟨wr, rfl⟩
        subst hu1
        have ix0 : ∀ W : World, (Instr.index 56 (.agg #[.int .i64 i, .int .i64 ep, .int .i64 nx]) (.int .i64 0)).run Tryd.prog W = .ok (.int .i64 i) W := fun W => by kernel_rfl
        have ix1 : ∀ W : World, (Instr.index 56 (.agg #[.int .i64 i, .int .i64 ep, .int .i64 nx]) (.int .i64 1)).run Tryd.prog W = .ok (.int .i64 ep) W := fun W => by kernel_rfl
        have ix2 : ∀ W : World, (Instr.index 56 (.agg #[.int .i64 i, .int .i64 ep, .int .i64 nx]) (.int .i64 2)).run Tryd.prog W = .ok (.int .i64 nx) W := fun W => by kernel_rfl
        obtain ⟨⟨rfl, hb⟩ | ⟨rfl, hb⟩ | ⟨rfl, hb⟩ | ⟨rfl, hb⟩, hxa⟩ := hrel
        · have Q1 := Lib.hid (wInt_c i HWI.out.1 _ (HG.out.on hb.out.2))
          go_wp2_with (first | (go_at_call 23; refine Q1.out.mono ?_; rintro e w4 ⟨rfl, hb4⟩; have HB5 := Lib.hid (hb.out.on hb4 hb.out.2.size); have HX5 := Lib.hid (box_on hxa.out hb4); clear hb4) | (go_at_call 21; refine (writeString_f _ _ _ _ _ _ HB5.out (by (try simp only [List.length_append]); omega) HB5.out.2.size).mono ?_; rintro e w5 ⟨⟨n5, rfl⟩, hB5, hz5, hkp⟩))
          go_roundw
          case rel => exact ⟨Or.inr (Or.inl ⟨rfl, Lib.hid (by exact hB5)⟩), Lib.hid (hkp _ _ _ _ hne1 hne2 HX5.out)⟩
          case measure => decide
        · have Q1 := Lib.hid (wInt_c ep HWI.out.2.1 _ (HG.out.on hb.out.2))
          go_wp2_with (first | (go_at_call 23; refine Q1.out.mono ?_; rintro e w4 ⟨rfl, hb4⟩; have HB5 := Lib.hid (hb.out.on hb4 hb.out.2.size); have HX5 := Lib.hid (box_on hxa.out hb4); clear hb4) | (go_at_call 21; refine (writeString_f _ _ _ _ _ _ HB5.out (by (try simp only [List.length_append]); omega) HB5.out.2.size).mono ?_; rintro e w5 ⟨⟨n5, rfl⟩, hB5, hz5, hkp⟩))
          go_roundw
          case rel => exact ⟨Or.inr (Or.inr (Or.inl ⟨rfl, Lib.hid (by rw [← List.append_assoc]; exact hB5)⟩)), Lib.hid (hkp _ _ _ _ hne1 hne2 HX5.out)⟩
          case measure => decide
        · have Q1 := Lib.hid (wInt_c nx HWI.out.2.2.1 _ (HG.out.on hb.out.2))
          go_wp2_with (first | (go_at_call 23; refine Q1.out.mono ?_; rintro e w4 ⟨rfl, hb4⟩; have HB5 := Lib.hid (hb.out.on hb4 hb.out.2.size); have HX5 := Lib.hid (box_on hxa.out hb4); clear hb4) | (go_at_call 21; refine (writeString_f _ _ _ _ _ _ HB5.out (by (try simp only [List.length_append]); omega) HB5.out.2.size).mono ?_; rintro e w5 ⟨⟨n5, rfl⟩, hB5, hz5, hkp⟩))
          go_roundw
          case rel => exact ⟨Or.inr (Or.inr (Or.inr ⟨rfl, Lib.hid (by rw [← List.append_assoc]; exact hB5)⟩)), Lib.hid (hkp _ _ _ _ hne1 hne2 HX5.out)⟩
          case measure => decide
        · have hxc := PP.at.cells hxa.out
          have d3 := hxc.c3
          dsimp only [Nat.zero_add] at d3
          have hok := HXok.out u1 hb.out.2
          have Q1 := Lib.hid (wNums_c last (.slice xa last.length xc) HWI.out.2.2.2 HNb.out _ (HG.out.on hb.out.2) (rowAt_src hok HDx.out))
          clear hxc hok
          go_wp2_with (first | (go_at_call 24; refine Q1.out.mono ?_; rintro e w4 ⟨rfl, hb4⟩; have HB5 := Lib.hid (hb.out.on hb4 hb.out.2.size); clear hb4) | (go_at_call 21; refine (writeString_f _ _ _ _ _ _ HB5.out (by (try simp only [List.length_append]); omega) HB5.out.2.size).mono ?_; rintro e w5 ⟨⟨n5, rfl⟩, hB5, hz5, hkp⟩))
          go_roundw
          case rel => exact ⟨k + 1, hkn, by go_num, Lib.hid (by rw [HPart.out, heP', ← List.append_assoc]; exact hB5)⟩
          case measure => (simp only [intOf]; omega)
    · have hkn' : ¬ (k : Int) < (n : Int) := by omega
      obtain rfl : k = n := by omega
      have HAll := Lib.hid (show eNum (k : Int) ++ ((tab l).take k).flatMap eP = eT (tab l) by
        unfold eT
        rw [List.take_of_length_le (by rw [tab_length, HN.out]; exact Nat.le_refl _), tab_length, ← HN.out])
      have HB5 := Lib.hid (show Built w.heap.size w.heap.size (eT (tab l)) w u0 by rw [← HAll.out]; exact hB.out)
      go_wp2_with (go_at_call 25; refine (builderString_c _ _ _ _ _ HB5.out HB5.out.2.size).mono ?_; rintro e w7 ⟨rfl, hb7⟩)
      go_ret
      exact ⟨rfl, hb7⟩
end Go.Proofs.YtlfjbiiacnikhaaDoor
