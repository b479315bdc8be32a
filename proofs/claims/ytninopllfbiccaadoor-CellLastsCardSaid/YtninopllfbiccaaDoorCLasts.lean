/-
  CellLasts: the walk.
-/
import Derived.Test.YtninopllfbiccaaDoorCMid
namespace Go.Proofs.YtninopllfbiccaaDoor
set_option maxRecDepth 100000
open Go Go.RowKit Go.Maps Dk

def PM (M : List (List UInt8)) (N : Bool) : Nat → List UInt8 → Prop := fun k v => (k ≠ 0 ∧ v ∈ M) ∨ (k = 0 ∧ v = [] ∧ N = true)
theorem PM.app {M : List (List UInt8)} {N : Bool} {s : List UInt8} {k : Nat} {v : List UInt8} (h : PM M N k v ∨ (k ≠ 0 ∧ v = s)) : PM (M ++ [s]) N k v := by
  rcases h with (h | h) | h
  · exact Or.inl ⟨h.1, List.mem_append.2 (Or.inl h.2)⟩
  · exact Or.inr h
  · exact Or.inl ⟨h.1, List.mem_append.2 (Or.inr (by rw [h.2]; simp))⟩
theorem PM.one {N : Bool} {s : List UInt8} {k : Nat} {v : List UInt8} (h : k ≠ 0 ∧ v = s) : PM ([] ++ [s]) N k v := Or.inl ⟨h.1, by rw [h.2]; simp⟩

set_option maxHeartbeats 1000000 in
set_option maxRecDepth 100000 in
theorem lasts_out (v : Value) (l : List Op5) (n1 : Nat) (hn1 : n1 ≤ 9223372036854775807) (a1 : Option Addr) (c1 : Nat) (w : World) (h : OpsIn w v l) (ht : Tab w) (he : ¬ (few5 l = true ∧ n1 ≤ 100)) :
    Calls Tryd.prog 5 #[v, .slice a1 n1 c1] w fun e w' => e = .returned (.bool true) ∧ Below w.heap.size w w' := by
  have h0 := h
  obtain ⟨_, va, vc, rfl, _⟩ := h0
  have H := Lib.hid h
  clear h
  go_enter Tryd.func5, Tryd.ntmps5
  go_wp2_with fail
  refine (cSmall_c w ht).mono ?_
  rintro e w1 ⟨rfl, hb1⟩
  go_wp2_with fail
  refine (cFew_c _ l w1 (H.out.on hb1)).mono ?_
  rintro e w2 ⟨rfl, h2⟩
  rw [h2]
  clear h2
  have HB := Lib.hid hb1
  clear hb1
  cases hf : few5 l with
  | false =>
    clear he
    go_wp2_with fail
    go_ret
    exact ⟨rfl, HB.out⟩
  | true =>
    by_cases h2 : (100 : Int) < (n1 : Int)
    · clear he
      go_wp2_with fail
      go_ret
      exact ⟨rfl, HB.out⟩
    · exact absurd ⟨hf, by omega⟩ he

set_option maxHeartbeats 2000000 in
set_option maxRecDepth 100000 in
theorem lasts_in (v : Value) (l : List Op5) (keep : List Int) (h1 : keep.length ≤ 100) (ka : Option Addr) (kc : Nat) (w : World) (h : OpsIn w v l) (ht : Tab w) (hf : few5 l = true) (hk1 : KeepIn w (.slice ka keep.length kc) keep) :
    Calls Tryd.prog 5 #[v, .slice ka keep.length kc] w fun e w' => e = .returned (.bool true) ∧ Below w.heap.size w w' := by
  have h0 := h
  obtain ⟨hM, va, vc, rfl, hmc⟩ := h0
  have H := Lib.hid h
  have MC := Lib.hid hmc
  have FM := Lib.hid (few5_mem hf).2
  have K1 := Lib.hid hk1
  have T := Lib.hid ht
  have h2' : ¬ (100 : Int) < (keep.length : Int) := by omega
  have hl30 := (few5_mem hf).1
  clear h hmc hk1 ht
  go_enter Tryd.func5, Tryd.ntmps5
  go_wp2_with fail
  refine (cSmall_c w T.out).mono ?_
  rintro e w1 ⟨rfl, hb1⟩
  go_wp2_with fail
  refine (cFew_c _ l w1 (H.out.on hb1)).mono ?_
  rintro e w2 ⟨rfl, hw2⟩
  rw [hw2, hf]
  clear hw2
  go_wp2_with fail
  refine (dd_new hb1).mono ?_
  rintro e w2 ⟨d, rfl, g2⟩
  clear hb1
  go_wp2_with fail
  refine (dd_open T.out g2.out 3 in3 (c := ⟨0, [], false⟩) (Ck.St.new (i := 3)).1).mono ?_
  rintro e w3 ⟨b0, rfl, g3⟩
  have G := Lib.hid (show RL w w3 d b0 (.slice none 0 0) [] (PM [] true) from ⟨⟨_, _, g3.out.toCF.fewer (fun _ e => by cases e), (Ck.St.new (i := 3)).2.mono (fun k v e => Or.inr ⟨e.1, e.2, rfl⟩)⟩, StrsB.nil _ _⟩)
  clear g2 g3
  obtain ⟨L, hL⟩ : ∃ L, L = l.length := ⟨_, rfl⟩
  rw [← hL] at hM hl30 ⊢
  have HL := Lib.hid hL
  clear hL hf
  go_wp2_with fail
  go_loopw [8, 9, 10, 11, 12, 13, 14, 15] (fun v8 _ v10 v11 v12 _ _ _ wr => ∃ (k b : Nat) (M : List (List UInt8)) (N : Bool), k ≤ L + 1 ∧ v12 = .int .i64 (k : Int) ∧ v8 = .pointer (some ⟨b, 0, none⟩) ∧ v11 = .bool N ∧ M.length ≤ k ∧ RL w wr d b v10 M (PM M N)) (fun _ _ _ _ v12 _ _ _ _ => L + 1 - (intOf v12).toNat)
  case atStart => exact ⟨0, b0, [], true, Nat.zero_le _, rfl, rfl, rfl, Nat.le_refl _, G.out⟩
  case round =>
    obtain ⟨k, b, M, N, hk, rfl, rfl, rfl, hMk, hr⟩ := hrel
    have hMl : M.length ≤ 1000 := by omega
    by_cases hkL : k ≤ L
    · have hkL' : (k : Int) ≤ (L : Int) := by omega
      by_cases hkl : k < L
      · have hkl' : (k : Int) < (L : Int) := by omega
        obtain ⟨x, hx⟩ : ∃ x, l[k]? = some x := ⟨l[k]'(by have := HL.out; omega), List.getElem?_eq_getElem _⟩
        obtain ⟨g, off, ya, yc, rfl, ⟨i0, i1, i2, i3⟩, hsrc, hok⟩ := MC.out k x hx
        have hfx := FM.out x (List.mem_of_getElem? hx)
        have hb := hr.base
        have hkc : ∀ {p : Addr} {v : Value}, w.cell? p = some v → wr.cell? p = some v := fun hp => (Kept.below (S := fun _ => False) hb).cell hp (fun e => e)
        have c0 := hkc i0
        have c1 := hkc i1
        have c2 := hkc i2
        have c3 := hkc i3
        have hgl : g < wr.heap.size := Lib.lt_of_cell c0
        obtain ⟨kd, hkd⟩ : ∃ kd, kd = x.kind := ⟨_, rfl⟩
        rw [← hkd] at c0
        have hkx : KeepIn w (.slice ya x.keep.length yc) x.keep := ⟨hsrc, by omega, hok.keepIn⟩
        have KX := Lib.hid hkx
        have hsl : x.s.length ≤ 65536 := by omega
        have hnl := hok.n.2
        obtain ⟨X, c, hm⟩ := hr.mid #[.int .i64 kd, .string ⟨x.s.toArray⟩, .int .i64 x.n, .slice ya x.keep.length yc]
        clear i0 i1 i2 i3 hkc hr hsrc hok hkx hfx hb hkd hx
        obtain ⟨OB, hOB⟩ : ∃ OB, OB = wr.heap.size := ⟨_, rfl⟩
        go_upto_region 17 with fail
        clear c0 c1 c2 c3
        obtain ⟨W1, hW1⟩ : ∃ W1, wr.alloc (.cells #[.int .i64 kd, .string ⟨x.s.toArray⟩, .int .i64 x.n, .slice ya x.keep.length yc] 38) = W1 := ⟨_, rfl⟩
        rw [hW1] at hm ⊢
        rw [← hOB] at hm ⊢
        have o0 : W1.cell? ⟨OB, 0, none⟩ = some (.int .i64 kd) := hm.cell 0
        have o1 : W1.cell? ⟨OB, 1, none⟩ = some (.string ⟨x.s.toArray⟩) := hm.cell 1
        have o2 : W1.cell? ⟨OB, 2, none⟩ = some (.int .i64 x.n) := hm.cell 2
        have o3 : W1.cell? ⟨OB, 3, none⟩ = some (.slice ya x.keep.length yc) := hm.cell 3
        clear hW1 hOB
        by_cases e0 : kd = 0
        · subst e0
          obtain ⟨r, X', c', hgood, q⟩ := mid_set T.out hm x.s hsl
          have Q := Lib.hid q
          clear q hm
          by_cases hr0 : r = 0
          · subst hr0
            have HA := Lib.hid (fun w4 (h4 : Mid w w4 d b X' c' u10 M OB #[.int .i64 0, .string ⟨x.s.toArray⟩, .int .i64 x.n, .slice ya x.keep.length yc] (fun k v => PM M N k v ∨ (k ≠ 0 ∧ v = x.s))) => mid_append (P := fun k v => k ≠ 0 ∧ v = x.s) (Mid.nil (P := fun k v => k ≠ 0 ∧ v = x.s) ⟨h4.cf, hgood rfl, h4.strs, h4.op, h4.obl⟩) (by simp) x.s)
            clear hgood
            go_wp2_with (first | (go_at_call 14; refine Q.out.mono ?_; rintro e w4 ⟨rfl, o1', hp⟩; have o4 : w4.cell? ⟨OB, 1, none⟩ = some (.string ⟨x.s.toArray⟩) := o1'; clear o1'; obtain ⟨v', w5, hrun, hfin⟩ := HA.out w4 hp.out; have HRUN := Lib.hid hrun; have HFIN := Lib.hid hfin; clear hrun hfin) | (at_builtin; refine Lib.wpList_append_run _ rfl _ _ _ _ rfl _ _ rfl rfl _ w5 HRUN.out ?_))
            go_roundw
            case rel => exact ⟨k + 1, b, [] ++ [x.s], false, by omega, by go_num, rfl, rfl, by simp, HFIN.out.mono (fun _ _ e => PM.one e)⟩
            case measure => simp [intOf]; omega
          · have hrb : (r == 0) = false := by simpa using hr0
            have HA := Lib.hid (fun w4 (h4 : Mid w w4 d b X' c' u10 M OB #[.int .i64 0, .string ⟨x.s.toArray⟩, .int .i64 x.n, .slice ya x.keep.length yc] (fun k v => PM M N k v ∨ (k ≠ 0 ∧ v = x.s))) => mid_append h4 hMl x.s)
            clear hgood hr0
            go_wp2_with (first | (go_at_call 14; refine Q.out.mono ?_; rintro e w4 ⟨rfl, o1', hp⟩; have o4 : w4.cell? ⟨OB, 1, none⟩ = some (.string ⟨x.s.toArray⟩) := o1'; clear o1'; obtain ⟨v', w5, hrun, hfin⟩ := HA.out w4 hp.out; have HRUN := Lib.hid hrun; have HFIN := Lib.hid hfin; clear hrun hfin) | (at_builtin; refine Lib.wpList_append_run _ rfl _ _ _ _ rfl _ _ rfl rfl _ w5 HRUN.out ?_))
            go_roundw
            case rel => exact ⟨k + 1, b, M ++ [x.s], N, by omega, by go_num, rfl, rfl, by simp; omega, HFIN.out.mono (fun _ _ e => PM.app e)⟩
            case measure => simp [intOf]; omega
        · have b0' : (kd == 0) = false := by simpa using e0
          by_cases e1 : kd = 1
          · subst e1
            have Q := Lib.hid (mid_lose hm x.n hnl)
            clear hm e0 b0'
            go_wp2_with (go_at_call 16; refine Q.out.mono ?_; rintro e w4 ⟨rfl, hp⟩)
            go_roundw
            case rel => exact ⟨k + 1, b, M, N, by omega, by go_num, rfl, rfl, by omega, hp.out⟩
            case measure => simp [intOf]; omega
          · have b1 : (kd == 1) = false := by simpa using e1
            by_cases e2 : kd = 2
            · subst e2
              have Q := Lib.hid (mid_arm hm x.n hnl _ _ KX.out)
              clear hm e0 b0' e1 b1
              go_wp2_with (go_at_call 18; refine Q.out.mono ?_; rintro e w4 ⟨rfl, hp⟩)
              go_roundw
              case rel => exact ⟨k + 1, b, M, N, by omega, by go_num, rfl, rfl, by omega, hp.out⟩
              case measure => simp [intOf]; omega
            · have b2 : (kd == 2) = false := by simpa using e2
              by_cases e3 : kd = 3
              · subst e3
                clear e0 b0' e1 b1 e2 b2
                obtain ⟨k', s', X', hpk, hk0, q⟩ := mid_again T.out hm _ _ KX.out
                have Q := Lib.hid q
                clear q hm
                by_cases hkz : k' = 0
                · obtain rfl : N = true := by
                    rcases hpk with ⟨h, _⟩ | ⟨_, _, h⟩
                    · exact absurd hkz h
                    · exact h
                  have hs0 := hk0 hkz
                  subst hkz hs0
                  clear hpk hk0
                  have QG := Lib.hid (fun w4 b' (h4 : Mid w w4 d b' X' ⟨0, [], false⟩ u10 M OB #[.int .i64 3, .string ⟨x.s.toArray⟩, .int .i64 x.n, .slice ya x.keep.length yc] (fun k' v' => k' = 0 ∧ v' = [])) => mid_get h4)
                  go_wp2_with (first | (go_at_call 20; refine Q.out.mono ?_; rintro e w4 ⟨b', rfl, hp⟩) | (go_at_call 23; refine (QG.out _ _ hp.out).mono ?_; rintro e w5 ⟨rfl, hp5⟩))
                  go_roundw
                  case rel => exact ⟨k + 1, b', [], true, by omega, by go_num, rfl, rfl, by simp, hp5.out.nil.rl.mono (fun k v e => Or.inr ⟨e.1, e.2, rfl⟩)⟩
                  case measure => simp [intOf]; omega
                · have hmem : s' ∈ M := by
                    rcases hpk with ⟨_, h⟩ | ⟨h, _⟩
                    · exact h
                    · exact absurd h hkz
                  have hkb : (k' != 0) = true := by simpa using hkz
                  have QG := Lib.hid (fun w4 b' (h4 : Mid w w4 d b' X' ⟨k', s', false⟩ u10 M OB #[.int .i64 3, .string ⟨x.s.toArray⟩, .int .i64 x.n, .slice ya x.keep.length yc] (fun k'' v' => k'' = k' ∧ v' = s')) => show Calls Tryd.prog 23 #[.pointer (some ⟨b', 0, none⟩)] w4 fun e w' => e = .returned (.tuple #[.string ⟨s'.toArray⟩, .bool true]) ∧ Hid (Mid w w' d b' X' ⟨k', s', false⟩ u10 M OB #[.int .i64 3, .string ⟨x.s.toArray⟩, .int .i64 x.n, .slice ya x.keep.length yc] (fun k'' v' => k'' = k' ∧ v' = s')) from by
                    have := mid_get h4
                    rw [hkb] at this
                    exact this)
                  have QH := Lib.hid (fun w4 b' (h4 : Mid w w4 d b' X' ⟨k', s', false⟩ u10 M OB #[.int .i64 3, .string ⟨x.s.toArray⟩, .int .i64 x.n, .slice ya x.keep.length yc] (fun k'' v' => k'' = k' ∧ v' = s')) => mid_has h4 hMl s' hmem)
                  have HKZ := Lib.hid hkz
                  clear hpk hk0 hkz hmem hkb
                  go_wp2_with (first | (go_at_call 20; refine Q.out.mono ?_; rintro e w4 ⟨b', rfl, hp⟩) | (go_at_call 23; refine (QG.out _ _ hp.out).mono ?_; rintro e w5 ⟨rfl, hp5⟩) | (go_at_call 33; refine (QH.out _ _ hp5.out).mono ?_; rintro e w6 ⟨rfl, hw6⟩; rw [hw6]; clear hw6))
                  go_roundw
                  case rel => exact ⟨k + 1, b', [s'], false, by omega, by go_num, rfl, rfl, by simp, (mid_fresh hp5.out s').mono (fun k v e => Or.inl ⟨by rw [e.1]; exact HKZ.out, by rw [e.2]; simp⟩)⟩
                  case measure => simp [intOf]; omega
              · have b3 : (kd == 3) = false := by simpa using e3
                have R := Lib.hid hm.rl
                clear e0 e1 e2 e3 hm
                go_wp2_with fail
                go_roundw
                case rel => exact ⟨k + 1, b, M, N, by omega, by go_num, rfl, rfl, by omega, R.out⟩
                case measure => simp [intOf]; omega
      · have hkl' : ¬ (k : Int) < (L : Int) := by omega
        obtain ⟨X, c, hm⟩ := hr.mid #[.int .i64 3, .string ⟨#[]⟩, .int .i64 0, .slice ka keep.length kc]
        obtain ⟨OB, hOB⟩ : ∃ OB, OB = wr.heap.size := ⟨_, rfl⟩
        clear hr
        go_upto_region 17 with fail
        obtain ⟨W1, hW1⟩ : ∃ W1, wr.alloc (.cells #[.int .i64 3, .string ⟨#[]⟩, .int .i64 0, .slice ka keep.length kc] 38) = W1 := ⟨_, rfl⟩
        rw [hW1] at hm ⊢
        rw [← hOB] at hm ⊢
        have o0 : W1.cell? ⟨OB, 0, none⟩ = some (.int .i64 3) := hm.cell 0
        have o3 : W1.cell? ⟨OB, 3, none⟩ = some (.slice ka keep.length kc) := hm.cell 3
        clear hW1 hOB
        obtain ⟨k', s', X', hpk, hk0, q⟩ := mid_again T.out hm _ _ K1.out
        have Q := Lib.hid q
        clear q hm
        by_cases hkz : k' = 0
        · obtain rfl : N = true := by
            rcases hpk with ⟨h, _⟩ | ⟨_, _, h⟩
            · exact absurd hkz h
            · exact h
          have hs0 := hk0 hkz
          subst hkz hs0
          clear hpk hk0
          have QG := Lib.hid (fun w4 b' (h4 : Mid w w4 d b' X' ⟨0, [], false⟩ u10 M OB #[.int .i64 3, .string ⟨#[]⟩, .int .i64 0, .slice ka keep.length kc] (fun k' v' => k' = 0 ∧ v' = [])) => mid_get h4)
          go_wp2_with (first | (go_at_call 20; refine Q.out.mono ?_; rintro e w4 ⟨b', rfl, hp⟩) | (go_at_call 23; refine (QG.out _ _ hp.out).mono ?_; rintro e w5 ⟨rfl, hp5⟩))
          go_roundw
          case rel => exact ⟨k + 1, b', [], true, by omega, by go_num, rfl, rfl, by simp, hp5.out.nil.rl.mono (fun k v e => Or.inr ⟨e.1, e.2, rfl⟩)⟩
          case measure => simp [intOf]; omega
        · have hmem : s' ∈ M := by
            rcases hpk with ⟨_, h⟩ | ⟨h, _⟩
            · exact h
            · exact absurd h hkz
          have hkb : (k' != 0) = true := by simpa using hkz
          have QG := Lib.hid (fun w4 b' (h4 : Mid w w4 d b' X' ⟨k', s', false⟩ u10 M OB #[.int .i64 3, .string ⟨#[]⟩, .int .i64 0, .slice ka keep.length kc] (fun k'' v' => k'' = k' ∧ v' = s')) => show Calls Tryd.prog 23 #[.pointer (some ⟨b', 0, none⟩)] w4 fun e w' => e = .returned (.tuple #[.string ⟨s'.toArray⟩, .bool true]) ∧ Hid (Mid w w' d b' X' ⟨k', s', false⟩ u10 M OB #[.int .i64 3, .string ⟨#[]⟩, .int .i64 0, .slice ka keep.length kc] (fun k'' v' => k'' = k' ∧ v' = s')) from by
            have := mid_get h4
            rw [hkb] at this
            exact this)
          have QH := Lib.hid (fun w4 b' (h4 : Mid w w4 d b' X' ⟨k', s', false⟩ u10 M OB #[.int .i64 3, .string ⟨#[]⟩, .int .i64 0, .slice ka keep.length kc] (fun k'' v' => k'' = k' ∧ v' = s')) => mid_has h4 hMl s' hmem)
          have HKZ := Lib.hid hkz
          clear hpk hk0 hkz hmem hkb
          go_wp2_with (first | (go_at_call 20; refine Q.out.mono ?_; rintro e w4 ⟨b', rfl, hp⟩) | (go_at_call 23; refine (QG.out _ _ hp.out).mono ?_; rintro e w5 ⟨rfl, hp5⟩) | (go_at_call 33; refine (QH.out _ _ hp5.out).mono ?_; rintro e w6 ⟨rfl, hw6⟩; rw [hw6]; clear hw6))
          go_roundw
          case rel => exact ⟨k + 1, b', [s'], false, by omega, by go_num, rfl, rfl, by simp, (mid_fresh hp5.out s').mono (fun k v e => Or.inl ⟨by rw [e.1]; exact HKZ.out, by rw [e.2]; simp⟩)⟩
          case measure => simp [intOf]; omega
    · have hkL' : ¬ (k : Int) ≤ (L : Int) := by omega
      have R := Lib.hid hr.base
      clear hr
      go_wp2_with fail
      go_ret
      exact ⟨rfl, R.out⟩

theorem lasts_law (v : Value) (l : List Op5) (keep : List Int) (h1 : keep.length ≤ 9223372036854775807) (hi1 : ∀ k ∈ keep, In64 k) (ka : Option Addr) (kc : Nat) (w : World) (h : OpsIn w v l) (hk1 : SrcV w 1 (.slice ka keep.length kc) keep.length (intsV keep)) (ht : Tab w) :
    Calls Tryd.prog 5 #[v, .slice ka keep.length kc] w fun e w' => e = .returned (.bool true) ∧ Below w.heap.size w w' := by
  by_cases he : few5 l = true ∧ keep.length ≤ 100
  · exact lasts_in v l keep he.2 ka kc w h ht he.1 ⟨hk1, by omega, hi1⟩
  · exact lasts_out v l _ h1 ka kc w h ht he
end Go.Proofs.YtninopllfbiccaaDoor
