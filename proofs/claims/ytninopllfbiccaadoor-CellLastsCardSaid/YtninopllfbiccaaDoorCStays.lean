/-
  CellStays: the walk.
-/
import Derived.Test.YtninopllfbiccaaDoorCFew
import Derived.Test.YtninopllfbiccaaDoorCSmall
import Derived.Deep.OwnRows
namespace Go.Proofs.YtninopllfbiccaaDoor
set_option maxRecDepth 100000
open Go Go.RowKit Go.Maps Dk

set_option maxRecDepth 100000 in
/-- The string of 65537 bytes. -/
theorem long_str : ∃ (O : Obj) (Z : List UInt8), Z.length = 65537 ∧ (∀ W : World, (Instr.makeSlice 54 (.int .i64 65537) (.int .i64 65537)).run Tryd.prog W = .ok (.slice (some ⟨W.heap.size, 0, none⟩) 65537 65537) (W.alloc O)) ∧
    (∀ W : World, (convert 54 9 (.slice (some ⟨W.heap.size, 0, none⟩) 65537 65537)).run Tryd.prog (W.alloc O) = .ok (.string ⟨Z.toArray⟩) (W.alloc O)) := by
  obtain ⟨n, hn⟩ : ∃ n : Nat, n = 65537 := ⟨_, rfl⟩
  have hi : (65537 : Int) = (n : Int) := by omega
  rw [← hn, hi]
  refine ⟨.cells (madeCells #[.int .u8 0] n) 5, List.replicate n 0, by simp, fun W => run_make_row' (P := Tryd.prog) 54 5 (.int .u8 0) 1 Tryd.underlying54 infoU8 rfl .i64 .i64 n (by omega) (by omega) W, fun W => ?_⟩
  have h := conv_src (some ⟨W.heap.size, 0, none⟩) n (List.replicate n 0) (W.alloc (.cells (madeCells #[.int .u8 0] n) 5)) (fun _ => ⟨W.heap.size, 0, rfl, fun j u hu => by
    rw [bytesV_zero] at hu
    have hj := (List.getElem?_eq_some_iff.1 hu).1
    rw [List.length_replicate] at hj
    rw [List.getElem?_replicate, if_pos hj] at hu
    have := (World.rowIs_made W (.int .u8 0) n 5).cell hj
    rw [Nat.zero_add, this]
    exact hu⟩)
  rw [List.length_replicate] at h
  exact h

/-- The laws' disk and cell in the midst of a run. -/
def Run (w0 w : World) (d b : Nat) (P : Nat → List UInt8 → Prop) : Prop := ∃ (X : D) (c : Ck.C), CD w0 w d b 3 X c ∧ Ck.St X 3 c P
theorem Run.below {w0 w w' : World} {d b : Nat} {P : Nat → List UInt8 → Prop} (h : Run w0 w d b P) (hb : Below w.heap.size w w') : Run w0 w' d b P := by
  obtain ⟨X, c, h1, h2⟩ := h
  exact ⟨X, c, h1.below hb, h2⟩
theorem Run.base {w0 w : World} {d b : Nat} {P : Nat → List UInt8 → Prop} (h : Run w0 w d b P) : Below w0.heap.size w0 w := by
  obtain ⟨X, c, h1, h2⟩ := h
  exact h1.base
theorem Run.mono {w0 w : World} {d b : Nat} {P Q : Nat → List UInt8 → Prop} (h : Run w0 w d b P) (hPQ : ∀ k v, P k v → Q k v) : Run w0 w d b Q := by
  obtain ⟨X, c, h1, h2⟩ := h
  exact ⟨X, c, h1, h2.mono hPQ⟩
theorem run_set {w0 w : World} {d b : Nat} {P : Nat → List UInt8 → Prop} (ht : Tab w0) (h : Run w0 w d b P) (s : List UInt8) (hs : s.length ≤ 65536) :
    ∃ r : Int, Calls Tryd.prog 14 #[.pointer (some ⟨b, 0, none⟩), .string ⟨s.toArray⟩] w fun e w' => e = .returned (.int .i64 r) ∧ Hid (Run w0 w' d b (fun k v => P k v ∨ (k ≠ 0 ∧ v = s)) ∧ (r = 0 → ∃ (X : D) (c : Ck.C), CD w0 w' d b 3 X c ∧ Ck.St X 3 c (fun k v => k ≠ 0 ∧ v = s) ∧ c.slot ≠ 0 ∧ c.val = s)) := by
  obtain ⟨X, c, h1, h2⟩ := h
  have hd := Ck.setM_done h2 (by omega) hs
  refine ⟨(Ck.setM X 3 c s).2.2, (cd_set ht h1 in3 s).mono ?_⟩
  rintro e w' ⟨rfl, g⟩
  refine ⟨rfl, ⟨_, _, g.out, hd.st⟩, fun hr => ?_⟩
  obtain ⟨a1, _, a3, a4⟩ := hd.good hr
  exact ⟨_, _, g.out, a1, a3, a4⟩
theorem run_lose {w0 w : World} {d b : Nat} {P : Nat → List UInt8 → Prop} (h : Run w0 w d b P) (n : Int) (hn : n ≤ 9223372036854775807) :
    Calls Tryd.prog 16 #[.pointer (some ⟨d, 0, none⟩), .int .i64 n] w fun e w' => e = .returned (.tuple #[]) ∧ Hid (Run w0 w' d b P) := by
  obtain ⟨X, c, h1, h2⟩ := h
  refine (h1.op (fun S g _ => lose_op n hn S g)).mono ?_
  rintro e w' ⟨rfl, g⟩
  exact ⟨rfl, _, c, g.out, h2.lose n⟩
theorem run_arm {w0 w : World} {d b : Nat} {P : Nat → List UInt8 → Prop} (h : Run w0 w d b P) (n : Int) (hn : n ≤ 9223372036854775807) (v : Value) (l : List Int) (hk : KeepIn w0 v l) :
    Calls Tryd.prog 18 #[.pointer (some ⟨d, 0, none⟩), .int .i64 n, v] w fun e w' => e = .returned (.tuple #[]) ∧ Hid (Run w0 w' d b P) := by
  obtain ⟨X, c, h1, h2⟩ := h
  refine (h1.op (hk.arm h1.base n hn)).mono ?_
  rintro e w' ⟨rfl, g⟩
  exact ⟨rfl, _, c, g.out, h2.arm n l⟩
theorem run_again {w0 w : World} {d b : Nat} {P : Nat → List UInt8 → Prop} (ht : Tab w0) (h : Run w0 w d b P) (v : Value) (l : List Int) (hk : KeepIn w0 v l) :
    Calls Tryd.prog 20 #[.pointer (some ⟨d, 0, none⟩), v] w fun e w' => ∃ b', e = .returned (.tuple #[.pointer (some ⟨b', 0, none⟩), .int .i64 0]) ∧ Hid (∃ (X : D) (k : Nat) (s : List UInt8), CD w0 w' d b' 3 X ⟨k, s, false⟩ ∧ P k s ∧ (k = 0 → s = []) ∧ Ck.St X 3 ⟨k, s, false⟩ (fun k' v' => k' = k ∧ v' = s)) := by
  obtain ⟨X, c, h1, h2⟩ := h
  obtain ⟨k, s, e1, e2, e3, e4⟩ := h2.again (by omega) l
  refine (again_c ht h1.toDD v l hk e1).mono ?_
  rintro e w' ⟨b', rfl, g⟩
  exact ⟨b', rfl, _, k, s, g.out, e2, e3, e4⟩
theorem run_new {w0 w : World} {d b : Nat} (h : CD w0 w d b 3 D.new ⟨0, [], false⟩) : Run w0 w d b (fun k v => k = 0 ∧ v = []) := ⟨_, _, h, (Ck.St.new (i := 3)).2⟩

set_option maxHeartbeats 1000000 in
set_option maxRecDepth 100000 in
theorem stays_out (v : Value) (l : List Op5) (s : List UInt8) (hs : s.length ≤ 9223372036854775807) (n1 n2 : Nat) (hn1 : n1 ≤ 9223372036854775807) (hn2 : n2 ≤ 9223372036854775807) (a1 a2 : Option Addr) (c1 c2 : Nat) (w : World) (h : OpsIn w v l) (ht : Tab w)
    (he : ¬ (few5 l = true ∧ s.length ≤ 400 ∧ n1 ≤ 100 ∧ n2 ≤ 100)) :
    Calls Tryd.prog 6 #[v, .string ⟨s.toArray⟩, .slice a1 n1 c1, .slice a2 n2 c2] w fun e w' => e = .returned (.bool true) ∧ Below w.heap.size w w' := by
  have h0 := h
  obtain ⟨_, va, vc, rfl, _⟩ := h0
  have H := Lib.hid h
  clear h
  go_enter Tryd.func6, Tryd.ntmps6
  go_wp2_with fail
  refine (cSmall_c w ht).mono ?_
  rintro e w1 ⟨rfl, hb1⟩
  go_wp2_with fail
  refine (cFew_c _ l w1 (H.out.on hb1)).mono ?_
  rintro e w2 ⟨rfl, h2⟩
  rw [h2]
  clear h2
  have HB := Lib.hid hb1
  clear hb1
  cases hf : few5 l with
  | false =>
    clear he
    go_wp2_with fail
    go_ret
    exact ⟨rfl, HB.out⟩
  | true =>
    by_cases h1 : (400 : Int) < (s.length : Int)
    · clear he
      go_wp2_with fail
      go_ret
      exact ⟨rfl, HB.out⟩
    · by_cases h2 : (100 : Int) < (n1 : Int)
      · clear he
        go_wp2_with fail
        go_ret
        exact ⟨rfl, HB.out⟩
      · by_cases h3 : (100 : Int) < (n2 : Int)
        · clear he
          go_wp2_with fail
          go_ret
          exact ⟨rfl, HB.out⟩
        · exact absurd ⟨hf, by omega, by omega, by omega⟩ he

/-- The end of CellStays: what holds after the set that returned OK. -/
def Stay (w0 w : World) (d b : Nat) (s : List UInt8) : Prop := ∃ (X : D) (c : Ck.C), CD w0 w d b 3 X c ∧ Ck.St X 3 c (fun k v => k ≠ 0 ∧ v = s) ∧ c.slot ≠ 0 ∧ c.val = s
theorem Stay.run {w0 w : World} {d b : Nat} {s : List UInt8} (h : Stay w0 w d b s) : Run w0 w d b (fun k v => k ≠ 0 ∧ v = s) := by
  obtain ⟨X, c, h1, h2, _⟩ := h
  exact ⟨X, c, h1, h2⟩
theorem stay_get {w0 w : World} {d b : Nat} {s : List UInt8} (h : Stay w0 w d b s) :
    Calls Tryd.prog 23 #[.pointer (some ⟨b, 0, none⟩)] w fun e w' => e = .returned (.tuple #[.string ⟨s.toArray⟩, .bool true]) ∧ Hid (Stay w0 w' d b s) := by
  obtain ⟨X, c, h1, h2, h3, h4⟩ := h
  refine (cd_get h1).mono ?_
  rintro e w' ⟨rfl, hb⟩
  refine ⟨?_, X, c, h1.below hb, h2, h3, h4⟩
  rw [h4, show (c.slot != 0) = true by simpa using h3]
theorem stay_long {w0 w : World} {d b : Nat} {s : List UInt8} (ht : Tab w0) (h : Stay w0 w d b s) (z : List UInt8) (hz : 65536 < z.length) :
    Calls Tryd.prog 14 #[.pointer (some ⟨b, 0, none⟩), .string ⟨z.toArray⟩] w fun e w' => e = .returned (.int .i64 6) ∧ Hid (Stay w0 w' d b s) := by
  obtain ⟨X, c, h1, h2, h3, h4⟩ := h
  have e6 : Ck.setM X 3 c z = (X, c, 6) := by unfold Ck.setM; rw [if_pos hz]
  refine (cd_set ht h1 in3 z).mono ?_
  rw [e6]
  rintro e w' ⟨rfl, g⟩
  exact ⟨rfl, X, c, g.out, h2, h3, h4⟩
theorem stay_again {w0 w : World} {d b : Nat} {s : List UInt8} (ht : Tab w0) (h : Stay w0 w d b s) (v : Value) (l : List Int) (hk : KeepIn w0 v l) :
    Calls Tryd.prog 20 #[.pointer (some ⟨d, 0, none⟩), v] w fun e w' => ∃ b', e = .returned (.tuple #[.pointer (some ⟨b', 0, none⟩), .int .i64 0]) ∧ Hid (Stay w0 w' d b' s) := by
  refine (run_again ht h.run v l hk).mono ?_
  rintro e w' ⟨b', rfl, X, k, u, g1, ⟨g2, rfl⟩, g3, g4⟩
  exact ⟨b', rfl, X, _, g1, g4.mono (fun k' v' e => ⟨e.1 ▸ g2, e.2⟩), g2, rfl⟩

set_option maxHeartbeats 2000000 in
set_option maxRecDepth 100000 in
theorem stays_in (v : Value) (l : List Op5) (s : List UInt8) (hs : s.length ≤ 400) (one two : List Int) (h1 : one.length ≤ 100) (h2 : two.length ≤ 100) (a1 a2 : Option Addr) (c1 c2 : Nat) (w : World) (h : OpsIn w v l) (ht : Tab w) (hf : few5 l = true)
    (hk1 : KeepIn w (.slice a1 one.length c1) one) (hk2 : KeepIn w (.slice a2 two.length c2) two) :
    Calls Tryd.prog 6 #[v, .string ⟨s.toArray⟩, .slice a1 one.length c1, .slice a2 two.length c2] w fun e w' => e = .returned (.bool true) ∧ Below w.heap.size w w' := by
  have h0 := h
  obtain ⟨hM, va, vc, rfl, hmc⟩ := h0
  have H := Lib.hid h
  have MC := Lib.hid hmc
  have FM := Lib.hid (few5_mem hf).2
  have K1 := Lib.hid hk1
  have K2 := Lib.hid hk2
  have T := Lib.hid ht
  obtain ⟨O, Z, hZ, hmk, hcv⟩ := long_str
  have h1' : ¬ (400 : Int) < (s.length : Int) := by omega
  have h2' : ¬ (100 : Int) < (one.length : Int) := by omega
  have h3' : ¬ (100 : Int) < (two.length : Int) := by omega
  clear h hmc hk1 hk2 ht
  go_enter Tryd.func6, Tryd.ntmps6
  go_wp2_with fail
  refine (cSmall_c w T.out).mono ?_
  rintro e w1 ⟨rfl, hb1⟩
  go_wp2_with fail
  refine (cFew_c _ l w1 (H.out.on hb1)).mono ?_
  rintro e w2 ⟨rfl, hw2⟩
  rw [hw2, hf]
  clear hw2
  go_wp2_with fail
  refine (dd_new hb1).mono ?_
  rintro e w2 ⟨d, rfl, g2⟩
  clear hb1
  go_wp2_with fail
  refine (dd_open T.out g2.out 3 in3 (c := ⟨0, [], false⟩) (Ck.St.new (i := 3)).1).mono ?_
  rintro e w3 ⟨b0, rfl, g3⟩
  have G := Lib.hid ((run_new g3.out).mono (Q := fun _ _ => True) (fun _ _ _ => trivial))
  clear g2 g3
  obtain ⟨L, hL⟩ : ∃ L, L = l.length := ⟨_, rfl⟩
  rw [← hL] at hM ⊢
  have HL := Lib.hid hL
  clear hL
  go_wp2_with fail
  go_loopw [12, 13, 14] (fun v12 _ v14 wr => ∃ k b : Nat, k ≤ L ∧ v14 = .int .i64 (k : Int) ∧ v12 = .pointer (some ⟨b, 0, none⟩) ∧ Run w wr d b (fun _ _ => True)) (fun _ _ v14 _ => L - (intOf v14).toNat)
  case atStart => exact ⟨0, b0, Nat.zero_le _, rfl, rfl, G.out⟩
  case round =>
    obtain ⟨k, b, hk, rfl, rfl, hr⟩ := hrel
    by_cases hkl : k < L
    · have hkl' : (k : Int) < (L : Int) := by omega
      obtain ⟨x, hx⟩ : ∃ x, l[k]? = some x := ⟨l[k]'(by have := HL.out; omega), List.getElem?_eq_getElem _⟩
      obtain ⟨g, off, ya, yc, rfl, ⟨i0, i1, i2, i3⟩, hsrc, hok⟩ := MC.out k x hx
      have hfx := FM.out x (List.mem_of_getElem? hx)
      have hb := hr.base
      have hkc : ∀ {p : Addr} {v : Value}, w.cell? p = some v → wr.cell? p = some v := fun hp => (Kept.below (S := fun _ => False) hb).cell hp (fun e => e)
      have c0 := hkc i0
      have c1 := hkc i1
      have c2 := hkc i2
      have c3 := hkc i3
      have hkx : KeepIn w (.slice ya x.keep.length yc) x.keep := ⟨hsrc, by omega, hok.keepIn⟩
      obtain ⟨r0, q0⟩ := run_set T.out hr x.s (by omega)
      have Q0 := Lib.hid q0
      have Q1 := Lib.hid (run_lose hr x.n hok.n.2)
      have Q3 := Lib.hid (run_again T.out hr _ _ hkx)
      have R := Lib.hid hr
      obtain ⟨kd, hkd⟩ : ∃ kd, kd = x.kind := ⟨_, rfl⟩
      rw [← hkd] at c0
      clear hx hsrc hok i0 i1 i2 i3 hkc hfx hb hkx hr hkd q0
      by_cases e0 : kd = 0
      · subst e0
        go_wp2_with (go_at_call 14; refine Q0.out.mono ?_; rintro e w4 ⟨rfl, hp⟩)
        go_roundw
        case rel => exact ⟨k + 1, b, hkl, by go_num, rfl, hp.out.1.mono (fun _ _ _ => trivial)⟩
        case measure => simp [intOf]; omega
      · have b0 : (kd == 0) = false := by simpa using e0
        by_cases e1 : kd = 1
        · subst e1
          clear e0 b0
          go_wp2_with (go_at_call 16; refine Q1.out.mono ?_; rintro e w4 ⟨rfl, hp⟩)
          go_roundw
          case rel => exact ⟨k + 1, b, hkl, by go_num, rfl, hp.out⟩
          case measure => simp [intOf]; omega
        · have b1 : (kd == 1) = false := by simpa using e1
          by_cases e3 : kd = 3
          · subst e3
            clear e0 e1 b0 b1
            go_wp2_with (go_at_call 20; refine Q3.out.mono ?_; rintro e w4 ⟨b', rfl, hp⟩)
            go_roundw
            case rel =>
              obtain ⟨X, k', u, p1, _, _, p4⟩ := hp.out
              exact ⟨k + 1, b', hkl, by go_num, rfl, X, _, p1, p4.mono (fun _ _ _ => trivial)⟩
            case measure => simp [intOf]; omega
          · have b3 : (kd == 3) = false := by simpa using e3
            clear e0 e1 e3
            go_wp2_with fail
            go_roundw
            case rel => exact ⟨k + 1, b, hkl, by go_num, rfl, R.out⟩
            case measure => simp [intOf]; omega
    · have hkl' : ¬ (k : Int) < (L : Int) := by omega
      obtain ⟨r, q⟩ := run_set T.out hr s (by omega)
      by_cases hr0 : r = 0
      · subst hr0
        have Q := Lib.hid q
        clear hr q
        go_upto_region 23 with (go_at_call 14; refine Q.out.mono ?_; rintro e w4 ⟨rfl, hp⟩)
        have SP := Lib.hid (show Stay w w4 d b s from hp.out.2 (by first | rfl | trivial))
        have QL := Lib.hid (fun W (hW : Stay w W d b s) => stay_long T.out hW Z (by omega))
        have HLB := Lib.hid (fun W => (Below.refl _ W).alloc (Nat.le_refl W.heap.size) O)
        have SW := Lib.hid (show Stay w (w4.alloc O) d b s from by
          obtain ⟨X, c, q1, q2⟩ := SP.out
          exact ⟨X, c, q1.below (HLB.out w4), q2⟩)
        clear hp
        go_wp2_with (go_at_call 14; refine (QL.out _ SW.out).mono ?_; rintro e w5 ⟨rfl, hp5⟩)
        clear SP QL HLB SW Q
        go_loopw [12, 13, 16, 17, 18, 19] (fun v12 _ v16 _ _ _ wr => ∃ k b : Nat, k ≤ 2 ∧ v16 = .int .i64 (k : Int) ∧ v12 = .pointer (some ⟨b, 0, none⟩) ∧ Stay w wr d b s) (fun _ _ v16 _ _ _ _ => 2 - (intOf v16).toNat)
        case atStart => exact ⟨0, b, by omega, rfl, rfl, hp5.out⟩
        case round =>
          obtain ⟨k, b, hk, rfl, rfl, hst⟩ := hrel
          have QG := Lib.hid (stay_get hst)
          clear hst
          by_cases hk2 : k < 2
          · have hk2' : (k : Int) < 2 := by omega
            have QA := Lib.hid (fun W (hW : Stay w W d b s) => stay_again T.out hW _ _ K1.out)
            have QB := Lib.hid (fun W (hW : Stay w W d b s) => stay_again T.out hW _ _ K2.out)
            by_cases hk0 : k = 1
            · have hkb : ((k : Int) == 1) = true := by rw [hk0]; rfl
              go_wp2_with (first | (go_at_call 23; refine QG.out.mono ?_; rintro e w6 ⟨rfl, hp6⟩) | (go_at_call 20; refine (QB.out _ hp6.out).mono ?_; rintro e w7 ⟨b', rfl, hp7⟩))
              go_roundw
              case rel => exact ⟨k + 1, b', by omega, by go_num, rfl, hp7.out⟩
              case measure => simp [intOf]; omega
            · have hkb : ((k : Int) == 1) = false := by simp; omega
              go_wp2_with (first | (go_at_call 23; refine QG.out.mono ?_; rintro e w6 ⟨rfl, hp6⟩) | (go_at_call 20; refine (QA.out _ hp6.out).mono ?_; rintro e w7 ⟨b', rfl, hp7⟩))
              go_roundw
              case rel => exact ⟨k + 1, b', by omega, by go_num, rfl, hp7.out⟩
              case measure => simp [intOf]; omega
          · have hk2' : ¬ (k : Int) < 2 := by omega
            go_wp2_with (go_at_call 23; refine QG.out.mono ?_; rintro e w6 ⟨rfl, hp6⟩)
            go_ret
            exact ⟨rfl, hp6.out.run.base⟩
      · have hrb : (r != 0) = true := by simpa using hr0
        have Q := Lib.hid q
        clear hr hr0 q
        go_wp2_with (go_at_call 14; refine Q.out.mono ?_; rintro e w4 ⟨rfl, hp⟩)
        go_ret
        exact ⟨rfl, hp.out.1.base⟩

theorem stays_law (v : Value) (l : List Op5) (s : List UInt8) (one two : List Int) (hs : s.length ≤ 9223372036854775807) (h1 : one.length ≤ 9223372036854775807) (hi1 : ∀ k ∈ one, In64 k) (h2 : two.length ≤ 9223372036854775807) (hi2 : ∀ k ∈ two, In64 k) (a1 a2 : Option Addr) (c1 c2 : Nat) (w : World) (h : OpsIn w v l)
    (hk1 : SrcV w 1 (.slice a1 one.length c1) one.length (intsV one)) (hk2 : SrcV w 1 (.slice a2 two.length c2) two.length (intsV two)) (ht : Tab w) :
    Calls Tryd.prog 6 #[v, .string ⟨s.toArray⟩, .slice a1 one.length c1, .slice a2 two.length c2] w fun e w' => e = .returned (.bool true) ∧ Below w.heap.size w w' := by
  by_cases he : few5 l = true ∧ s.length ≤ 400 ∧ one.length ≤ 100 ∧ two.length ≤ 100
  · obtain ⟨e1, e2, e3, e4⟩ := he
    exact stays_in v l s e2 one two e3 e4 a1 a2 c1 c2 w h ht e1 ⟨hk1, by omega, hi1⟩ ⟨hk2, by omega, hi2⟩
  · exact stays_out v l s hs _ _ h1 h2 a1 a2 c1 c2 w h ht he
end Go.Proofs.YtninopllfbiccaaDoor
