/-
  DiskSynced: the walk.
-/
import Derived.Test.YthibikdnoogfoaaDSynced
namespace Go.Proofs.Ythibikdnoogfoaa
open Go Go.RowKit Go.Maps Dk

def syncedEarly (l more : List Act) (keep : List Int) : Bool := !fewM l || !fewM more || decide (60 < keep.length)

set_option maxHeartbeats 1000000 in
set_option maxRecDepth 100000 in
theorem synced_out (v vm : Value) (l more : List Act) (f : Int) (keep : List Int) (ka : Option Addr) (kc : Nat) (hk : keep.length ≤ 9223372036854775807) (w : World) (h : ActsIn w v l) (hm : ActsIn w vm more) (he : syncedEarly l more keep = true) :
    Calls Try.prog 5 #[v, .int .i64 f, vm, .slice ka keep.length kc] w fun e w' => e = .returned (.bool true) ∧ Below w.heap.size w w' := by
  have h0 := h
  obtain ⟨_, va, vc, rfl, _⟩ := h0
  have h0 := hm
  obtain ⟨_, ma, mc, rfl, _⟩ := h0
  have H := Lib.hid h
  have M := Lib.hid hm
  clear h hm
  go_enter Try.func5, Try.ntmps5
  go_wp2_with fail
  refine (small_c w).mono ?_
  rintro e w1 ⟨rfl, hb1⟩
  go_wp2_with fail
  refine (few_c _ l w1 (H.out.on hb1)).mono ?_
  rintro e w2 ⟨rfl, h2⟩
  rw [h2]
  clear h2
  have HB := Lib.hid hb1
  unfold syncedEarly at he
  cases hf : fewM l with
  | false =>
    clear hb1
    go_wp2_with fail
    go_ret
    exact ⟨rfl, HB.out⟩
  | true =>
    rw [hf] at he
    go_wp2_with fail
    refine (few_c _ more w1 (M.out.on hb1)).mono ?_
    rintro e w2 ⟨rfl, h2⟩
    rw [h2]
    clear h2 hb1
    cases hf2 : fewM more with
    | false =>
      go_wp2_with fail
      go_ret
      exact ⟨rfl, HB.out⟩
    | true =>
      rw [hf2] at he
      have h1 : 60 < keep.length := by simpa using he
      have h1' : (60 : Int) < (keep.length : Int) := by omega
      go_wp2_with fail
      go_ret
      exact ⟨rfl, HB.out⟩

set_option maxHeartbeats 4000000 in
set_option maxRecDepth 100000 in
theorem synced_bad (v vm : Value) (l more : List Act) (f : Int) (hf64 : In64 f) (keep : List Int) (ka : Option Addr) (kc : Nat) (w : World) (h : ActsAt w v l) (hm : ActsAt w vm more) (he : syncedEarly l more keep = false)
    (hb : ((playM l).sync f).2 ≠ 0) :
    Calls Try.prog 5 #[v, .int .i64 f, vm, .slice ka keep.length kc] w fun e w' => e = .returned (.bool true) ∧ Below w.heap.size w w' := by
  have h0 := h
  obtain ⟨_, va, vc, rfl, _⟩ := h0
  have h0 := hm
  obtain ⟨_, ma, mc, rfl, _⟩ := h0
  have H := Lib.hid h
  have M := Lib.hid hm
  clear h hm
  unfold syncedEarly at he
  simp only [Bool.or_eq_false_iff, decide_eq_false_iff_not, Bool.not_eq_false'] at he
  obtain ⟨⟨hf, hf2⟩, h1⟩ := he
  have h1' : ¬ (60 : Int) < (keep.length : Int) := by omega
  have hkl : keep.length ≤ 60 := by omega
  go_enter Try.func5, Try.ntmps5
  go_wp2_with fail
  refine (small_c w).mono ?_
  rintro e w1 ⟨rfl, hb1⟩
  go_wp2_with fail
  refine (few_c _ l w1 (H.out.on hb1).toIn).mono ?_
  rintro e w2 ⟨rfl, h2⟩
  rw [h2, hf]
  clear h2
  go_wp2_with fail
  refine (few_c _ more w1 (M.out.on hb1).toIn).mono ?_
  rintro e w2 ⟨rfl, h2⟩
  rw [h2, hf2]
  clear h2
  go_wp2_with fail
  refine (played_c _ l w1 (H.out.on hb1)).mono ?_
  rintro e w2 ⟨d, rfl, hd2, hb2⟩
  have s1 := hb1.size
  replace hd2 := hd2.mono (T := fun k => w.heap.size ≤ k) (fun k _ e => Nat.le_trans s1 e)
  replace hb2 := hb1.trans (hb2.mono s1)
  have s2 := hb2.size
  clear hb1
  go_wp2_with fail
  refine (read_c d _ _ f 0 16777216 hf64 (by omega) (by omega) w2 hd2).mono ?_
  rintro e w5 ⟨rfl, h5⟩
  rw [h5]
  clear h5
  go_wp2_with fail
  refine (sync_c d _ _ f hf64 w2 hd2).mono ?_
  rintro e w3 ⟨rfl, hd3, hk3⟩
  have hb3 := hb2.trans (hk3.toBelow s2 (fun _ e => e))
  clear hd2 hb2 hk3 hd3
  obtain ⟨z, hz⟩ : ∃ z, z = ((playM l).sync f).2 := ⟨_, rfl⟩
  rw [← hz] at hb ⊢
  have HB := Lib.hid hb3
  clear hz hb3
  go_wp2_with fail
  go_ret
  exact ⟨rfl, HB.out⟩

/-- The acts that the law lets through: all that leave the file alone. -/
def passes (f : Int) (a : Act) : Bool := (decide (code a < 4) && decide (a.f ≠ f)) || decide (code a = 4)
theorem passes_set {X : D} {i : Nat} {N : List UInt8} (h : Set' X i N) {a : Act} (hp : passes (i : Int) a = true) : Set' (doM X a).1 i N := by
  unfold passes at hp
  simp only [Bool.or_eq_true, Bool.and_eq_true, decide_eq_true_eq] at hp
  exact h.act a hp
theorem crash_down {X : D} (l : List Int) : (X.crash l).start.down = false := rfl
theorem Set'.start {X : D} {i : Nat} {N : List UInt8} (h : Set' X i N) : Set' X.start i N := h.turn rfl h.queue

set_option maxHeartbeats 4000000 in
set_option maxRecDepth 100000 in
theorem synced_good (v vm : Value) (l more : List Act) (i : Nat) (hi : i < 16) (keep : List Int) (hki : ∀ k ∈ keep, In64 k) (ka : Option Addr) (kc : Nat) (w : World) (h : ActsAt w v l) (hm : ActsAt w vm more)
    (hk : SrcV w 1 (.slice ka keep.length kc) keep.length (intsV keep)) (he : syncedEarly l more keep = false) (hb : ((playM l).sync (i : Int)).2 = 0) (hup : (playM l).down = false) (hup2 : ((playM l).sync (i : Int)).1.down = false)
    (hset : Set' ((playM l).sync (i : Int)).1 i ((playM l).file i).now) :
    Calls Try.prog 5 #[v, .int .i64 (i : Int), vm, .slice ka keep.length kc] w fun e w' => e = .returned (.bool true) ∧ Below w.heap.size w w' := by
  have h0 := h
  obtain ⟨_, va, vc, rfl, _⟩ := h0
  have h0 := hm
  obtain ⟨hM, ma, mc, rfl, hmc⟩ := h0
  have H := Lib.hid h
  have M := Lib.hid hm
  have K := Lib.hid hk
  have MC := Lib.hid hmc
  have KI := Lib.hid hki
  clear h hm hk hmc hki
  unfold syncedEarly at he
  simp only [Bool.or_eq_false_iff, decide_eq_false_iff_not, Bool.not_eq_false'] at he
  obtain ⟨⟨hf, hf2⟩, h1⟩ := he
  have h1' : ¬ (60 : Int) < (keep.length : Int) := by omega
  have hkl : keep.length ≤ 60 := by omega
  have hf64 : -9223372036854775808 ≤ (i : Int) ∧ (i : Int) ≤ 9223372036854775807 := by omega
  go_enter Try.func5, Try.ntmps5
  go_wp2_with fail
  refine (small_c w).mono ?_
  rintro e w1 ⟨rfl, hb1⟩
  go_wp2_with fail
  refine (few_c _ l w1 (H.out.on hb1).toIn).mono ?_
  rintro e w2 ⟨rfl, h2⟩
  rw [h2, hf]
  clear h2
  go_wp2_with fail
  refine (few_c _ more w1 (M.out.on hb1).toIn).mono ?_
  rintro e w2 ⟨rfl, h2⟩
  rw [h2, hf2]
  clear h2
  go_wp2_with fail
  refine (played_c _ l w1 (H.out.on hb1)).mono ?_
  rintro e w2 ⟨d, rfl, hd2, hb2⟩
  have s1 := hb1.size
  replace hd2 := hd2.mono (T := fun k => w.heap.size ≤ k) (fun k _ e => Nat.le_trans s1 e)
  replace hb2 := hb1.trans (hb2.mono s1)
  have s2 := hb2.size
  clear hb1
  obtain ⟨q, hq⟩ : ∃ q, q = ((playM l).file i).now := ⟨_, rfl⟩
  have hN : q.length ≤ 16777216 := by rw [hq]; exact (hd2.inv.file i hi).small
  have r1 : (playM l).read (i : Int) 0 16777216 = (q, 0) := read_all hup hi hq.symm hN
  obtain ⟨Y, hY⟩ : ∃ Y, Y = ((playM l).sync (i : Int)).1 := ⟨_, rfl⟩
  rw [← hY, ← hq] at hset
  rw [← hY] at hup2
  have r2 : Y.read (i : Int) 0 16777216 = (q, 0) := read_all hup2 hi hset.now hN
  go_wp2_with fail
  refine (read_c d _ _ (i : Int) 0 16777216 hf64 (by omega) (by omega) w2 hd2).mono ?_
  rw [r1]
  rintro e w5 ⟨rfl, h5⟩
  rw [h5]
  clear h5 r1 hq
  go_wp2_with fail
  refine (sync_c d _ _ (i : Int) hf64 w2 hd2).mono ?_
  rw [hb, ← hY]
  rintro e w3 ⟨rfl, hd3, hk3⟩
  replace hd3 := hd3.up s2
  have hb3 := hb2.trans (hk3.toBelow s2 (fun _ e => e))
  have s3 := hb3.size
  clear hd2 hb2 hk3 hY hb
  go_wp2_with fail
  refine (read_c d _ _ (i : Int) 0 16777216 hf64 (by omega) (by omega) w3 hd3).mono ?_
  rw [r2]
  rintro e w5 ⟨rfl, h5⟩
  rw [h5]
  clear h5 r2
  have HD := Lib.hid hd3
  have HB := Lib.hid hb3
  have HS := Lib.hid hset
  clear hd3 hb3 hset s1 s2 s3 hup hup2 hf hf2
  obtain ⟨L, hL⟩ : ∃ L, L = more.length := ⟨_, rfl⟩
  rw [← hL] at hM ⊢
  have HL := Lib.hid hL
  clear hL
  go_wp2_with fail
  go_loopw [15, 16] (fun v15 _ wr => ∃ k : Nat, k ≤ L ∧ v15 = .int .i64 (k : Int) ∧ ∃ Z, DiskIn wr d (fun k => w.heap.size ≤ k) Z ∧ Set' Z i q ∧ Below w.heap.size w wr) (fun v15 _ _ => L - (intOf v15).toNat)
  case atStart => exact ⟨0, Nat.zero_le _, rfl, Y, HD.out, HS.out, HB.out⟩
  case round =>
    obtain ⟨k, hk, rfl, Z, hd, hset, hb⟩ := hrel
    by_cases hkl : k < L
    · have hkl' : (k : Int) < (L : Int) := by omega
      obtain ⟨x, hx⟩ : ∃ x, more[k]? = some x := ⟨more[k]'(by have := HL.out; omega), List.getElem?_eq_getElem _⟩
      obtain ⟨b, off, ya, yc, rfl, ⟨g0, g1, g2, g3, g4⟩, hsrc, hok⟩ := MC.out k x hx
      have hkc : ∀ {p : Addr} {v : Value}, w.cell? p = some v → wr.cell? p = some v := fun hp => (Kept.below (S := fun _ => False) hb).cell hp (fun e => e)
      have c0 := hkc g0
      have c1 := hkc g1
      have c2 := hkc g2
      have c3 := hkc g3
      have c4 := hkc g4
      have qd := do_c x hok (.slice ya x.keep.length yc) d _ _ wr hd (hsrc.on hb) (hsrc.keepAt hb (fun k e => e))
      have hs := hb.size
      have HB' := Lib.hid hb
      have Q := Lib.hid qd
      have HD' := Lib.hid hd
      have HS' := Lib.hid hset
      have hcode : code x = bits .and .i64 x.op 7 := rfl
      have hps : passes (i : Int) x = true → Set' (doM Z x).1 i q := fun hp => passes_set hset hp
      clear hd hb hx hsrc hok g0 g1 g2 g3 g4 qd hkc hset
      by_cases hp : passes (i : Int) x = true
      · have HP := Lib.hid (hps hp)
        unfold passes at hp
        simp only [Bool.or_eq_true, Bool.and_eq_true, decide_eq_true_eq, hcode] at hp
        clear hps hcode
        rcases hp with ⟨h4, hne⟩ | h4
        · go_wp2_with (go_at_call 12; refine Q.out.mono ?_; rintro e w2 ⟨rfl, hd2, hk2⟩)
          go_roundw
          case rel => exact ⟨k + 1, hkl, by go_num, _, hd2.up hs, HP.out, HB'.out.trans (hk2.toBelow hs (fun _ e => e))⟩
          case measure => simp [intOf]; omega
        · have h4' : ¬ bits .and .i64 x.op 7 < 4 := by omega
          go_wp2_with (go_at_call 12; refine Q.out.mono ?_; rintro e w2 ⟨rfl, hd2, hk2⟩)
          go_roundw
          case rel => exact ⟨k + 1, hkl, by go_num, _, hd2.up hs, HP.out, HB'.out.trans (hk2.toBelow hs (fun _ e => e))⟩
          case measure => simp [intOf]; omega
      · clear hps
        unfold passes at hp
        simp only [Bool.or_eq_true, Bool.and_eq_true, decide_eq_true_eq, not_or, hcode] at hp
        obtain ⟨hp1, hp2⟩ := hp
        clear hcode
        by_cases h4 : bits .and .i64 x.op 7 < 4
        · have hfe : x.f = (i : Int) := Classical.byContradiction fun e => hp1 ⟨h4, e⟩
          clear hp1
          go_wp2_with fail
          go_roundw
          case rel => exact ⟨k + 1, hkl, by go_num, Z, HD'.out, HS'.out, HB'.out⟩
          case measure => simp [intOf]; omega
        · clear hp1
          go_wp2_with fail
          go_roundw
          case rel => exact ⟨k + 1, hkl, by go_num, Z, HD'.out, HS'.out, HB'.out⟩
          case measure => simp [intOf]; omega
    · have hkl' : ¬ (k : Int) < (L : Int) := by omega
      have hs := hb.size
      have HB' := Lib.hid hb
      have HC := Lib.hid (crash_c d _ _ (.slice ka keep.length kc) keep wr hd (K.out.keepAt hb (fun k e => e)) (by omega) KI.out)
      have HSC := Lib.hid ((hset.crash keep).start)
      clear hd hset hb
      go_wp2_with (go_at_call 25; refine HC.out.mono ?_; rintro e w4 ⟨rfl, hd4, hk4⟩)
      replace hd4 := hd4.up hs
      have hb4 := HB'.out.trans (hk4.toBelow hs (fun _ e => e))
      have s4 := hb4.size
      clear hk4
      go_wp2_with fail
      refine (start_c d _ _ w4 hd4).mono ?_
      rintro e w7 ⟨rfl, hd7, hk7⟩
      have hb7 := hb4.trans (hk7.toBelow s4 (fun _ e => e))
      clear hd4 hb4 hk7
      have r5 : (Z.crash keep).start.read (i : Int) 0 16777216 = (q, 0) := read_all (crash_down keep) hi HSC.out.now hN
      go_wp2_with fail
      refine (read_c d _ _ (i : Int) 0 16777216 hf64 (by omega) (by omega) w7 hd7).mono ?_
      rw [r5]
      rintro e w8 ⟨rfl, h8⟩
      rw [h8]
      clear h8 r5 hd7
      go_wp2_with fail
      go_ret
      exact ⟨rfl, hb7⟩

theorem synced_law (v vm : Value) (l more : List Act) (f : Int) (hf64 : In64 f) (keep : List Int) (hkl : keep.length ≤ 9223372036854775807) (hki : ∀ k ∈ keep, In64 k) (ka : Option Addr) (kc : Nat) (w : World) (h : ActsIn w v l) (hm : ActsIn w vm more)
    (hk : SrcV w 1 (.slice ka keep.length kc) keep.length (intsV keep)) :
    Calls Try.prog 5 #[v, .int .i64 f, vm, .slice ka keep.length kc] w fun e w' => e = .returned (.bool true) ∧ Below w.heap.size w w' := by
  cases he : syncedEarly l more keep with
  | true => exact synced_out v vm l more f keep ka kc hkl w h hm he
  | false =>
    have he' := he
    unfold syncedEarly at he'
    simp only [Bool.or_eq_false_iff, decide_eq_false_iff_not, Bool.not_eq_false'] at he'
    have h' := h.few he'.1.1
    have hm' := hm.few he'.1.2
    by_cases hb : ((playM l).sync f).2 = 0
    · obtain ⟨i, hi, rfl, hup, hup2, hset⟩ := sync_good hb
      exact synced_good v vm l more i hi keep hki ka kc w h' hm' hk he hb hup hup2 hset
    · exact synced_bad v vm l more f hf64 keep ka kc w h' hm' he hb
end Go.Proofs.Ythibikdnoogfoaa
