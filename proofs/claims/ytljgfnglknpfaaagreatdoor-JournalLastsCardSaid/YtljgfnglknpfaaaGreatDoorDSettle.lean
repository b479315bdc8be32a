/-
  disk's files: bytes written, and which sectors are pending since then.
  disk's files: all that is pending made durable, in whatever order the map is gone through.
-/
import Derived.Test.YtljgfnglknpfaaaGreatDoorDCut
import Derived.Deep.LoopGhost
namespace Go.Proofs.YtljgfnglknpfaaaGreatDoor
set_option maxRecDepth 100000
open Go Go.RowKit Go.Maps Dk

theorem infoInt : (Tryz.prog.info? 3).map (fun i => (i.zero, i.size, i.bytes)) = some (some (.int .i64 0), 1, 8) := by kernel_rfl
def natsV (l : List Nat) : List Value := l.map fun (n : Nat) => .int .i64 (n : Int)
theorem natsV_one (l : List Nat) : ∀ u ∈ natsV l, u.oneCell' = true := by
  intro u hu
  obtain ⟨x, _, rfl⟩ := List.mem_map.1 hu
  rfl
theorem natsV_length (l : List Nat) : (natsV l).length = l.length := by simp [natsV]
/-- The sectors of a write that were looked at, up to some number. -/
def looked (f : F) (n0 i : Nat) : List Nat := (List.range' n0 i).filter fun n => !f.pend n
def pendTo (f : F) (n0 i : Nat) : Nat → Bool := fun n => f.pend n || (decide (n0 ≤ n) && decide (n < n0 + i))
theorem looked_succ (f : F) (n0 i : Nat) : looked f n0 (i + 1) = looked f n0 i ++ (if f.pend (n0 + i) then [] else [n0 + i]) := by
  unfold looked
  rw [List.range'_concat, List.filter_append]
  congr 1
  cases h : f.pend (n0 + i) <;> simp [h]
theorem looked_length (f : F) (n0 i : Nat) : (looked f n0 i).length ≤ i := by
  have := List.length_filter_le (fun n => !f.pend n) (List.range' n0 i)
  simpa [looked] using this
theorem pendTo_self (f : F) (n0 i : Nat) : pendTo f n0 i (n0 + i) = f.pend (n0 + i) := by simp [pendTo]
theorem pendTo_succ (f : F) (n0 i : Nat) : pendTo f n0 (i + 1) = fun m => pendTo f n0 i m || m == n0 + i := by
  funext m
  unfold pendTo
  cases f.pend m
  · simp only [Bool.false_or]
    rw [Bool.eq_iff_iff]
    simp
    omega
  · simp
theorem pendTo_had (f : F) (n0 i : Nat) (h : f.pend (n0 + i) = true) : pendTo f n0 (i + 1) = pendTo f n0 i := by
  rw [pendTo_succ]
  funext m
  by_cases e : m = n0 + i
  · subst e; rw [pendTo_self, h]; rfl
  · simp [e]

theorem FileAt.set0 {w : World} {p : Nat} {nv dv : Value} {mb : Nat} {f : F} (h : FileAt w p nv dv mb f) {w1 : World} (hg : w.grownBy w1 nv.ownBlock) {nv' : Value} {d : List UInt8} (hd : w1.ownsRow 0 5 1 nv' d.length (bytesV d))
    (hb : nv'.ownBlock = nv.ownBlock ∨ ∃ k, nv'.ownBlock = some k ∧ w.heap.size ≤ k) : FileAt (w1.setCell ⟨p, 0, none⟩ nv') p nv' dv mb { f with now := d } ∧ Kept (fun k => k = p ∨ nv.ownBlock = some k) w (w1.setCell ⟨p, 0, none⟩ nv') := by
  obtain ⟨a1, a2, a3, a4, a5, a6⟩ := h.apart
  have hk1 : Kept (fun k => nv.ownBlock = some k) w w1 := Kept.grown hg (fun k e => e)
  have hk2 := Kept.set p 0 w1 nv'
  have hdne : ∀ k, k < w.heap.size → nv'.ownBlock = some k → nv.ownBlock = some k := fun k hk e => by
    rcases hb with hb | ⟨k', hb, hk'⟩
    · rw [← hb]; exact e
    · rw [hb] at e; injection e with e; omega
  have hp : p < w.heap.size := h.lt (Or.inl rfl)
  have hm : mb < w.heap.size := h.lt (Or.inr (Or.inl rfl))
  have hcell : w1.heap[p]? = some (.cells #[nv, dv, .map (some mb)] 78 (0, 0)) := hk1.heap h.cell a2
  refine ⟨⟨?_, ?_, ?_, ?_, a1, fun e => a2 (hdne p hp e), fun e => a3 (hdne mb hm e), a4, a5, fun k e e' => a6 k (hdne k (own_lt h.dur e') e) e'⟩, (hk1.mono (S' := fun k => k = p ∨ nv.ownBlock = some k) fun i _ e => Or.inr e).trans hk2 (fun i hi e => Or.inl e)⟩
  · exact cells3_set hcell 0 nv' (by omega)
  · exact own_kept hd hk2 (fun k e e' => a2 (hdne p hp (by rw [e, e'])))
  · exact own_kept (own_kept h.dur hk1 (fun k e e' => a6 k e' e)) hk2 (fun k e e' => a4 (by rw [e, e']))
  · exact (h.pend.kept hk1 a3).kept hk2 (fun e => a1 e.symm)

theorem fwrite_none (p : Nat) (nv dv : Value) (mb : Nat) (f : F) (at' : Nat) (a : Option Addr) (c : Nat) (w : World) (_h : FileAt w p nv dv mb f) :
    Calls Tryz.prog 69 #[.pointer (some ⟨p, 0, none⟩), .int .i64 at', .slice a 0 c] w fun e w' => e = .returned (.slice none 0 0) ∧ w' = w := by
  go_enter Tryz.func69, Tryz.ntmps69
  go_wp2_with fail
  go_ret
  exact ⟨rfl, rfl⟩

set_option maxHeartbeats 1000000 in
set_option maxRecDepth 100000 in
theorem fwrite_some (p : Nat) (nv dv : Value) (mb : Nat) (f : F) (at' : Nat) (S : List UInt8) (sv : Value) (w : World) (h : FileAt w p nv dv mb f) (hok : f.Ok) (hS : SrcAt w sv S) (hS0 : S ≠ []) (hS1 : at' + S.length ≤ 16777216)
    (hap : ∀ b off c, sv = .slice (some ⟨b, off, none⟩) S.length c → nv.ownBlock ≠ some b) :
    Calls Tryz.prog 69 #[.pointer (some ⟨p, 0, none⟩), .int .i64 at', sv] w fun e w' => ∃ av nv', e = .returned av ∧ w'.ownsRow 0 3 1 av (f.added at' S).length (natsV (f.added at' S)) ∧ FileAt w' p nv' dv mb (f.write at' S) ∧
      Kept (InF p nv dv mb) w w' ∧ (nv'.ownBlock = nv.ownBlock ∨ ∃ k, nv'.ownBlock = some k ∧ w.heap.size ≤ k) ∧ ∀ k, av.ownBlock = some k → w.heap.size ≤ k ∧ ¬ InF p nv' dv mb k := by
  have hpos : 0 < S.length := List.length_pos_iff.2 hS0
  have hsm := hok.small
  have q0 := put_c f.now S nv sv at' w h.now hS hap hsm hS1
  have q1 := q0.mono (R' := fun e w1 => ∃ a' m' c', e = .returned (.slice a' m' c') ∧ w1.cell? ⟨p, 0, none⟩ = some nv ∧ w1.frozen? ⟨p, 0, none⟩ = false ∧
      Hid (w1.ownsRow 0 5 1 (.slice a' m' c') (put f.now at' S).length (bytesV (put f.now at' S)) ∧ w.grownBy w1 nv.ownBlock ∧ ((Value.slice a' m' c').ownBlock = nv.ownBlock ∨ ∃ k, (Value.slice a' m' c').ownBlock = some k ∧ w.heap.size ≤ k))) (by
    rintro e w1 ⟨v', rfl, ho, hg, hb⟩
    obtain ⟨a', c', rfl, _⟩ := own_shape ho
    have hp : w1.heap[p]? = some (.cells #[nv, dv, .map (some mb)] 78 (0, 0)) := (hg.block p (h.lt (Or.inl rfl)) (fun e => h.apart.2.1 e.symm)).trans h.cell
    exact ⟨a', _, c', rfl, by rw [Lib.cell_of_heap hp]; rfl, Lib.frozen_of_heap hp 0, ho, hg, hb⟩)
  obtain ⟨sa, sc, rfl, _, _⟩ := hS
  obtain ⟨n0, hn0⟩ : ∃ n0, n0 = at' / 64 := ⟨_, rfl⟩
  obtain ⟨en, hen⟩ : ∃ en, en = at' + S.length := ⟨_, rfl⟩
  have hL0 : ¬ (S.length = 0) := by omega
  have hq1 : (at' : Int).tdiv 64 = (n0 : Int) := by rw [Int.tdiv_eq_ediv_of_nonneg (by omega)]; omega
  have hq2 : (at' : Int) / 64 = (n0 : Int) := by omega
  have hen2 : (at' : Int) + (S.length : Int) = (en : Int) := by omega
  have hb1 : en ≤ 16777216 := by omega
  have hb2 : n0 ≤ 262144 := by omega
  have k0 := h.c0
  have H := Lib.hid h
  have HN0 := Lib.hid hn0
  have HEN := Lib.hid hen
  have HP := Lib.hid hpos
  have HNE := Lib.hid hS0
  have Q := Lib.hid q1
  clear h hn0 hen q0 q1 hap hS0 hpos
  go_enter Tryz.func69, Tryz.ntmps69
  go_wp2_with (go_at_call 51; refine Q.out.mono ?_; rintro e w1 ⟨a', m', c', rfl, j0, z0, HPo⟩)
  obtain ⟨ho, hg, hb⟩ := HPo.out
  obtain ⟨F1, K1⟩ := H.out.set0 hg ho hb
  have hb' := hb
  have F1' : FileAt (w1.setCell ⟨p, 0, none⟩ (.slice a' m' c')) p (.slice a' m' c') dv mb ⟨put f.now at' S, f.dur, pendTo f n0 0⟩ := by
    have e : pendTo f n0 0 = f.pend := by funext m; simp [pendTo]; omega
    rw [e]; exact F1
  clear j0 z0 HPo ho hg hb k0 F1
  generalize (w1.setCell ⟨p, 0, none⟩ (.slice a' m' c')) = w2 at F1' K1 ⊢
  obtain ⟨M, hM⟩ : ∃ M, M = (at' + S.length - 1) / 64 + 1 - n0 := ⟨_, rfl⟩
  have HM := Lib.hid hM
  clear hM
  go_loopw [7, 9] (fun v7 v9 wr => ∃ i : Nat, i ≤ M ∧ v9 = .int .i64 ((n0 + i : Nat) : Int) ∧ wr.ownsRow w2.heap.size 3 1 v7 (looked f n0 i).length (natsV (looked f n0 i)) ∧ FileAt wr p (.slice a' m' c') dv mb ⟨put f.now at' S, f.dur, pendTo f n0 i⟩ ∧ Kept (fun k => k = mb) w2 wr) (fun _ v9 _ => n0 + M - (intOf v9).toNat)
  case atStart => exact ⟨0, Nat.zero_le _, by simp, World.ownsRow_nil _ _ _ _, F1', Kept.refl _ _⟩
  case round =>
    obtain ⟨i, hi, rfl, hown, hF, hK⟩ := hrel
    obtain ⟨n, hn⟩ : ∃ n, n = n0 + i := ⟨_, rfl⟩
    rw [← hn]
    have hM := HM.out
    have hN0 := HN0.out
    have hEN := HEN.out
    have hPO := HP.out
    have HI := Lib.hid hi
    have HN := Lib.hid hn
    have hnb0 : n ≤ 262144 := by omega
    by_cases hlt : n * 64 < en
    · have hlt' : (n : Int) * 64 < (en : Int) := by omega
      have hnb : n < 262144 := by omega
      have hiM : i + 1 ≤ M := by omega
      have k2 := hF.c2
      have hps : pendTo f n0 i n = f.pend n := by rw [hn]; exact pendTo_self f n0 i
      have hlk : (Instr.lookup 76 (.map (some mb)) (.int .i64 n) false).run Tryz.prog wr = .ok (.bool (f.pend n)) wr := by rw [← hps]; exact hF.pend.look n (by omega)
      have HF := Lib.hid hF
      have HK := Lib.hid hK
      have HO := Lib.hid hown
      cases hfp : f.pend n with
      | true =>
        rw [hfp] at hlk
        have HFP := Lib.hid hfp
        clear hF hK hown hps hM hN0 hEN hPO hi hn hfp
        go_wp2_with fail
        go_roundw
        case rel =>
          refine ⟨i + 1, by have := hiM; omega, by have := HN.out; go_num, ?_, ?_, HK.out⟩
          · rw [looked_succ, ← HN.out, HFP.out]; simpa using HO.out
          · rw [pendTo_had f n0 i (by rw [← HN.out]; exact HFP.out)]; exact HF.out
        case measure => have := HN.out; simp [intOf]; omega
      | false =>
        rw [hfp] at hlk
        have HFP := Lib.hid hfp
        obtain ⟨i0, hi0, hz0, hz1, hz2⟩ := info_parts infoInt
        obtain ⟨w3, hst, hpd3, hg3⟩ := hF.pend.store n hnb
        have hmlt : mb < w2.heap.size := F1'.lt (Or.inr (Or.inl rfl))
        have hk3 : Kept (fun k => k = mb) wr w3 := Kept.grown hg3 (fun k e => by injection e with e; exact e.symm)
        have hown3 := own_kept hown hk3 (fun k e => by have := (hown.lt k e).1; omega)
        have hlen := looked_length f n0 i
        obtain ⟨v5, w5, hr, hown5, hgr5, hbl5⟩ := run_append_any_own (P := Tryz.prog) (w3.alloc (.cells #[.int .i64 (n : Int)] 3)) w2.heap.size 23 23 3 i0 (.int .i64 0) 1 8 Tryz.underlying23 hi0 hz0 hz1 hz2 rfl (by decide) _ _ _ (hown3.alloc _)
          (some ⟨w3.heap.size, 0, none⟩) 1 1 [.int .i64 (n : Int)] rfl (fun _ => ⟨_, rfl, cell_one_new w3 _ _⟩) (by simp [Value.oneCell']) (by unfold maxLen; omega) (by omega) (by have := hK.size; have := hk3.size; simp; omega)
        obtain ⟨a5, c5, rfl, _⟩ := own_shape (own_base hown5)
        have hF3 : FileAt w3 p (.slice a' m' c') dv mb ⟨put f.now at' S, f.dur, pendTo f n0 (i + 1)⟩ := by
          obtain ⟨b1, b2, b3, b4, b5, b6⟩ := hF.apart
          refine ⟨hk3.heap hF.cell b1, own_kept hF.now hk3 (fun k e e' => b3 (by rw [e, e'])), own_kept hF.dur hk3 (fun k e e' => b5 (by rw [e, e'])), ?_, hF.apart⟩
          have e := pendTo_succ f n0 i
          rw [← hn] at e
          show PendAt w3 mb (pendTo f n0 (i + 1))
          rw [e]
          exact hpd3
        have hk5 : Kept (fun k => u7.ownBlock = some k) w3 w5 := (Kept.alloc _ w3 _).trans (Kept.grown hgr5 (fun k e => e)) (fun _ _ e => e)
        have hF5 := hF3.kept hk5 (fun k hin e => by have h1 := F1'.lt hin; have h2 := (hown.lt k e).1; omega)
        have hK5 : Kept (fun k => k = mb) w2 w5 := (hK.trans hk3 (fun _ _ e => e)).trans hk5 (fun k hk e => by have := (hown.lt k e).1; omega)
        have HR := Lib.hid hr
        have HO5 := Lib.hid hown5
        have HF5 := Lib.hid hF5
        have HK5 := Lib.hid hK5
        clear hF hK hown hps hM hN0 hEN hPO hi hn hfp hpd3 hg3 hk3 hown3 hr hown5 hgr5 hbl5 hF3 hk5 hF5 hK5
        go_wp2_with (at_builtin; refine Lib.wpList_append_run _ rfl _ _ _ _ rfl _ _ rfl rfl _ w5 HR.out ?_)
        go_roundw
        case rel =>
          refine ⟨i + 1, hiM, by have := HN.out; go_num, ?_, HF5.out, HK5.out⟩
          rw [looked_succ, ← HN.out, HFP.out]
          have := HO5.out
          simpa [natsV] using this
        case measure => have := HN.out; simp [intOf]; omega
    · have hlt' : ¬ ((n : Int) * 64 < (en : Int)) := by omega
      have hiM : i = M := by omega
      have HF := Lib.hid hF
      have HK := Lib.hid hK
      have HO := Lib.hid hown
      clear hM hN0 hEN hPO hi hn hF hK hown
      go_wp2_with fail
      go_ret
      have hadd : f.added at' S = looked f n0 M := by
        unfold F.added looked secs
        rw [if_neg HNE.out, HN0.out, HM.out, HN0.out]
      have hwr : f.write at' S = ⟨put f.now at' S, f.dur, pendTo f n0 M⟩ := by
        unfold F.write
        rw [if_neg HNE.out]
        congr 1
        funext m
        have h1 := HM.out
        have h2 := HN0.out
        have h3 := HP.out
        have h4 : at' / 64 ≤ (at' + S.length - 1) / 64 := Nat.div_le_div_right (by omega)
        unfold pendTo
        congr 1
        rw [Bool.eq_iff_iff]
        simp
        omega
      subst hiM
      rw [hadd, hwr]
      have hlt2 := HO.out.lt
      refine ⟨_, rfl, own_base HO.out, _, HF.out, (K1.mono (S' := InF p nv dv mb) ?_).trans HK.out ?_, hb', fun k e => ⟨?_, fun hin => ?_⟩⟩
      · intro k _ e
        rcases e with e | e
        · exact Or.inl e
        · exact Or.inr (Or.inr (Or.inl e))
      · intro k _ e
        exact Or.inr (Or.inl e)
      · have h1 := (hlt2 k e).1
        have h2 := K1.size
        omega
      · have h1 := (hlt2 k e).1
        have h2 := F1'.lt hin
        omega
end Go.Proofs.YtljgfnglknpfaaaGreatDoor

namespace Go.Proofs.YtljgfnglknpfaaaGreatDoor
set_option maxRecDepth 100000
open Go Go.RowKit Go.Maps Dk

theorem ranges_kept {H : Type} {w w' : World} {S : Nat → Prop} {P : Program} {k : TypeId} {R : Value → Option (DataW H × List MemPlace)} {b r n : Nat} {D : DataW H} {left : Lit → Bool} {cnt : Nat} (h : w.ranges P k R b r n D left cnt) (hk : Kept S w w') (hb : ¬ S b) (hr : ¬ S r) : w'.ranges P k R b r n D left cnt := by
  obtain ⟨es, clock, since, seen, c0, h1, F, hs, hD, h2, h3⟩ := h
  exact ⟨es, clock, since, seen, c0, hk.heap h1 hb, F, hs, hD, hk.heap h2 hr, h3⟩
theorem sameInt (m n : Nat) (hn : (n : Int) ≤ 9223372036854775807) : (Lit.int .i64 (m : Int)).sameKey (.int .i64 (n : Int)) = (m == n) := by
  by_cases h : m = n
  · subst h
    rw [WideAt.sameKey_self (lawI.key (keyI (n := (m : Int)) (by omega)))]
    simp
  · rw [Maps.sameKey_ne (fun e => h (by injection e with _ e; omega))]
    simp [h]

set_option maxHeartbeats 1000000 in
set_option maxRecDepth 100000 in
theorem fsettle_c (p : Nat) (nv dv : Value) (mb : Nat) (f : F) (w : World) (h : FileAt w p nv dv mb f) (hi : f.Inv) :
    Calls Tryz.prog 64 #[.pointer (some ⟨p, 0, none⟩)] w fun e w' => e = .returned (.tuple #[]) ∧ ∃ dv' mb', FileAt w' p nv dv' mb' f.settle ∧ Kept (fun k => k = p ∨ dv.ownBlock = some k) w w' ∧ (dv'.ownBlock = dv.ownBlock ∨ ∃ k, dv'.ownBlock = some k ∧ w.heap.size ≤ k) ∧ w.heap.size ≤ mb' := by
  obtain ⟨D, hD1, hD2, hD3⟩ := h.pend
  obtain ⟨w1, hrun, hrg, hg1, hsz1⟩ := hD1.range lawI Tryz.underlying76
  have k2 := h.c2
  have hk1 : Kept (fun _ => False) w w1 := Kept.grown hg1 (fun k e => by cases e)
  have h1 := h.kept hk1 (fun _ _ e => e)
  have H := Lib.hid h
  have HI := Lib.hid hi
  have H1 := Lib.hid h1
  have HK1 := Lib.hid hk1
  have HR := Lib.hid hrg
  have HD2 := Lib.hid hD2
  have HD3 := Lib.hid hD3
  clear h hi h1 hk1 hrg hD2 hD3 hD1 hg1
  go_enter Tryz.func64, Tryz.ntmps64
  have hmm := makeMapB
  have hplt : p < w.heap.size := H.out.lt (Or.inl rfl)
  have hmlt : mb < w.heap.size := H.out.lt (Or.inr (Or.inl rfl))
  go_wp2_with fail
  go_loopw [2] (fun _ wr => ∃ (left : Lit → Bool) (cnt : Nat) (dv' : Value) (d : List UInt8), wr.ranges Tryz.prog 3 (plainElem Tryz.prog 4) mb w.heap.size 262144 D left cnt ∧ FileAt wr p nv dv' mb ⟨f.now, d, f.pend⟩ ∧
      F.Inv ⟨f.now, d, fun n => left (.int .i64 (n : Int))⟩ ∧ Kept (fun k => k = p ∨ dv.ownBlock = some k) w wr ∧ (dv'.ownBlock = dv.ownBlock ∨ ∃ k, dv'.ownBlock = some k ∧ w.heap.size < k)) (fun _ wr => wr.rangeLeft mb w.heap.size)
  case atStart =>
    refine ⟨_, _, dv, f.dur, HR.out, H1.out, ?_, HK1.out.mono (fun _ _ e => e.elim), Or.inl rfl⟩
    have e : (fun n : Nat => Maps.has D (.int .i64 (n : Int))) = f.pend := by
      funext n
      cases hp : f.pend n with
      | true => exact (HD3.out n hp).1
      | false =>
        cases hh : Maps.has D (.int .i64 (n : Int)) with
        | false => rfl
        | true =>
          obtain ⟨m, _, e, hm⟩ := HD2.out _ hh
          injection e with _ e
          have : n = m := by omega
          rw [this, hm] at hp
          cases hp
    rw [e]
    exact HI.out
  case round =>
    obtain ⟨left, cnt, dv', d, hrg, hF, hinv, hK, hb⟩ := hrel
    rcases hrg.next lawI 0 with ⟨_, hl0, hnx⟩ | ⟨key, v, kl, y, wx, cnt', hkey, hlk, hRv, hat, hnx, hrg', hlt, hgx, hszx, hen⟩
    · have hdn : d = f.now := F.inv_none hinv (fun n => hl0 _)
      have HF := Lib.hid hF
      have HK := Lib.hid hK
      have HB := Lib.hid hb
      have HDN := Lib.hid hdn
      clear hrg hF hinv hK hb hl0 hdn
      have c2 := HF.out.c2
      have z2 := HF.out.z 2
      have hpl : p < wr.heap.size := HF.out.lt (Or.inl rfl)
      have hpn : ¬ p = wr.heap.size := by omega
      have hpn' : ¬ wr.heap.size = p := by omega
      go_wp2_with fail
      go_end0
      have h := H.out
      have hF := HF.out
      obtain ⟨p1, p2, p3, p4, p5, p6⟩ := hF.apart
      have hk2 := Kept.set p 2 wr (.map (some wr.heap.size))
      have hk3 := Kept.alloc (fun k => k = p) (wr.setCell ⟨p, 2, none⟩ (.map (some wr.heap.size))) (.map #[] 0)
      have hk23 := hk2.trans hk3 (fun _ _ e => e)
      have hsz : (wr.setCell ⟨p, 2, none⟩ (.map (some wr.heap.size))).heap.size = wr.heap.size := by simp [World.setCell]
      have hpd := PendAt.made (wr.setCell ⟨p, 2, none⟩ (.map (some wr.heap.size)))
      rw [hsz] at hpd
      have hcell := (Kept.alloc (fun _ => False) _ (.map #[] 0)).heap (cells3_set hF.cell 2 (.map (some wr.heap.size)) (by omega)) (fun e => e)
      have hszw := HK.out.size
      refine ⟨rfl, dv', wr.heap.size, ⟨hcell, own_kept hF.now hk23 (fun k e e' => p2 (by rw [e, e'])), ?_, hpd, hpn, p2, fun e => ?_, p4, fun e => ?_, p6⟩, HK.out.trans hk23 (fun k _ e => Or.inl e), ?_, hszw⟩
      · have := own_kept hF.dur hk23 (fun k e e' => p4 (by rw [e, e']))
        simp only [HDN.out] at this
        exact this
      · have := own_lt hF.now e; omega
      · have := own_lt hF.dur e; omega
      · rcases HB.out with hb | ⟨k, hb, hk⟩
        · exact Or.inl hb
        · exact Or.inr ⟨k, hb, by omega⟩
    · have hhas : Maps.has D kl = true := Maps.has_true_of_atKey hat
      obtain ⟨n, hn, rfl, hpn⟩ := HD2.out kl hhas
      obtain ⟨x, rfl, e, _⟩ := Maps.keyOf_int_inv Tryz.underlying3 hkey
      injection e with _ e
      subst e
      have hkx : Kept (fun k => k = w.heap.size) wr wx := Kept.grown hgx (fun k e => by injection e with e; exact e.symm)
      have hrne : ∀ k, InF p nv dv' mb k → ¬ k = w.heap.size := fun k hin e => by
        rcases hin with h1 | h1 | h1 | h1
        · omega
        · omega
        · have := own_lt H.out.now h1; omega
        · rcases hb with hb | ⟨k', hb, hk'⟩
          · rw [hb] at h1
            have := own_lt H.out.dur h1; omega
          · rw [hb] at h1
            injection h1 with h1
            omega
      have hFx := hF.kept hkx hrne
      have q := save_c p nv dv' mb _ n wx hFx ⟨hinv.le, fun m hm => HI.out.inside m hm, hinv.small⟩ (hinv.inside n hlk)
      have hinv' := F.save_inv hinv hlk
      have hfun : (fun m : Nat => left (.int .i64 (m : Int)) && !(m == n)) = fun m : Nat => left (.int .i64 (m : Int)) && !((Lit.int .i64 (m : Int)).sameKey (.int .i64 (n : Int))) := by
        funext m
        rw [sameInt m n (by omega)]
      have hinv2 : F.Inv ⟨f.now, put d (64 * n) (sec f.now n), fun m => left (.int .i64 (m : Int)) && !((Lit.int .i64 (m : Int)).sameKey (.int .i64 (n : Int)))⟩ := by
        rw [← hfun]; exact hinv'
      have Q := Lib.hid q
      have HG := Lib.hid hrg
      have HG' := Lib.hid hrg'
      have HIV := Lib.hid hinv2
      have HK := Lib.hid hK
      have HKX := Lib.hid hkx
      have HB := Lib.hid hb
      have HLT := Lib.hid hlt
      have HRN := Lib.hid hrne
      have HSX := Lib.hid hszx
      have HAP := Lib.hid hF.apart
      have HFL := Lib.hid (fun k => hF.lt (k := k))
      clear q hrg hrg' hinv hinv' hinv2 hK hkx hb hlt hrne hF hFx hat hfun hhas hkey hRv hlk hpn hgx hszx
      go_wp2_with (go_at_call 33; refine Q.out.mono ?_; rintro e w2 ⟨rfl, dv2, hF2, hK2, hb2⟩)
      have hb0 := HB.out
      have hsx := HSX.out
      have hsw := HK.out.size
      have hne1 : ¬ (mb = p ∨ dv'.ownBlock = some mb) := fun e => by
        rcases e with e | e
        · exact HAP.out.1 e.symm
        · exact HAP.out.2.2.2.2.1 e
      have hne2 : ¬ (w.heap.size = p ∨ dv'.ownBlock = some w.heap.size) := fun e => by
        rcases e with e | e
        · omega
        · exact HRN.out _ (Or.inr (Or.inr (Or.inr e))) rfl
      have hg2 := ranges_kept HG'.out hK2 hne1 hne2
      go_roundw
      case rel =>
        refine ⟨_, _, dv2, _, hg2, hF2, HIV.out, ?_, ?_⟩
        · refine (HK.out.trans HKX.out (fun k hk e => by omega)).trans hK2 (fun k hk e => ?_)
          rcases e with e | e
          · exact Or.inl e
          · rcases hb0 with hb | ⟨k', hb, hk'⟩
            · rw [hb] at e; exact Or.inr e
            · rw [hb] at e
              injection e with e
              omega
        · rcases hb2 with h2 | ⟨k, h2, hk⟩
          · rw [h2]
            exact hb0
          · exact Or.inr ⟨k, h2, by have := HG'.out.lt; omega⟩
      case measure =>
        rw [hg2.left_eq, HG.out.left_eq]
        exact HLT.out
end Go.Proofs.YtljgfnglknpfaaaGreatDoor
