/-
  disk's files: bytes written, and which sectors are pending since then.
-/
import Derived.Test.YtninopllfbiccaaDoorDRev
import Derived.Deep.LoopGhost
namespace Go.Proofs.YtninopllfbiccaaDoor
set_option maxRecDepth 100000
open Go Go.RowKit Go.Maps Dk

theorem infoInt : (Tryd.prog.info? 3).map (fun i => (i.zero, i.size, i.bytes)) = some (some (.int .i64 0), 1, 8) := by kernel_rfl
def natsV (l : List Nat) : List Value := l.map fun (n : Nat) => .int .i64 (n : Int)
theorem natsV_one (l : List Nat) : ∀ u ∈ natsV l, u.oneCell' = true := by
  intro u hu
  obtain ⟨x, _, rfl⟩ := List.mem_map.1 hu
  rfl
theorem natsV_length (l : List Nat) : (natsV l).length = l.length := by simp [natsV]
/-- The sectors of a write that were looked at, up to some number. -/
def looked (f : F) (n0 i : Nat) : List Nat := (List.range' n0 i).filter fun n => !f.pend n
def pendTo (f : F) (n0 i : Nat) : Nat → Bool := fun n => f.pend n || (decide (n0 ≤ n) && decide (n < n0 + i))
theorem looked_succ (f : F) (n0 i : Nat) : looked f n0 (i + 1) = looked f n0 i ++ (if f.pend (n0 + i) then [] else [n0 + i]) := by
  unfold looked
  rw [List.range'_concat, List.filter_append]
  congr 1
  cases h : f.pend (n0 + i) <;> simp [h]
theorem looked_length (f : F) (n0 i : Nat) : (looked f n0 i).length ≤ i := by
  have := List.length_filter_le (fun n => !f.pend n) (List.range' n0 i)
  simpa [looked] using this
theorem pendTo_self (f : F) (n0 i : Nat) : pendTo f n0 i (n0 + i) = f.pend (n0 + i) := by simp [pendTo]
theorem pendTo_succ (f : F) (n0 i : Nat) : pendTo f n0 (i + 1) = fun m => pendTo f n0 i m || m == n0 + i := by
  funext m
  unfold pendTo
  cases f.pend m
  · simp only [Bool.false_or]
    rw [Bool.eq_iff_iff]
    simp
    omega
  · simp
theorem pendTo_had (f : F) (n0 i : Nat) (h : f.pend (n0 + i) = true) : pendTo f n0 (i + 1) = pendTo f n0 i := by
  rw [pendTo_succ]
  funext m
  by_cases e : m = n0 + i
  · subst e; rw [pendTo_self, h]; rfl
  · simp [e]

theorem FileAt.set0 {w : World} {p : Nat} {nv dv : Value} {mb : Nat} {f : F} (h : FileAt w p nv dv mb f) {w1 : World} (hg : w.grownBy w1 nv.ownBlock) {nv' : Value} {d : List UInt8} (hd : w1.ownsRow 0 5 1 nv' d.length (bytesV d))
    (hb : nv'.ownBlock = nv.ownBlock ∨ ∃ k, nv'.ownBlock = some k ∧ w.heap.size ≤ k) : FileAt (w1.setCell ⟨p, 0, none⟩ nv') p nv' dv mb { f with now := d } ∧ Kept (fun k => k = p ∨ nv.ownBlock = some k) w (w1.setCell ⟨p, 0, none⟩ nv') := by
  obtain ⟨a1, a2, a3, a4, a5, a6⟩ := h.apart
  have hk1 : Kept (fun k => nv.ownBlock = some k) w w1 := Kept.grown hg (fun k e => e)
  have hk2 := Kept.set p 0 w1 nv'
  have hdne : ∀ k, k < w.heap.size → nv'.ownBlock = some k → nv.ownBlock = some k := fun k hk e => by
    rcases hb with hb | ⟨k', hb, hk'⟩
    · rw [← hb]; exact e
    · rw [hb] at e; injection e with e; omega
  have hp : p < w.heap.size := h.lt (Or.inl rfl)
  have hm : mb < w.heap.size := h.lt (Or.inr (Or.inl rfl))
  have hcell : w1.heap[p]? = some (.cells #[nv, dv, .map (some mb)] 88 (0, 0)) := hk1.heap h.cell a2
  refine ⟨⟨?_, ?_, ?_, ?_, a1, fun e => a2 (hdne p hp e), fun e => a3 (hdne mb hm e), a4, a5, fun k e e' => a6 k (hdne k (own_lt h.dur e') e) e'⟩, (hk1.mono (S' := fun k => k = p ∨ nv.ownBlock = some k) fun i _ e => Or.inr e).trans hk2 (fun i hi e => Or.inl e)⟩
  · exact cells3_set hcell 0 nv' (by omega)
  · exact own_kept hd hk2 (fun k e e' => a2 (hdne p hp (by rw [e, e'])))
  · exact own_kept (own_kept h.dur hk1 (fun k e e' => a6 k e' e)) hk2 (fun k e e' => a4 (by rw [e, e']))
  · exact (h.pend.kept hk1 a3).kept hk2 (fun e => a1 e.symm)

theorem fwrite_none (p : Nat) (nv dv : Value) (mb : Nat) (f : F) (at' : Nat) (a : Option Addr) (c : Nat) (w : World) (_h : FileAt w p nv dv mb f) :
    Calls Tryd.prog 60 #[.pointer (some ⟨p, 0, none⟩), .int .i64 at', .slice a 0 c] w fun e w' => e = .returned (.slice none 0 0) ∧ w' = w := by
  go_enter Tryd.func60, Tryd.ntmps60
  go_wp2_with fail
  go_ret
  exact ⟨rfl, rfl⟩

set_option maxHeartbeats 1000000 in
set_option maxRecDepth 100000 in
theorem fwrite_some (p : Nat) (nv dv : Value) (mb : Nat) (f : F) (at' : Nat) (S : List UInt8) (sv : Value) (w : World) (h : FileAt w p nv dv mb f) (hok : f.Ok) (hS : SrcAt w sv S) (hS0 : S ≠ []) (hS1 : at' + S.length ≤ 16777216)
    (hap : ∀ b off c, sv = .slice (some ⟨b, off, none⟩) S.length c → nv.ownBlock ≠ some b) :
    Calls Tryd.prog 60 #[.pointer (some ⟨p, 0, none⟩), .int .i64 at', sv] w fun e w' => ∃ av nv', e = .returned av ∧ w'.ownsRow 0 3 1 av (f.added at' S).length (natsV (f.added at' S)) ∧ FileAt w' p nv' dv mb (f.write at' S) ∧
      Kept (InF p nv dv mb) w w' ∧ (nv'.ownBlock = nv.ownBlock ∨ ∃ k, nv'.ownBlock = some k ∧ w.heap.size ≤ k) ∧ ∀ k, av.ownBlock = some k → w.heap.size ≤ k ∧ ¬ InF p nv' dv mb k := by
  have hpos : 0 < S.length := List.length_pos_iff.2 hS0
  have hsm := hok.small
  have q0 := put_c f.now S nv sv at' w h.now hS hap hsm hS1
  have q1 := q0.mono (R' := fun e w1 => ∃ a' m' c', e = .returned (.slice a' m' c') ∧ w1.cell? ⟨p, 0, none⟩ = some nv ∧ w1.frozen? ⟨p, 0, none⟩ = false ∧
      Hid (w1.ownsRow 0 5 1 (.slice a' m' c') (put f.now at' S).length (bytesV (put f.now at' S)) ∧ w.grownBy w1 nv.ownBlock ∧ ((Value.slice a' m' c').ownBlock = nv.ownBlock ∨ ∃ k, (Value.slice a' m' c').ownBlock = some k ∧ w.heap.size ≤ k))) (by
    rintro e w1 ⟨v', rfl, ho, hg, hb⟩
    obtain ⟨a', c', rfl, _⟩ := own_shape ho
    have hp : w1.heap[p]? = some (.cells #[nv, dv, .map (some mb)] 88 (0, 0)) := (hg.block p (h.lt (Or.inl rfl)) (fun e => h.apart.2.1 e.symm)).trans h.cell
    exact ⟨a', _, c', rfl, by rw [Lib.cell_of_heap hp]; rfl, Lib.frozen_of_heap hp 0, ho, hg, hb⟩)
  obtain ⟨sa, sc, rfl, _, _⟩ := hS
  obtain ⟨n0, hn0⟩ : ∃ n0, n0 = at' / 64 := ⟨_, rfl⟩
  obtain ⟨en, hen⟩ : ∃ en, en = at' + S.length := ⟨_, rfl⟩
  have hL0 : ¬ (S.length = 0) := by omega
  have hq1 : (at' : Int).tdiv 64 = (n0 : Int) := by rw [Int.tdiv_eq_ediv_of_nonneg (by omega)]; omega
  have hq2 : (at' : Int) / 64 = (n0 : Int) := by omega
  have hen2 : (at' : Int) + (S.length : Int) = (en : Int) := by omega
  have hb1 : en ≤ 16777216 := by omega
  have hb2 : n0 ≤ 262144 := by omega
  have k0 := h.c0
  have H := Lib.hid h
  have HN0 := Lib.hid hn0
  have HEN := Lib.hid hen
  have HP := Lib.hid hpos
  have HNE := Lib.hid hS0
  have Q := Lib.hid q1
  clear h hn0 hen q0 q1 hap hS0 hpos
  go_enter Tryd.func60, Tryd.ntmps60
  go_wp2_with (go_at_call 59; refine Q.out.mono ?_; rintro e w1 ⟨a', m', c', rfl, j0, z0, HPo⟩)
  obtain ⟨ho, hg, hb⟩ := HPo.out
  obtain ⟨F1, K1⟩ := H.out.set0 hg ho hb
  have hb' := hb
  have F1' : FileAt (w1.setCell ⟨p, 0, none⟩ (.slice a' m' c')) p (.slice a' m' c') dv mb ⟨put f.now at' S, f.dur, pendTo f n0 0⟩ := by
    have e : pendTo f n0 0 = f.pend := by funext m; simp [pendTo]; omega
    rw [e]; exact F1
  clear j0 z0 HPo ho hg hb k0 F1
  generalize (w1.setCell ⟨p, 0, none⟩ (.slice a' m' c')) = w2 at F1' K1 ⊢
  obtain ⟨M, hM⟩ : ∃ M, M = (at' + S.length - 1) / 64 + 1 - n0 := ⟨_, rfl⟩
  have HM := Lib.hid hM
  clear hM
  go_loopw [7, 9] (fun v7 v9 wr => ∃ i : Nat, i ≤ M ∧ v9 = .int .i64 ((n0 + i : Nat) : Int) ∧ wr.ownsRow w2.heap.size 3 1 v7 (looked f n0 i).length (natsV (looked f n0 i)) ∧ FileAt wr p (.slice a' m' c') dv mb ⟨put f.now at' S, f.dur, pendTo f n0 i⟩ ∧ Kept (fun k => k = mb) w2 wr) (fun _ v9 _ => n0 + M - (intOf v9).toNat)
  case atStart => exact ⟨0, Nat.zero_le _, by simp, World.ownsRow_nil _ _ _ _, F1', Kept.refl _ _⟩
  case round =>
    obtain ⟨i, hi, rfl, hown, hF, hK⟩ := hrel
    obtain ⟨n, hn⟩ : ∃ n, n = n0 + i := ⟨_, rfl⟩
    rw [← hn]
    have hM := HM.out
    have hN0 := HN0.out
    have hEN := HEN.out
    have hPO := HP.out
    have HI := Lib.hid hi
    have HN := Lib.hid hn
    have hnb0 : n ≤ 262144 := by omega
    by_cases hlt : n * 64 < en
    · have hlt' : (n : Int) * 64 < (en : Int) := by omega
      have hnb : n < 262144 := by omega
      have hiM : i + 1 ≤ M := by omega
      have k2 := hF.c2
      have hps : pendTo f n0 i n = f.pend n := by rw [hn]; exact pendTo_self f n0 i
      have hlk : (Instr.lookup 86 (.map (some mb)) (.int .i64 n) false).run Tryd.prog wr = .ok (.bool (f.pend n)) wr := by rw [← hps]; exact hF.pend.look n (by omega)
      have HF := Lib.hid hF
      have HK := Lib.hid hK
      have HO := Lib.hid hown
      cases hfp : f.pend n with
      | true =>
        rw [hfp] at hlk
        have HFP := Lib.hid hfp
        clear hF hK hown hps hM hN0 hEN hPO hi hn hfp
        go_wp2_with fail
        go_roundw
        case rel =>
          refine ⟨i + 1, by have := hiM; omega, by have := HN.out; go_num, ?_, ?_, HK.out⟩
          · rw [looked_succ, ← HN.out, HFP.out]; simpa using HO.out
          · rw [pendTo_had f n0 i (by rw [← HN.out]; exact HFP.out)]; exact HF.out
        case measure => have := HN.out; simp [intOf]; omega
      | false =>
        rw [hfp] at hlk
        have HFP := Lib.hid hfp
        obtain ⟨i0, hi0, hz0, hz1, hz2⟩ := info_parts infoInt
        obtain ⟨w3, hst, hpd3, hg3⟩ := hF.pend.store n hnb
        have hmlt : mb < w2.heap.size := F1'.lt (Or.inr (Or.inl rfl))
        have hk3 : Kept (fun k => k = mb) wr w3 := Kept.grown hg3 (fun k e => by injection e with e; exact e.symm)
        have hown3 := own_kept hown hk3 (fun k e => by have := (hown.lt k e).1; omega)
        have hlen := looked_length f n0 i
        obtain ⟨v5, w5, hr, hown5, hgr5, hbl5⟩ := run_append_any_own (P := Tryd.prog) (w3.alloc (.cells #[.int .i64 (n : Int)] 3)) w2.heap.size 36 36 3 i0 (.int .i64 0) 1 8 Tryd.underlying36 hi0 hz0 hz1 hz2 rfl (by decide) _ _ _ (hown3.alloc _)
          (some ⟨w3.heap.size, 0, none⟩) 1 1 [.int .i64 (n : Int)] rfl (fun _ => ⟨_, rfl, cell_one_new w3 _ _⟩) (by simp [Value.oneCell']) (by unfold maxLen; omega) (by omega) (by have := hK.size; have := hk3.size; simp; omega)
        obtain ⟨a5, c5, rfl, _⟩ := own_shape (own_base hown5)
        have hF3 : FileAt w3 p (.slice a' m' c') dv mb ⟨put f.now at' S, f.dur, pendTo f n0 (i + 1)⟩ := by
          obtain ⟨b1, b2, b3, b4, b5, b6⟩ := hF.apart
          refine ⟨hk3.heap hF.cell b1, own_kept hF.now hk3 (fun k e e' => b3 (by rw [e, e'])), own_kept hF.dur hk3 (fun k e e' => b5 (by rw [e, e'])), ?_, hF.apart⟩
          have e := pendTo_succ f n0 i
          rw [← hn] at e
          show PendAt w3 mb (pendTo f n0 (i + 1))
          rw [e]
          exact hpd3
        have hk5 : Kept (fun k => u7.ownBlock = some k) w3 w5 := (Kept.alloc _ w3 _).trans (Kept.grown hgr5 (fun k e => e)) (fun _ _ e => e)
        have hF5 := hF3.kept hk5 (fun k hin e => by have h1 := F1'.lt hin; have h2 := (hown.lt k e).1; omega)
        have hK5 : Kept (fun k => k = mb) w2 w5 := (hK.trans hk3 (fun _ _ e => e)).trans hk5 (fun k hk e => by have := (hown.lt k e).1; omega)
        have HR := Lib.hid hr
        have HO5 := Lib.hid hown5
        have HF5 := Lib.hid hF5
        have HK5 := Lib.hid hK5
        clear hF hK hown hps hM hN0 hEN hPO hi hn hfp hpd3 hg3 hk3 hown3 hr hown5 hgr5 hbl5 hF3 hk5 hF5 hK5
        go_wp2_with (at_builtin; refine Lib.wpList_append_run _ rfl _ _ _ _ rfl _ _ rfl rfl _ w5 HR.out ?_)
        go_roundw
        case rel =>
          refine ⟨i + 1, hiM, by have := HN.out; go_num, ?_, HF5.out, HK5.out⟩
          rw [looked_succ, ← HN.out, HFP.out]
          have := HO5.out
          simpa [natsV] using this
        case measure => have := HN.out; simp [intOf]; omega
    · have hlt' : ¬ ((n : Int) * 64 < (en : Int)) := by omega
      have hiM : i = M := by omega
      have HF := Lib.hid hF
      have HK := Lib.hid hK
      have HO := Lib.hid hown
      clear hM hN0 hEN hPO hi hn hF hK hown
      go_wp2_with fail
      go_ret
      have hadd : f.added at' S = looked f n0 M := by
        unfold F.added looked secs
        rw [if_neg HNE.out, HN0.out, HM.out, HN0.out]
      have hwr : f.write at' S = ⟨put f.now at' S, f.dur, pendTo f n0 M⟩ := by
        unfold F.write
        rw [if_neg HNE.out]
        congr 1
        funext m
        have h1 := HM.out
        have h2 := HN0.out
        have h3 := HP.out
        have h4 : at' / 64 ≤ (at' + S.length - 1) / 64 := Nat.div_le_div_right (by omega)
        unfold pendTo
        congr 1
        rw [Bool.eq_iff_iff]
        simp
        omega
      subst hiM
      rw [hadd, hwr]
      have hlt2 := HO.out.lt
      refine ⟨_, rfl, own_base HO.out, _, HF.out, (K1.mono (S' := InF p nv dv mb) ?_).trans HK.out ?_, hb', fun k e => ⟨?_, fun hin => ?_⟩⟩
      · intro k _ e
        rcases e with e | e
        · exact Or.inl e
        · exact Or.inr (Or.inr (Or.inl e))
      · intro k _ e
        exact Or.inr (Or.inl e)
      · have h1 := (hlt2 k e).1
        have h2 := K1.size
        omega
      · have h1 := (hlt2 k e).1
        have h2 := F1'.lt hin
        omega
end Go.Proofs.YtninopllfbiccaaDoor
