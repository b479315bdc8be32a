/-
  disk's files: all that is pending made durable, in whatever order the map is gone through.
-/
import Derived.Test.YtninopllfbiccaaDoorDWrite
namespace Go.Proofs.YtninopllfbiccaaDoor
set_option maxRecDepth 100000
open Go Go.RowKit Go.Maps Dk

theorem ranges_kept {H : Type} {w w' : World} {S : Nat → Prop} {P : Program} {k : TypeId} {R : Value → Option (DataW H × List MemPlace)} {b r n : Nat} {D : DataW H} {left : Lit → Bool} {cnt : Nat} (h : w.ranges P k R b r n D left cnt) (hk : Kept S w w') (hb : ¬ S b) (hr : ¬ S r) : w'.ranges P k R b r n D left cnt := by
  obtain ⟨es, clock, since, seen, c0, h1, F, hs, hD, h2, h3⟩ := h
  exact ⟨es, clock, since, seen, c0, hk.heap h1 hb, F, hs, hD, hk.heap h2 hr, h3⟩
theorem sameInt (m n : Nat) (hn : (n : Int) ≤ 9223372036854775807) : (Lit.int .i64 (m : Int)).sameKey (.int .i64 (n : Int)) = (m == n) := by
  by_cases h : m = n
  · subst h
    rw [WideAt.sameKey_self (lawI.key (keyI (n := (m : Int)) (by omega)))]
    simp
  · rw [Maps.sameKey_ne (fun e => h (by injection e with _ e; omega))]
    simp [h]

set_option maxHeartbeats 1000000 in
set_option maxRecDepth 100000 in
theorem fsettle_c (p : Nat) (nv dv : Value) (mb : Nat) (f : F) (w : World) (h : FileAt w p nv dv mb f) (hi : f.Inv) :
    Calls Tryd.prog 62 #[.pointer (some ⟨p, 0, none⟩)] w fun e w' => e = .returned (.tuple #[]) ∧ ∃ dv' mb', FileAt w' p nv dv' mb' f.settle ∧ Kept (fun k => k = p ∨ dv.ownBlock = some k) w w' ∧ (dv'.ownBlock = dv.ownBlock ∨ ∃ k, dv'.ownBlock = some k ∧ w.heap.size ≤ k) ∧ w.heap.size ≤ mb' := by
  obtain ⟨D, hD1, hD2, hD3⟩ := h.pend
  obtain ⟨w1, hrun, hrg, hg1, hsz1⟩ := hD1.range lawI Tryd.underlying86
  have k2 := h.c2
  have hk1 : Kept (fun _ => False) w w1 := Kept.grown hg1 (fun k e => by cases e)
  have h1 := h.kept hk1 (fun _ _ e => e)
  have H := Lib.hid h
  have HI := Lib.hid hi
  have H1 := Lib.hid h1
  have HK1 := Lib.hid hk1
  have HR := Lib.hid hrg
  have HD2 := Lib.hid hD2
  have HD3 := Lib.hid hD3
  clear h hi h1 hk1 hrg hD2 hD3 hD1 hg1
  go_enter Tryd.func62, Tryd.ntmps62
  have hmm := makeMapB
  have hplt : p < w.heap.size := H.out.lt (Or.inl rfl)
  have hmlt : mb < w.heap.size := H.out.lt (Or.inr (Or.inl rfl))
  go_wp2_with fail
  go_loopw [2] (fun _ wr => ∃ (left : Lit → Bool) (cnt : Nat) (dv' : Value) (d : List UInt8), wr.ranges Tryd.prog 3 (plainElem Tryd.prog 4) mb w.heap.size 262144 D left cnt ∧ FileAt wr p nv dv' mb ⟨f.now, d, f.pend⟩ ∧
      F.Inv ⟨f.now, d, fun n => left (.int .i64 (n : Int))⟩ ∧ Kept (fun k => k = p ∨ dv.ownBlock = some k) w wr ∧ (dv'.ownBlock = dv.ownBlock ∨ ∃ k, dv'.ownBlock = some k ∧ w.heap.size < k)) (fun _ wr => wr.rangeLeft mb w.heap.size)
  case atStart =>
    refine ⟨_, _, dv, f.dur, HR.out, H1.out, ?_, HK1.out.mono (fun _ _ e => e.elim), Or.inl rfl⟩
    have e : (fun n : Nat => Maps.has D (.int .i64 (n : Int))) = f.pend := by
      funext n
      cases hp : f.pend n with
      | true => exact (HD3.out n hp).1
      | false =>
        cases hh : Maps.has D (.int .i64 (n : Int)) with
        | false => rfl
        | true =>
          obtain ⟨m, _, e, hm⟩ := HD2.out _ hh
          injection e with _ e
          have : n = m := by omega
          rw [this, hm] at hp
          cases hp
    rw [e]
    exact HI.out
  case round =>
    obtain ⟨left, cnt, dv', d, hrg, hF, hinv, hK, hb⟩ := hrel
    rcases hrg.next lawI 0 with ⟨_, hl0, hnx⟩ | ⟨key, v, kl, y, wx, cnt', hkey, hlk, hRv, hat, hnx, hrg', hlt, hgx, hszx, hen⟩
    · have hdn : d = f.now := F.inv_none hinv (fun n => hl0 _)
      have HF := Lib.hid hF
      have HK := Lib.hid hK
      have HB := Lib.hid hb
      have HDN := Lib.hid hdn
      clear hrg hF hinv hK hb hl0 hdn
      have c2 := HF.out.c2
      have z2 := HF.out.z 2
      have hpl : p < wr.heap.size := HF.out.lt (Or.inl rfl)
      have hpn : ¬ p = wr.heap.size := by omega
      have hpn' : ¬ wr.heap.size = p := by omega
      go_wp2_with fail
      go_end0
      have h := H.out
      have hF := HF.out
      obtain ⟨p1, p2, p3, p4, p5, p6⟩ := hF.apart
      have hk2 := Kept.set p 2 wr (.map (some wr.heap.size))
      have hk3 := Kept.alloc (fun k => k = p) (wr.setCell ⟨p, 2, none⟩ (.map (some wr.heap.size))) (.map #[] 0)
      have hk23 := hk2.trans hk3 (fun _ _ e => e)
      have hsz : (wr.setCell ⟨p, 2, none⟩ (.map (some wr.heap.size))).heap.size = wr.heap.size := by simp [World.setCell]
      have hpd := PendAt.made (wr.setCell ⟨p, 2, none⟩ (.map (some wr.heap.size)))
      rw [hsz] at hpd
      have hcell := (Kept.alloc (fun _ => False) _ (.map #[] 0)).heap (cells3_set hF.cell 2 (.map (some wr.heap.size)) (by omega)) (fun e => e)
      have hszw := HK.out.size
      refine ⟨rfl, dv', wr.heap.size, ⟨hcell, own_kept hF.now hk23 (fun k e e' => p2 (by rw [e, e'])), ?_, hpd, hpn, p2, fun e => ?_, p4, fun e => ?_, p6⟩, HK.out.trans hk23 (fun k _ e => Or.inl e), ?_, hszw⟩
      · have := own_kept hF.dur hk23 (fun k e e' => p4 (by rw [e, e']))
        simp only [HDN.out] at this
        exact this
      · have := own_lt hF.now e; omega
      · have := own_lt hF.dur e; omega
      · rcases HB.out with hb | ⟨k, hb, hk⟩
        · exact Or.inl hb
        · exact Or.inr ⟨k, hb, by omega⟩
    · have hhas : Maps.has D kl = true := Maps.has_true_of_atKey hat
      obtain ⟨n, hn, rfl, hpn⟩ := HD2.out kl hhas
      obtain ⟨x, rfl, e, _⟩ := Maps.keyOf_int_inv Tryd.underlying3 hkey
      injection e with _ e
      subst e
      have hkx : Kept (fun k => k = w.heap.size) wr wx := Kept.grown hgx (fun k e => by injection e with e; exact e.symm)
      have hrne : ∀ k, InF p nv dv' mb k → ¬ k = w.heap.size := fun k hin e => by
        rcases hin with h1 | h1 | h1 | h1
        · omega
        · omega
        · have := own_lt H.out.now h1; omega
        · rcases hb with hb | ⟨k', hb, hk'⟩
          · rw [hb] at h1
            have := own_lt H.out.dur h1; omega
          · rw [hb] at h1
            injection h1 with h1
            omega
      have hFx := hF.kept hkx hrne
      have q := save_c p nv dv' mb _ n wx hFx ⟨hinv.le, fun m hm => HI.out.inside m hm, hinv.small⟩ (hinv.inside n hlk)
      have hinv' := F.save_inv hinv hlk
      have hfun : (fun m : Nat => left (.int .i64 (m : Int)) && !(m == n)) = fun m : Nat => left (.int .i64 (m : Int)) && !((Lit.int .i64 (m : Int)).sameKey (.int .i64 (n : Int))) := by
        funext m
        rw [sameInt m n (by omega)]
      have hinv2 : F.Inv ⟨f.now, put d (64 * n) (sec f.now n), fun m => left (.int .i64 (m : Int)) && !((Lit.int .i64 (m : Int)).sameKey (.int .i64 (n : Int)))⟩ := by
        rw [← hfun]; exact hinv'
      have Q := Lib.hid q
      have HG := Lib.hid hrg
      have HG' := Lib.hid hrg'
      have HIV := Lib.hid hinv2
      have HK := Lib.hid hK
      have HKX := Lib.hid hkx
      have HB := Lib.hid hb
      have HLT := Lib.hid hlt
      have HRN := Lib.hid hrne
      have HSX := Lib.hid hszx
      have HAP := Lib.hid hF.apart
      have HFL := Lib.hid (fun k => hF.lt (k := k))
      clear q hrg hrg' hinv hinv' hinv2 hK hkx hb hlt hrne hF hFx hat hfun hhas hkey hRv hlk hpn hgx hszx
      go_wp2_with (go_at_call 45; refine Q.out.mono ?_; rintro e w2 ⟨rfl, dv2, hF2, hK2, hb2⟩)
      have hb0 := HB.out
      have hsx := HSX.out
      have hsw := HK.out.size
      have hne1 : ¬ (mb = p ∨ dv'.ownBlock = some mb) := fun e => by
        rcases e with e | e
        · exact HAP.out.1 e.symm
        · exact HAP.out.2.2.2.2.1 e
      have hne2 : ¬ (w.heap.size = p ∨ dv'.ownBlock = some w.heap.size) := fun e => by
        rcases e with e | e
        · omega
        · exact HRN.out _ (Or.inr (Or.inr (Or.inr e))) rfl
      have hg2 := ranges_kept HG'.out hK2 hne1 hne2
      go_roundw
      case rel =>
        refine ⟨_, _, dv2, _, hg2, hF2, HIV.out, ?_, ?_⟩
        · refine (HK.out.trans HKX.out (fun k hk e => by omega)).trans hK2 (fun k hk e => ?_)
          rcases e with e | e
          · exact Or.inl e
          · rcases hb0 with hb | ⟨k', hb, hk'⟩
            · rw [hb] at e; exact Or.inr e
            · rw [hb] at e
              injection e with e
              omega
        · rcases hb2 with h2 | ⟨k, h2, hk⟩
          · rw [h2]
            exact hb0
          · exact Or.inr ⟨k, h2, by have := HG'.out.lt; omega⟩
      case measure =>
        rw [hg2.left_eq, HG.out.left_eq]
        exact HLT.out
end Go.Proofs.YtninopllfbiccaaDoor
