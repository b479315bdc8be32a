/-
  NetTells: the walk.
-/
import Derived.Test.YtedpkjlhcpjblaaNBoth
import Derived.Deep.RegionHeld3
namespace Go.Proofs.Ytedpkjlhcpjblaa
set_option maxRecDepth 100000
open Go Go.RowKit Nt

set_option maxHeartbeats 4000000 in
theorem tells_in (v : Value) (l : List Op7) (at1 a1 b1 : Int) (hfew : fewM l 600 = true) (w : World) (h : OpsIn7 w v l) : Calls Try.prog 3 #[v, .int .i64 at1, .int .i64 a1, .int .i64 b1] w fun e w' => e = .returned (.bool true) ∧ Below w.heap.size w w' := by
  have HF600 := Lib.hid hfew
  have hlen := fewM_len hfew
  have HO := Lib.hid h
  obtain ⟨_, a, c, rfl, hcell⟩ := h
  obtain ⟨L, hL⟩ : ∃ L, L = l.length := ⟨_, rfl⟩
  have HC := Lib.hid (fun (W : World) (hW : Below w.heap.size w W) (k : Nat) (x : Op7) (hx : l[k]? = some x) => by
    obtain ⟨b, off, h1, h2⟩ := hcell k x hx
    exact (⟨b, off, h1, h2.on hW⟩ : ∃ b off, a = some ⟨b, off, none⟩ ∧ OpRow7 W b (off + k * 4) x))
  rw [← hL] at HO hlen ⊢
  have HL := Lib.hid hL
  have HL2 := Lib.hid hlen
  clear hcell hfew hL
  go_enter Try.func3, Try.ntmps3
  go_wp2_with fail
  refine (small_c w).mono ?_
  rintro e w1 ⟨rfl, hb1⟩
  have HB1 := Lib.hid hb1
  clear hb1
  go_wp2_with fail
  refine (nf_new HB1.out (F := fun _ => False) (fun _ e => e.elim)).mono ?_
  rintro e w2 ⟨rfl, hn2, hb2, hl2⟩
  obtain ⟨b, hb⟩ : ∃ b, b = w1.heap.size := ⟨_, rfl⟩
  rw [← hb] at hn2 ⊢
  obtain ⟨W2, hW2⟩ : ∃ W2, W2 = w2.alloc (.cells #[.slice none 0 0, .int .i64 0] 29) := ⟨_, rfl⟩
  obtain ⟨r, hr⟩ : ∃ r, r = w2.heap.size := ⟨_, rfl⟩
  have hB2 : Below w2.heap.size w2 W2 := by rw [hW2]; exact (Below.refl _ _).alloc (Nat.le_refl _) _
  have hrat : RefAt W2 r (.slice none 0 0) new := by rw [hW2, hr]; exact ⟨heap_alloc_new w2 _, pkRow_nil _ _, fun e => by cases e⟩
  have hboth : Both w W2 b r new new (fun _ => False) := by
    have hn3 : NF w W2 b new (fun k => False ∨ InA r (.slice none 0 0) k) := hn2.below hB2 (fun k e => by
      rcases e with e | e | e
      · exact e.elim
      · rw [e, hr]; exact ⟨Or.inr (Nat.le_refl _), by rw [← hr]; exact hrat.lt⟩
      · cases e)
    obtain ⟨lv, hn3⟩ := hn3
    refine ⟨lv, .slice none 0 0, hn3, hrat, hn3.ok, hn3.base, by rw [hr]; exact hn2.base.size, (fun k e => by cases e), fun e => ?_, fun k e => ?_⟩
    · rcases e with e | e | e
      · exact e
      · exact hn3.far (Or.inr (Or.inl e.symm))
      · exact (hn3.rlow r e).2 (Or.inr (Or.inl rfl))
    · rcases e with e | e | e
      · exact e.elim
      · rw [e]; exact hn3.at'.lt
      · exact hn3.at'.row.lt e
  have HBO := Lib.hid hboth
  have HB3 := Lib.hid hboth.base
  clear hn2 hb2 hl2 hb hB2 hrat hboth
  go_upto_region 4 with fail
  rw [← hW2, ← hr]
  clear hW2 hr
  go_wp2_with fail
  refine (few_c _ l 600 W2 (by rw [HL.out] at HO ⊢; exact HO.out.on HB3.out)).mono ?_
  rintro e w3 ⟨rfl, hw⟩
  rw [hw, HF600.out]
  clear hw
  have hcp0 : ∃ lv rv, NetAt W2 b lv new ∧ RefAt W2 r rv new := by
    obtain ⟨lv, rv, h⟩ := HBO.out
    exact ⟨lv, rv, h.n.at', h.r.at'⟩
  obtain ⟨lv0, rv0, hna0, hra0⟩ := hcp0
  have HRA0 := Lib.hid hra0
  have HNA0 := Lib.hid hna0
  clear hna0 hra0
  go_wp2_with fail
  refine (copy_c HNA0.out (Nat.zero_le _)).mono ?_
  rintro e w4 ⟨c0, cv0, rfl, hc0, hcl0, hcl0', hb4⟩
  have HC0 := Lib.hid (And.intro hc0 (And.intro hcl0 (And.intro hcl0' hb4)))
  clear hc0 hcl0 hcl0' hb4
  go_wp2_with fail
  refine (rcopy_c (HRA0.out.on HC0.out.2.2.2) (Nat.zero_le _)).mono ?_
  rintro e w5 ⟨d0, dv0, rfl, hd0, hdl0, hdl0', hb5⟩
  have HTL0 := Lib.hid (TL.copied HBO.out HC0.out.2.2.2 hb5 HC0.out.1 ⟨HC0.out.2.1, HC0.out.2.2.1⟩ hd0 ⟨hdl0, hdl0'⟩)
  clear hd0 hdl0 hdl0' hb5 HC0
  go_wp2_with fail
  go_loopw [12, 13, 14] (fun v12 v13 v14 wr => ∃ i c d : Nat, i ≤ L ∧ v12 = .pointer (some ⟨c, 0, none⟩) ∧ v13 = .pointer (some ⟨d, 0, none⟩) ∧ v14 = .int .i64 (i : Int) ∧ Hid (TL w wr b r c d)) (fun _ _ v14 _ => L - (intOf v14).toNat)
  case atStart => exact ⟨0, c0, d0, Nat.zero_le _, rfl, rfl, rfl, HTL0⟩
  case round =>
    obtain ⟨i, c, d, hi, rfl, rfl, rfl, HT⟩ := hrel
    by_cases hiL : i < L
    · have hiL' : (i : Int) < (L : Int) := by omega
      have hi0 : (0 : Int) ≤ (i : Int) := by omega
      go_upto_if 47 with fail
      go_cut [12, 13] (fun v12 v13 wx => ∃ c d : Nat, v12 = .pointer (some ⟨c, 0, none⟩) ∧ v13 = .pointer (some ⟨d, 0, none⟩) ∧ Hid (TL w wx b r c d))
      case first =>
        by_cases hat : (i : Int) = at1
        · have hatb : ((i : Int) == at1) = true := by simpa using hat
          obtain ⟨cv, dv, n, nc, hbo, hcp⟩ := HT.out
          have hat2 : ∃ lv rv, NetAt wr b lv n ∧ RefAt wr r rv n := by
            obtain ⟨lv, rv, h⟩ := hbo
            exact ⟨lv, rv, h.n.at', h.r.at'⟩
          have hok : Ok n := by
            obtain ⟨_, _, h⟩ := hbo
            exact h.n.ok
          obtain ⟨lv, rv, hna, hra⟩ := hat2
          have HNA := Lib.hid hna
          have HRA := Lib.hid hra
          have HOK := Lib.hid hok
          have HBB := Lib.hid hbo
          clear hat hbo hcp hna hra hok
          go_wp2_with fail
          refine (copy_c HNA.out HOK.out.len).mono ?_
          rintro e w6 ⟨c1, cv1, rfl, hc1, hcl1, hcl1', hb6⟩
          have HC1 := Lib.hid (And.intro hc1 (And.intro hcl1 (And.intro hcl1' hb6)))
          clear hc1 hcl1 hcl1' hb6
          go_wp2_with fail
          refine (rcopy_c (HRA.out.on HC1.out.2.2.2) HOK.out.len).mono ?_
          rintro e w7 ⟨d1, dv1, rfl, hd1, hdl1, hdl1', hb7⟩
          have HTL1 := Lib.hid (TL.copied HBB.out HC1.out.2.2.2 hb7 HC1.out.1 ⟨HC1.out.2.1, HC1.out.2.2.1⟩ hd1 ⟨hdl1, hdl1'⟩)
          clear hd1 hdl1 hdl1' hb7
          go_wp2_with fail
          go_meet
          exact ⟨c1, d1, rfl, rfl, HTL1⟩
        · have hatb : ((i : Int) == at1) = false := by simpa using hat
          clear hat
          go_wp2_with fail
          go_meet
          exact ⟨c, d, rfl, rfl, HT⟩
      case rest =>
        clear HT
        obtain ⟨c2, d2, rfl, rfl, HT2⟩ := hcut
        obtain ⟨cv, dv, n, nc, hbo, hcp⟩ := HT2.out
        obtain ⟨x, hx⟩ : ∃ x, l[i]? = some x := ⟨l[i]'(by have := HL.out; omega), List.getElem?_eq_getElem _⟩
        obtain ⟨ob, off, rfl, c0, c1, c2', c3, _⟩ := (HC.out _ hbo.base) i x hx
        obtain ⟨r7, hst⟩ : ∃ r7, Nt.step n x = r7 := ⟨_, rfl⟩
        obtain ⟨n', p, z⟩ := r7
        have HST := Lib.hid hst
        have HX := Lib.hid hx
        have HCP := Lib.hid hcp
        obtain ⟨F, hN, hstep⟩ := hbo.net
        have HN := Lib.hid hN
        have HSTEP := Lib.hid hstep
        clear hbo hcp hx hst hN hstep
        go_wp2_with fail
        refine (do_c HN.out x HST.out).mono ?_
        rintro e w6 ⟨rfl, hn6, hk6⟩
        obtain ⟨hb6, hg6⟩ := HSTEP.out _ _ hn6 hk6
        obtain ⟨W6, hW6⟩ : ∃ W6, W6 = w6.alloc (.cells #[.int .i64 p.a, .int .i64 p.b, .string ⟨p.s.toArray⟩] 33) := ⟨_, rfl⟩
        have hbW : Below w6.heap.size w6 W6 := by rw [hW6]; exact (Below.refl _ _).alloc (Nat.le_refl _) _
        have hp6 : PkBox W6 w6.heap.size p := by rw [hW6]; exact PkBox.new w6 p
        have hcp6 := (HCP.out.held hg6 (fun k e => e)).on hbW
        have hB6 : Both w W6 b r n' n (fun k => GC c2 cv d2 dv k ∨ k = w6.heap.size) := hb6.grow hbW (fun k e => by
          rcases e with e | e
          · exact ⟨Or.inl e, hcp6.lt e⟩
          · rw [e]; exact ⟨Or.inr (Nat.le_refl _), hp6.lt⟩)
        obtain ⟨F2, hN2, hstep2⟩ := hB6.ref
        obtain ⟨ob', off', e', d0', d1', d2', d3', _⟩ := (HC.out _ hB6.base) i x HX.out
        obtain ⟨rfl, rfl⟩ : ob' = ob ∧ off' = off := by injection e' with e'; injection e' with e1 e2; exact ⟨e1.symm, e2.symm⟩
        have HN2 := Lib.hid hN2
        have HSTEP2 := Lib.hid hstep2
        have HCP6 := Lib.hid hcp6
        have HP6 := Lib.hid hp6
        clear c0 c1 c2' c3 hn6 hk6 hb6 hg6 hbW hp6 hcp6 hB6 hN2 hstep2 HN HSTEP HCP
        go_upto_region 15 with fail
        rw [← hW6]
        clear hW6
        go_wp2_with fail
        refine (mod_c HN2.out x HST.out).mono ?_
        rintro e w7 ⟨rfl, hn7, hk7⟩
        obtain ⟨hb7, hg7⟩ := HSTEP2.out _ _ hn7 hk7
        obtain ⟨W7, hW7⟩ : ∃ W7, W7 = w7.alloc (.cells #[.int .i64 p.a, .int .i64 p.b, .string ⟨p.s.toArray⟩] 33) := ⟨_, rfl⟩
        have hbW : Below w7.heap.size w7 W7 := by rw [hW7]; exact (Below.refl _ _).alloc (Nat.le_refl _) _
        have hq7 : PkBox W7 w7.heap.size p := by rw [hW7]; exact PkBox.new w7 p
        have hp7 := (hg7.box HP6.out (Or.inr rfl)).kept (Kept.below (S := fun _ => False) hbW) (fun e => e)
        have hcp7 := (HCP6.out.held hg7 (fun k e => Or.inl e)).on hbW
        have hB7 : Both w W7 b r n' n' (GC c2 cv d2 dv) := (hb7.on hbW).grow (Below.refl _ _) (fun k e => ⟨Or.inl (Or.inl e), hcp7.lt e⟩)
        have hparts : ∃ lv rv, NetAt W7 b lv n' ∧ RefAt W7 r rv n' ∧ Ok n' := by
          obtain ⟨lv, rv, h⟩ := hB7
          exact ⟨lv, rv, h.n.at', h.r.at', h.n.ok⟩
        obtain ⟨lv, rv, hna, hra, hok⟩ := hparts
        obtain ⟨ra, rc, rfl, _⟩ := hra.row.shape
        have r0 := hra.c0
        have QC := Lib.hid (fun k => count_c (hna.on (below_drewN (Below.refl _ W7) k)))
        have QH := Lib.hid (fun k => hear_c (hna.on (below_drewN (Below.refl _ W7) k)) hok a1 b1)
        have QR := Lib.hid (fun k => rhear_c (hra.on (below_drewN (Below.refl _ W7) k)) a1 b1)
        obtain ⟨hv, hhv⟩ : ∃ hv, hear n'.m a1 b1 = hv := ⟨_, rfl⟩
        obtain ⟨NL, hNL⟩ : ∃ NL, NL = n'.l.length := ⟨_, rfl⟩
        rw [hhv] at QH QR
        rw [← hNL] at QC r0
        have E : ∀ Wx : World, (binOp .neq 33 (.agg #[.int .i64 p.a, .int .i64 p.b, .string ⟨p.s.toArray⟩]) (.agg #[.int .i64 p.a, .int .i64 p.b, .string ⟨p.s.toArray⟩])).run Try.prog Wx = .ok (.bool false) Wx := fun Wx => by
          rw [neq_pk p p Wx]; simp
        have p0 := hp7.c0
        have p1 := hp7.c1
        have p2 := hp7.c2
        have q0 := hq7.c0
        have q1 := hq7.c1
        have q2 := hq7.c2
        have HCP7 := Lib.hid hcp7
        have HB7 := Lib.hid hB7
        have HNL := Lib.hid hNL
        have hNL5 : NL ≤ 500 := by rw [hNL]; exact hok.len
        clear d0' d1' d2' d3' hn7 hk7 hb7 hg7 hbW hq7 hp7 hcp7 hB7 hna hra hok hhv hNL HN2 HSTEP2 HCP6 HP6
        go_upto_region 16 with fail
        rw [← hW7]
        clear hW7
        go_quiet (first | (go_at_call 14; exact Calls.quiet_of_same (QC.out _)) | (go_at_call 15; exact Calls.quiet_of_same (QH.out _)) | (go_at_call 16; exact Calls.quiet_of_same (QR.out _)))
        go_wp2_with fail
        go_roundw
        case rel => exact ⟨i + 1, c2, d2, hiL, rfl, rfl, by go_num, Lib.hid ⟨cv, dv, n', nc, HB7.out.on (below_drewN (Below.refl _ _) _), HCP7.out.on (below_drewN (Below.refl _ _) _)⟩⟩
        case measure => simp [intOf]; omega
    · have hiL' : ¬ (i : Int) < (L : Int) := by omega
      obtain ⟨cv, dv, n, nc, hbo, hcp⟩ := HT.out
      have hparts : ∃ lv rv, NetAt wr b lv n ∧ RefAt wr r rv n ∧ Ok n := by
        obtain ⟨lv, rv, h⟩ := hbo
        exact ⟨lv, rv, h.n.at', h.r.at', h.n.ok⟩
      obtain ⟨lv, rv, hna, hra, hok⟩ := hparts
      obtain ⟨hcn, hcr, hcok⟩ := hcp
      obtain ⟨ra, rc, rfl, _⟩ := hra.row.shape
      obtain ⟨da, dc, rfl, _⟩ := hcr.row.shape
      have hrc : ∀ W : World, Below wr.heap.size wr W → W.cell? ⟨r, 0, none⟩ = some (.slice ra n.l.length rc) := fun W hW => (hra.on hW).c0
      have hdc : ∀ W : World, Below wr.heap.size wr W → W.cell? ⟨d, 0, none⟩ = some (.slice da nc.l.length dc) := fun W hW => (hcr.on hW).c0
      have pl : ∀ (q : Nat) (qv : Value) (m : N), NetAt wr q qv m → Ok m → ∀ W : World, Hid (Below wr.heap.size wr W) → Calls Try.prog 18 #[.pointer (some ⟨q, 0, none⟩)] W fun e w' => ∃ a' c', e = .returned (.slice a' m.l.length c') ∧ (w'.cell? ⟨r, 0, none⟩ = some (.slice ra n.l.length rc) ∧ w'.cell? ⟨d, 0, none⟩ = some (.slice da nc.l.length dc)) ∧ Hid (PkRow w' wr.heap.size (.slice a' m.l.length c') m.l) ∧ Hid (Below wr.heap.size wr w') := by
        intro q qv m hq hm W hW
        refine (list_c (hq.on hW.out) hm.len).mono ?_
        rintro e w' ⟨v', rfl, h1, h2⟩
        obtain ⟨a', c', rfl, _⟩ := h1.shape
        have hbw := hW.out.trans (h2.mono hW.out.size)
        exact ⟨a', c', rfl, ⟨hrc _ hbw, hdc _ hbw⟩, h1.low hW.out.size, hbw⟩
      have sm : ∀ (xa : Option Addr) (xc : Nat) (m : List Pk), PkRow wr 0 (.slice xa m.length xc) m → ∀ (W : World) (a' : Option Addr) (c' : Nat), Hid (PkRow W wr.heap.size (.slice a' m.length c') m) → Hid (Below wr.heap.size wr W) → Calls Try.prog 17 #[.slice a' m.length c', .slice xa m.length xc] W fun e w' => e = .returned (.bool true) ∧ (w'.cell? ⟨r, 0, none⟩ = some (.slice ra n.l.length rc) ∧ w'.cell? ⟨d, 0, none⟩ = some (.slice da nc.l.length dc)) ∧ Hid (Below wr.heap.size wr w') := by
        intro xa xc m hx W a' c' hr' hW
        refine (same_c hr'.out (hx.on hW.out)).mono (fun e w' hh => ?_)
        have hbw := hW.out.trans (hh.2.mono hW.out.size)
        exact ⟨hh.1, ⟨hrc _ hbw, hdc _ hbw⟩, hbw⟩
      have PL1 := Lib.hid (pl b lv n hna hok wr.drew (Lib.hid (Below.refl _ _).drew))
      have PL2 := Lib.hid (pl c cv nc hcn hcok)
      have SM1 := Lib.hid (sm ra rc n.l hra.row)
      have SM2 := Lib.hid (sm da dc nc.l hcr.row)
      obtain ⟨hv, hhv⟩ : ∃ hv, hear nc.m a1 b1 = hv := ⟨_, rfl⟩
      have HE1 := Lib.hid (fun (W : World) (hW : Hid (Below wr.heap.size wr W)) => (hear_c (hcn.on hW.out) hcok a1 b1).mono (R' := fun e w' => e = .returned (.bool hv) ∧ w' = W) (fun e w' hh => ⟨by rw [hh.1, hhv], hh.2⟩))
      have HE2 := Lib.hid (fun (W : World) (hW : Hid (Below wr.heap.size wr W)) => (rhear_c (hcr.on hW.out) a1 b1).mono (R' := fun e w' => e = .returned (.bool hv) ∧ w' = W) (fun e w' hh => ⟨by rw [hh.1, hhv], hh.2⟩))
      obtain ⟨N1, hN1⟩ : ∃ N1, N1 = n.l.length := ⟨_, rfl⟩
      obtain ⟨N2, hN2⟩ : ∃ N2, N2 = nc.l.length := ⟨_, rfl⟩
      rw [← hN1] at hrc
      rw [← hN2] at hdc
      rw [← hN1, ← hN2] at PL1 PL2 SM1 SM2
      have f0 := hrc _ (Below.refl _ _)
      have g0 := hdc _ (Below.refl _ _)
      have HBW := Lib.hid hbo.base
      clear hbo hna hra hok hcn hcr hcok hrc hdc pl sm hhv hN1 hN2
      go_upto_region 20 with fail
      go_region_held3 (fun w' => w'.cell? ⟨r, 0, none⟩ = some (.slice ra N1 rc) ∧ w'.cell? ⟨d, 0, none⟩ = some (.slice da N2 dc))
        (first | exact hac | exact had | exact hae | exact haf | go_keep)
        ((first
          | (go_at_call_of 18 (Value.pointer (some ⟨b, 0, none⟩)); refine PL1.out.mono ?_; rintro e w5 ⟨a5, c5, rfl, hac, HR5, HB5⟩)
          | (go_at_call_of 17 (Value.slice ra N1 rc); refine (SM1.out _ _ _ HR5 HB5).mono ?_; rintro e w6 ⟨rfl, had, HB6⟩)
          | (go_at_call_of 18 (Value.pointer (some ⟨c, 0, none⟩)); refine (PL2.out _ HB6).mono ?_; rintro e w7 ⟨a7, c7, rfl, hae, HR7, HB7⟩)
          | (go_at_call_of 17 (Value.slice da N2 dc); refine (SM2.out _ _ _ HR7 HB7).mono ?_; rintro e w8 ⟨rfl, haf, HB8⟩)
          | (go_at_call 15; refine (HE1.out _ HB8).mono ?_; rintro e w9 ⟨rfl, hw⟩; rw [hw]; clear hw)
          | (go_at_call 16; refine (HE2.out _ HB8).mono ?_; rintro e w9 ⟨rfl, hw⟩; rw [hw]; clear hw)))
      go_wp2_with fail
      go_ret
      exact ⟨by simp, HBW.out.trans (HB8.out.mono HBW.out.size)⟩
set_option maxHeartbeats 1000000 in
theorem tells_out (v : Value) (l : List Op7) (at1 a1 b1 : Int) (hfew : fewM l 600 = false) (w : World) (h : OpsIn7 w v l) : Calls Try.prog 3 #[v, .int .i64 at1, .int .i64 a1, .int .i64 b1] w fun e w' => e = .returned (.bool true) ∧ Below w.heap.size w w' := by
  have HF600 := Lib.hid hfew
  have HO := Lib.hid h
  obtain ⟨_, a, c, rfl, _⟩ := h
  clear hfew
  go_enter Try.func3, Try.ntmps3
  go_wp2_with fail
  refine (small_c w).mono ?_
  rintro e w1 ⟨rfl, hb1⟩
  have HB1 := Lib.hid hb1
  clear hb1
  go_wp2_with fail
  refine (nf_new HB1.out (F := fun _ => False) (fun _ e => e.elim)).mono ?_
  rintro e w2 ⟨rfl, hn2, hb2, hl2⟩
  obtain ⟨W2, hW2⟩ : ∃ W2, W2 = w2.alloc (.cells #[.slice none 0 0, .int .i64 0] 29) := ⟨_, rfl⟩
  have HB2 := Lib.hid (show Below w.heap.size w W2 by rw [hW2]; exact hn2.base.alloc hn2.base.size _)
  clear hn2 hb2 hl2
  go_upto_region 4 with fail
  rw [← hW2]
  clear hW2
  go_wp2_with fail
  refine (few_c _ l 600 W2 (HO.out.on HB2.out)).mono ?_
  rintro e w3 ⟨rfl, hw⟩
  rw [hw, HF600.out]
  clear hw
  go_wp2_with fail
  go_ret
  exact ⟨rfl, HB2.out⟩
theorem tells_law (v : Value) (l : List Op7) (at1 a1 b1 : Int) (w : World) (h : OpsIn7 w v l) : Calls Try.prog 3 #[v, .int .i64 at1, .int .i64 a1, .int .i64 b1] w fun e w' => e = .returned (.bool true) ∧ Below w.heap.size w w' := by
  cases hf : fewM l 600 with
  | true => exact tells_in v l at1 a1 b1 hf w h
  | false => exact tells_out v l at1 a1 b1 hf w h
end Go.Proofs.Ytedpkjlhcpjblaa
