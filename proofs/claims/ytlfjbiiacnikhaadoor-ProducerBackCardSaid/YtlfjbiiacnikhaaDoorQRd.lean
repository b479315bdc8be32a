/-
  Read: a table is read.
-/
import Derived.Test.YtlfjbiiacnikhaaDoorQRA
namespace Go.Proofs.YtlfjbiiacnikhaaDoor
set_option maxRecDepth 100000
open Go Go.RowKit Go.Sort Wire Pq

/-- One more producer in a row. -/
theorem app_pp (w : World) (base : Nat) (v : Value) (l : List PP) (x : PP) (B : Nat) (hB : x.at w B) (h : PPRow w base v l) (hl : l.length ≤ 4000000) (hb : base ≤ w.heap.size) :
    ∃ a c w', (Builtin.append_ #[22, 22] 22 #[v, .slice (some ⟨B, 0, none⟩) 1 1]).run Tryd.prog w = .ok (.slice a (l.length + 1) c) w' ∧
      PPRow w' base (.slice a (l.length + 1) c) (l ++ [x]) ∧ ((Value.slice a (l.length + 1) c).ownBlock = v.ownBlock ∨ (Value.slice a (l.length + 1) c).ownBlock = some w.heap.size) ∧ Kept (fun k => v.ownBlock = some k) w w' := by
  obtain ⟨i0, hi0, hz0, hz1, hz2⟩ := info_parts infoPP
  have hx : ppsV [x] = x.cells := by simp [ppsV]
  obtain ⟨v5, w5, hr, hown5, hgr5, hbl5⟩ := run_append_any_own (P := Tryd.prog) w base 22 22 42 i0 _ 4 48 Tryd.underlying22 hi0 hz0 hz1 hz2 rfl (by decide) v l.length (ppsV l) h
    (some ⟨B, 0, none⟩) 1 1 (ppsV [x]) (ppsV_length _) (fun _ => ⟨_, rfl, fun j u hu => by
      rw [Lib.add_plain, Nat.zero_add]
      rw [hx] at hu
      exact cell_block (cs := x.cells) hB hu⟩) (ppsV_one _) (by unfold maxLen; omega) (by omega) hb
  obtain ⟨a, c, rfl, _⟩ := own_shape (own_base hown5)
  refine ⟨a, c, w5, hr, ?_, hbl5, Kept.grown hgr5 (fun k e => e)⟩
  unfold PPRow
  rw [ppsV_app, List.length_append]
  exact hown5
/-- What stands at the head of the loop. -/
structure RdIs (w wr : World) (b : Nat) (s : RS) (a : Option Addr) (c : Nat) (l : List PP) : Prop where
  ra : RA w wr b s
  row : PPRow wr w.heap.size (.slice a l.length c) l
  nb : (Value.slice a l.length c).ownBlock ≠ some b
  last : ∀ x ∈ l, x.ok (fun k => k ≠ b ∧ (Value.slice a l.length c).ownBlock ≠ some k) wr ∧ x.p.last.length ≤ 9223372036854775807
theorem RdIs.tb {w wr : World} {b : Nat} {s : RS} {a : Option Addr} {c : Nat} {l : List PP} (h : RdIs w wr b s a c l) : Tb (fun _ => True) wr a c l := ⟨Src.own h.row (fun _ _ => trivial), fun x hx => (h.last x hx).1.mono (fun _ _ => trivial)⟩
/-- One more is read and appended. -/
theorem RdIs.more {w wr w5 w7 : World} {b : Nat} {s s' : RS} {a a' : Option Addr} {c c' : Nat} {l : List PP} {x : PP} (h : RdIs w wr b s a c l) (h5 : RA w w5 b s') (ho : Only b wr w5) (hx : x.ok (fun k => wr.heap.size ≤ k) w5) (hxl : x.p.last.length ≤ 9223372036854775807)
    (hk : PPRow w7 w.heap.size (.slice a' (l.length + 1) c') (l ++ [x])) (hbl : (Value.slice a' (l.length + 1) c').ownBlock = (Value.slice a l.length c).ownBlock ∨ (Value.slice a' (l.length + 1) c').ownBlock = some (w5.alloc x.obj).heap.size)
    (h7 : Kept (fun k => (Value.slice a l.length c).ownBlock = some k) (w5.alloc x.obj) w7) : RdIs w w7 b s' a' c' (l ++ [x]) := by
  have hlen : (l ++ [x]).length = l.length + 1 := by rw [List.length_append, List.length_singleton]
  have hb6 := below_new w5 x.obj
  have hbl5 : b < wr.heap.size := h.ra.rd.lt
  have hK : ∀ k, (Value.slice a l.length c).ownBlock = some k → k < wr.heap.size := fun k e => own_lt (own_base h.row) e
  have s6 : (w5.alloc x.obj).heap.size = w5.heap.size + 1 := by simp
  have hso := ho.size
  have h6 : RA w (w5.alloc x.obj) b s' := h5.on hb6
  refine ⟨h6.far h7 (fun k e => own_above h.row e) (fun e => h.nb e), by rw [hlen]; exact hk, ?_, fun y hy => ?_⟩
  · rw [hlen]
    rcases hbl with e | e
    · rw [e]; exact h.nb
    · rw [e]
      intro f
      injection f with f
      omega
  · rw [hlen]
    have key : ∀ (z : PP), z.ok (fun k => k < w5.heap.size ∧ k ≠ b ∧ (Value.slice a l.length c).ownBlock ≠ some k) w5 → z.ok (fun k => k ≠ b ∧ (Value.slice a' (l.length + 1) c').ownBlock ≠ some k) w7 := fun z hz => by
      have z6 := hz.on hb6
      have z7 := z6.kept h7 (fun k _ g e => g.2.2 e)
      refine z7.mono (fun k g => ⟨g.2.1, fun e => ?_⟩)
      rcases hbl with f | f
      · rw [f] at e
        exact g.2.2 e
      · rw [f] at e
        injection e with e
        omega
    have lower : ∀ (z : PP) {G : Nat → Prop}, z.ok G w5 → (∀ k, G k → k ≠ b ∧ (Value.slice a l.length c).ownBlock ≠ some k) → z.ok (fun k => k < w5.heap.size ∧ k ≠ b ∧ (Value.slice a l.length c).ownBlock ≠ some k) w5 := fun z G hz hG => by
      refine ⟨hz.1, fun h0 => ?_⟩
      obtain ⟨bb, off, q1, q2, q3⟩ := hz.2 h0
      obtain ⟨y0, hy0⟩ : ∃ y0, z.p.last[0]? = some y0 := ⟨z.p.last[0], List.getElem?_eq_getElem h0⟩
      exact ⟨bb, off, q1, ⟨World.block_lt_of_cell? w5 _ (q3 _ _ (numsV_get hy0)), hG bb q2⟩, q3⟩
    rcases List.mem_append.1 hy with hy | hy
    · obtain ⟨q1, q2⟩ := h.last y hy
      exact ⟨key y (lower y (q1.kept (only_kept ho) (fun k _ g e => g.1 e)) (fun k g => g)), q2⟩
    · obtain rfl : y = x := by simpa using hy
      exact ⟨key y (lower y hx (fun k g => ⟨by omega, fun e => by have := hK k e; omega⟩)), hxl⟩
/-- What Read returns. -/
def ReadIs (w' : World) (S : List UInt8) (r : Ending) : Prop :=
  (∃ a c l, r = .returned (.tuple #[.slice a (List.length l) c, .bool true]) ∧ readT S = some (tab l) ∧ Tb (fun _ => True) w' a c l) ∨ (r = .returned (.tuple #[.slice none 0 0, .bool false]) ∧ readT S = none)
def lenV : Value → Nat
  | .slice _ n _ => n
  | _ => 0
set_option maxHeartbeats 8000000 in
theorem read_c (S : List UInt8) (hS : S.length ≤ 1000000) (w : World) (hg : Good w) (hgt : 4 ≤ w.heap.size) : Calls Tryd.prog 6 #[.string ⟨S.toArray⟩] w fun r w' => ReadIs w' S r ∧ Below w.heap.size w w' := by
  have QO := Lib.hid (rOpen_c S w)
  have HG := Lib.hid hg
  have HGT := Lib.hid hgt
  obtain ⟨B, hB⟩ : ∃ B, B = w.heap.size := ⟨_, rfl⟩
  have HB := Lib.hid hB
  rw [← hB] at QO
  obtain ⟨s0, hs0⟩ : ∃ s0, s0 = (rdN ⟨S, false⟩).2 := ⟨_, rfl⟩
  obtain ⟨cnt, hcnt⟩ : ∃ cnt, cnt = (rdN ⟨S, false⟩).1 := ⟨_, rfl⟩
  have HS0 := Lib.hid hs0
  have HCnt := Lib.hid hcnt
  have hle : s0.r.length ≤ 1000000 := by rw [hs0]; have := rdN_le ⟨S, false⟩; simp only at this; omega
  obtain ⟨M, hM⟩ : ∃ M, M = s0.r.length := ⟨_, rfl⟩
  have HM := Lib.hid hM
  rw [← hM] at hle
  clear hg hgt hB hs0 hcnt hM
  go_enter Tryd.func6, Tryd.ntmps6
  go_wp2_with (first
    | (go_at_call 15; refine QO.out.mono ?_; rintro r w1 ⟨rfl, hr1, hb1⟩; have HRA := Lib.hid (show RA w w1 B ⟨S, false⟩ from ⟨by have := hb1; rw [HB.out] at this; exact this, Nat.le_of_eq HB.out.symm, hr1, fun hf => by cases hf⟩); clear hr1 hb1)
    | (go_at_call 16; refine (ra_num HRA.out HG.out (by show S.length ≤ _; omega)).mono ?_; rintro r w2 ⟨rfl, h2, ho2⟩; have HRB := Lib.hid h2; clear h2 ho2))
  rw [← HS0.out] at HRB
  rw [← HCnt.out]
  go_loopw [6] (fun v6 wr => ∃ (a : Option Addr) (c : Nat) (l : List PP) (s : RS) (N : Nat), v6 = .slice a l.length c ∧ s.r.length ≤ N ∧ l.length + N ≤ M ∧ Hid (RdIs w wr B s a c l) ∧ Hid (rdWhile rdP M s0 = (tab l ++ (rdWhile rdP N s).1, (rdWhile rdP N s).2))) (fun v6 _ => M - lenV v6)
  case atStart => exact ⟨none, 0, [], s0, M, rfl, Nat.le_of_eq HM.out.symm, by simp, Lib.hid ⟨HRB.out, World.ownsRow_nil _ _ _ _, (fun e => by cases e), fun x hx => by cases hx⟩, Lib.hid rfl⟩
  case round =>
    obtain ⟨a, c, l, s, N, rfl, hN, hlM, HI, HW⟩ := hrel
    obtain ⟨u0, hu0⟩ : ∃ u0, u0 = wr := ⟨wr, rfl⟩
    subst hu0
    have QL := Lib.hid (rLeft_c B s.r s.f _ HI.out.ra.rd)
    by_cases hr0 : 0 < s.r.length
    · have hr0' : (0 : Int) < (s.r.length : Int) := by omega
      obtain ⟨s1, hs1⟩ : ∃ s1, s1 = (rdI s).2 := ⟨_, rfl⟩
      obtain ⟨s2, hs2⟩ : ∃ s2, s2 = (rdI s1).2 := ⟨_, rfl⟩
      obtain ⟨s3, hs3⟩ : ∃ s3, s3 = (rdI s2).2 := ⟨_, rfl⟩
      have l1 : s1.r.length ≤ s.r.length := by rw [hs1]; exact rdI_le s
      have l2 : s2.r.length ≤ s1.r.length := by rw [hs2]; exact rdI_le s1
      have l3 : s3.r.length ≤ s2.r.length := by rw [hs3]; exact rdI_le s2
      have hP : rdP s = (⟨(rdI s).1, (rdI s1).1, (rdI s2).1, (rdNums s3).1⟩, (rdNums s3).2) := by rw [hs3, hs2, hs1]; rfl
      have HP := Lib.hid hP
      have hlt := rdP_lt hr0
      rw [hP] at hlt
      have Hs1 := Lib.hid hs1
      have Hs2 := Lib.hid hs2
      have Hs3 := Lib.hid hs3
      obtain ⟨m, hm⟩ : ∃ m, N = m + 1 := ⟨N - 1, by omega⟩
      subst hm
      have hW := HW.out
      rw [rdWhile_step m hr0, hP] at hW
      have HW2 := Lib.hid hW
      have HGT2 := Lib.hid (show 4 ≤ B by rw [HB.out]; exact HGT.out)
      have HLe := Lib.hid (show s.r.length ≤ 1000000 by omega)
      clear hs1 hs2 hs3 hP hW
      have HR0 := Lib.hid HI.out.ra
      have HK0 := Lib.hid (Kept.refl (fun k => k = B) u0)
      go_upto_region 5 with (go_at_call 17; refine QL.out.mono ?_; rintro r w3 ⟨rfl, hw3⟩; rw [← hw3]; clear hw3)
      go_wp2_with (first
        | (go_at_call 19; refine (ra_nums HR3.out HG.out HGT2.out (by have := HLe.out; omega)).mono ?_; rintro r w7 ⟨la, lc, rfl, hls, hll, h7, ho7⟩; have HR4 := Lib.hid h7; have HO4 := Lib.hid ho7; have HLs := Lib.hid (And.intro hls hll); have hoa := ((HO1.out.trans HO2.out).trans HO3.out).trans ho7; have HOA := Lib.hid hoa; obtain ⟨a9, c9, w9, hr9, hk9, hbl9, h79⟩ := app_pp (w7.alloc (PP.obj ⟨⟨(rdI s).1, (rdI s1).1, (rdI s2).1, (rdNums s3).1⟩, la, lc⟩)) w.heap.size _ l ⟨⟨(rdI s).1, (rdI s1).1, (rdI s2).1, (rdNums s3).1⟩, la, lc⟩ w7.heap.size (box_new w7 _) (own_kept (own_kept HI.out.row (only_kept hoa) (fun k e f => HI.out.nb (by rw [e, f]))) (Kept.alloc (fun _ => False) _ _) (fun _ _ e => e)) (by omega) (by have := HR4.out.low.size; simp; omega); have HI9 := Lib.hid (RdIs.more HI.out HR4.out hoa (x := ⟨⟨(rdI s).1, (rdI s1).1, (rdI s2).1, (rdNums s3).1⟩, la, lc⟩) (Src.mono' hls (fun k hk => Nat.le_trans ((HO1.out.trans HO2.out).trans HO3.out).size hk)) hll hk9 hbl9 h79); unfold PP.obj at hr9; dsimp only at hr9; have HAP := Lib.hid hr9; clear h7 ho7 hls hll hoa hr9 hk9 hbl9 h79)
        | (go_at_call 18; first
          | (with_reducible refine (ra_int HR2.out HG.out (by have := HLe.out; omega)).mono ?_; rintro r w6 ⟨rfl, h6, ho6⟩; rw [← Hs3.out] at h6; have HR3 := Lib.hid h6; have HO3 := Lib.hid ho6; clear h6 ho6)
          | (with_reducible refine (ra_int HR1.out HG.out (by have := HLe.out; omega)).mono ?_; rintro r w5 ⟨rfl, h5, ho5⟩; rw [← Hs2.out] at h5; have HR2 := Lib.hid h5; have HO2 := Lib.hid ho5; clear h5 ho5)
          | (with_reducible refine (ra_int HR0.out HG.out (by have := HLe.out; omega)).mono ?_; rintro r w4 ⟨rfl, h4, ho4⟩; rw [← Hs1.out] at h4; have HR1 := Lib.hid h4; have HO1 := Lib.hid ho4; clear h4 ho4))
        | (at_builtin; refine Lib.wpList_append_run _ rfl _ _ _ _ rfl _ _ rfl rfl _ w9 HAP.out ?_))
      go_roundw
      case rel =>
        refine ⟨a9, c9, l ++ [⟨⟨(rdI s).1, (rdI s1).1, (rdI s2).1, (rdNums s3).1⟩, la, lc⟩], (rdNums s3).2, m, by rw [List.length_append]; rfl, by omega, by rw [List.length_append, List.length_singleton]; omega, HI9, Lib.hid ?_⟩
        rw [HW2.out, tab_app, List.append_assoc]
        rfl
      case measure => show M - (l.length + 1) < M - l.length; omega
    · have hr0' : ¬ (0 : Int) < (s.r.length : Int) := by omega
      have hend : rdWhile rdP M s0 = (tab l, s) := by rw [HW.out, rdWhile_end N (by omega), List.append_nil]
      rw [HM.out, HS0.out] at hend
      have HE := Lib.hid hend
      have QD := Lib.hid (rDone_c B s.r s.f _ HI.out.ra.rd)
      have hlM : l.length ≤ 1000000 := by omega
      have hlast : ∀ x ∈ l, x.p.last.length ≤ 9223372036854775807 := fun x hx => (HI.out.last x hx).2
      have QR := Lib.hid (rightT_c HI.out.tb (by omega) hlast)
      have hrn : s.r = [] := List.eq_nil_of_length_eq_zero (by omega)
      clear hend hlast
      cases hf : s.f with
      | true =>
        have HNo := Lib.hid (readT_no HE.out (fun g => by rw [hf] at g; cases g.1))
        rw [hf, hrn] at QD
        go_wp2_with (first | (go_at_call 17; refine QL.out.mono ?_; rintro r w3 ⟨rfl, hw3⟩; rw [← hw3]; clear hw3) | (go_at_call 20; refine QD.out.mono ?_; rintro r w4 ⟨rfl, hw4⟩; rw [← hw4]; clear hw4))
        go_ret2
        exact ⟨Or.inr ⟨rfl, HNo.out⟩, HI.out.ra.low⟩
      | false =>
        rw [hf, hrn] at QD
        by_cases hc : (l.length : Int) = cnt
        · have hc' : ((l.length : Int) != cnt) = false := by simpa using hc
          by_cases hR : Right (tab l)
          · have q := QR.out
            rw [decide_eq_true hR] at q
            have Q2 := Lib.hid q
            have HYes := Lib.hid (readT_yes (by rw [tab_length, ← HCnt.out]; exact hc.symm) HE.out hf hrn hR)
            have HTb := Lib.hid HI.out.tb
            clear q hc QR
            go_wp2_with (first | (go_at_call 17; refine QL.out.mono ?_; rintro r w3 ⟨rfl, hw3⟩; rw [← hw3]; clear hw3) | (go_at_call 20; refine QD.out.mono ?_; rintro r w4 ⟨rfl, hw4⟩; rw [← hw4]; clear hw4) | (go_at_call 8; refine Q2.out.mono ?_; rintro r w5 ⟨rfl, hb5⟩))
            go_ret2
            exact ⟨Or.inl ⟨a, c, l, rfl, HYes.out.1, HTb.out.on hb5⟩, HI.out.ra.low.trans (hb5.mono HI.out.ra.low.size)⟩
          · have q := QR.out
            rw [decide_eq_false hR] at q
            have Q2 := Lib.hid q
            have HNo := Lib.hid (readT_no HE.out (fun g => hR g.2.2.2))
            clear q hc QR
            go_wp2_with (first | (go_at_call 17; refine QL.out.mono ?_; rintro r w3 ⟨rfl, hw3⟩; rw [← hw3]; clear hw3) | (go_at_call 20; refine QD.out.mono ?_; rintro r w4 ⟨rfl, hw4⟩; rw [← hw4]; clear hw4) | (go_at_call 8; refine Q2.out.mono ?_; rintro r w5 ⟨rfl, hb5⟩))
            go_ret2
            exact ⟨Or.inr ⟨rfl, HNo.out⟩, HI.out.ra.low.trans (hb5.mono HI.out.ra.low.size)⟩
        · have hc' : ((l.length : Int) != cnt) = true := by simpa using hc
          have HNo := Lib.hid (readT_no HE.out (fun g => hc (by have := g.2.2.1; rw [tab_length] at this; rw [this, HCnt.out])))
          clear hc
          go_wp2_with (first | (go_at_call 17; refine QL.out.mono ?_; rintro r w3 ⟨rfl, hw3⟩; rw [← hw3]; clear hw3) | (go_at_call 20; refine QD.out.mono ?_; rintro r w4 ⟨rfl, hw4⟩; rw [← hw4]; clear hw4))
          go_ret2
          exact ⟨Or.inr ⟨rfl, HNo.out⟩, HI.out.ra.low⟩
end Go.Proofs.YtlfjbiiacnikhaaDoor
