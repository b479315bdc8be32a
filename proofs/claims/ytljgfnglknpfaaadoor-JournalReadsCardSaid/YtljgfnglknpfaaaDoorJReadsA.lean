/-
  JournalReads: the walk, without a journal.
-/
import Derived.Test.YtljgfnglknpfaaaDoorJReadsH
namespace Go.Proofs.YtljgfnglknpfaaaDoor
set_option maxRecDepth 100000
open Go Go.RowKit Go.Sort Dk Wire

set_option maxHeartbeats 40000000 in
theorem jreads_inA (log raw : List UInt8) (hlog : log.length ≤ 300) (hraw : raw.length ≤ 300) (bytes n : Int) (hbytes : InR bytes) (hn : InR n) (hn4 : n ≤ 400) (w : World) (ht : Tab w) (hg : Good w) (hgv : ∀ j, Jn.given 1 (val6 raw bytes n) log ≠ (some j, 0)) :
    Calls Tryd.prog 3 #[.string ⟨log.toArray⟩, .int .i64 bytes, .int .i64 n, .string ⟨raw.toArray⟩] w fun e w' => e = .returned (.bool true) ∧ RowKit.Below w.heap.size w w' := by
  have h1 : ¬ (300 : Int) < (log.length : Int) := by omega
  have h2 : ¬ (300 : Int) < (raw.length : Int) := by omega
  have h3 : ¬ (400 : Int) < n := by omega
  have T := Lib.hid ht
  have G := Lib.hid hg
  clear ht hg
  go_enter Tryd.func3, Tryd.ntmps3
  go_wp2_with fail
  refine (jsmall_c w T.out G.out).mono ?_
  rintro e w1 ⟨rfl, hb1⟩
  go_wp2_with fail
  refine (dd_new hb1).mono ?_
  rintro e w2 ⟨d, rfl, g2⟩
  clear hb1
  have g2' : Hid (DF w w2 d D.new (fun _ => False)) := Lib.hid g2.out.toDF
  clear g2
  go_upto_if 40 with fail
  go_cut [11] (fun t wx => ∃ V : List UInt8, t = .string ⟨V.toArray⟩ ∧ V = val6 raw bytes n ∧ V.length ≤ 300 ∧ Hid (DF w wx d D.new (fun _ => False)))
  case first =>
    by_cases hr : raw = []
    · subst hr
      have hl1 := eInt_len bytes hbytes
      have hl2 := eInt_len n hn
      have hcat : ¬ 9223372036854775807 < (eInt bytes).length + (eInt n).length := by omega
      have Q := Lib.hid (fun (k : Int) (hk : InR k) (wx : World) (hd : DF w wx d D.new (fun _ => False)) => (wInt_c k hk wx (G.out.on hd.base)).mono (R' := fun e w2 => e = .returned (.string ⟨(eInt k).toArray⟩) ∧ Hid (DF w w2 d D.new (fun _ => False))) (fun e w2 ⟨he, hb⟩ => ⟨he, hd.below hb (fun _ e => e.elim)⟩))
      have HB := Lib.hid hbytes
      have HN := Lib.hid hn
      clear hbytes hn
      rw [show ([] : List UInt8).isEmpty = true from rfl]
      go_wp2_with (first | (go_at_call 6; refine (Q.out bytes HB.out _ g2'.out).mono ?_; rintro e w3 ⟨rfl, g3⟩) | (go_at_call 6; refine (Q.out n HN.out _ g3.out).mono ?_; rintro e w4 ⟨rfl, g4⟩))
      go_meet
      exact ⟨eInt bytes ++ eInt n, by rw [str_add], by unfold val6; rw [if_pos rfl], by rw [List.length_append]; omega, g4⟩
    · have hre : raw.isEmpty = false := by simp [hr]
      rw [hre]
      have hv6 : raw = val6 raw bytes n := by unfold val6; rw [if_neg hr]
      have HV6 := Lib.hid hv6
      clear hr hre hv6
      go_wp2_with fail
      go_meet
      exact ⟨raw, rfl, HV6.out, hraw, g2'⟩
  case rest =>
    obtain ⟨V, rfl, hV6, hV, g3⟩ := hcut
    rw [← hV6] at hgv
    have HG := Lib.hid hgv
    clear hgv hV6
    clear g2'
    obtain ⟨d1, d2, d3, E, e1, e2, e3, ho⟩ := Jn.open_given 7 (by omega) log V (by omega) (by omega)
    have q1 := g3.out.op (fun S hS _ => write_c d S D.new 7 0 log (by omega) (by omega) (by omega) _ hS)
    rw [show D.new.write 7 0 log = (d1, 0) from e1] at q1
    go_wp2_with fail
    refine q1.mono ?_
    clear q1
    rintro e w4 ⟨rfl, g4⟩
    have q2 := g4.out.1.op (fun S hS _ => write_c d S d1 8 64 V (by omega) (by omega) (by omega) _ hS)
    rw [show d1.write 8 64 V = (d2, 0) from e2] at q2
    go_wp2_with fail
    refine q2.mono ?_
    clear q2
    rintro e w5 ⟨rfl, g5⟩
    have hcv := conv_src (some ⟨w5.heap.size, 0, none⟩) 5 (Ck.header 1 V.length) (w5.alloc (.cells #[.int .u8 1, .int .u8 ((V.length : Int) % 256), .int .u8 ((V.length : Int) / 256), .int .u8 0, .int .u8 0] 5)) (fun _ => ⟨w5.heap.size, 0, rfl, fun j u hu => hform6 V.length (by omega) w5 5 j u hu⟩)
    rw [Ck.header_length] at hcv
    have g5' := Lib.hid (g5.out.1.below (G := fun _ => False) ((Below.refl _ w5).alloc (Nat.le_refl _) (.cells #[.int .u8 1, .int .u8 ((V.length : Int) % 256), .int .u8 ((V.length : Int) / 256), .int .u8 0, .int .u8 0] 5)) (fun _ e => e.elim))
    have q3 := g5'.out.op (fun S hS _ => write_c d S d2 8 0 (Ck.header 1 V.length) (by omega) (by omega) (by rw [Ck.header_length]; omega) _ hS)
    rw [show d2.write 8 0 (Ck.header 1 V.length) = (d3, 0) from e3] at q3
    go_wp2_with fail
    refine q3.mono ?_
    clear q3
    rintro e w6 ⟨rfl, g6⟩
    have q4 := jopen_c T.out G.out g6.out.1 7 (by omega)
    rw [show Jn.openJ d3 7 = (E, Jn.given 1 V log) from ho] at q4
    have GF := Lib.hid (given_law log V (by omega) (by omega))
    go_wp2_with fail
    refine q4.mono ?_
    clear q4
    -- BEHIND OPEN
    rintro e w7 ⟨hk7, hOJ⟩
    clear hk7 g3 g4 g5 g5' g6 hcv e1 e2 e3 ho
    obtain ⟨x1, r1, f1, x2, r2, f2, hC1, hC2, hDN⟩ := two_nums V (by omega)
    have C1 := Lib.hid hC1
    have C2 := Lib.hid hC2
    clear hC1 hC2
    obtain ⟨dn, hdn⟩ : ∃ dn, (!f2 && r2.isEmpty) = dn := ⟨_, rfl⟩
    rw [hdn] at hDN
    rcases hOJ with ⟨j, bj, ej, rfl, g7⟩ | ⟨z, hz, ej, rfl, g7⟩
    · exact absurd ej (HG.out j)
    · obtain ⟨rfl, hno⟩ : z = 2 ∧ ∀ B M, Jn.nums V = some (B, M) → log.length < B ∨ (B ≤ log.length ∧ Jn.listOf M (log.take B) = none) := by
        have ej' : Jn.given 1 V log = (none, z) := ej
        rcases GF.out with ⟨h, e⟩ | ⟨b, m, h, ⟨hb, e⟩ | ⟨hb, ⟨hl, e⟩ | ⟨l, hl, e⟩⟩⟩
        · rw [ej'] at e; injection e with _ e; exact ⟨e, fun B M k => by rw [h] at k; cases k⟩
        · rw [ej'] at e; injection e with _ e; exact ⟨e, fun B M k => by rw [h] at k; injection k with k; injection k with k1 k2; subst k1; exact Or.inl hb⟩
        · rw [ej'] at e; injection e with _ e; exact ⟨e, fun B M k => by rw [h] at k; injection k with k; injection k with k1 k2; subst k1 k2; exact Or.inr ⟨hb, hl⟩⟩
        · rw [ej'] at e; injection e with e; cases e
      have hb7 := g7.base
      clear ej GF hz
      rcases hDN with ⟨rfl, B, M, rfl, rfl, hM, hN⟩ | ⟨rfl, hN⟩
      · rcases hno B M hN with hb | ⟨hb, hLO⟩
        · have hbl : ¬ (B : Int) ≤ (log.length : Int) := by omega
          clear hno hN hb
          go_wp2_with fail
          refine (rOpen_c V _).mono ?_
          rintro e w8 ⟨rfl, h8, hb8⟩
          have hg7 : Good w7 := G.out.on hb7
          have hg8 : Good w8 := hg7.on hb8
          go_wp2_with fail
          refine (C1.out _ _ hg8 h8).mono ?_
          rintro e w9 ⟨rfl, h9, ho9⟩
          have hg9 : Good w9 := hg8.only ho9 hg7.big
          go_wp2_with fail
          refine (C2.out _ _ hg9 h9).mono ?_
          rintro e w10 ⟨rfl, h10, ho10⟩
          go_wp2_with fail
          refine (rDone_c _ _ _ _ h10).mono ?_
          rintro e w11 ⟨rfl, rfl⟩
          rw [hdn]
          have hb710 : RowKit.Below w7.heap.size w7 w10 := hb8.trans ((ho9.trans ho10).below (Nat.le_refl _) hb8.size)
          have hB10 : RowKit.Below w.heap.size w w10 := hb7.trans (hb710.mono hb7.size)
          clear h8 hb8 h9 ho9 h10 ho10 hg8 hg9 hdn C1 C2
          go_wp2_with fail
          go_ret
          exact ⟨rfl, hB10⟩
        · clear hno hN
          go_wp2_with fail
          refine (rOpen_c V _).mono ?_
          rintro e w8 ⟨rfl, h8, hb8⟩
          have hg7 : Good w7 := G.out.on hb7
          have hg8 : Good w8 := hg7.on hb8
          go_wp2_with fail
          refine (C1.out _ _ hg8 h8).mono ?_
          rintro e w9 ⟨rfl, h9, ho9⟩
          have hg9 : Good w9 := hg8.only ho9 hg7.big
          go_wp2_with fail
          refine (C2.out _ _ hg9 h9).mono ?_
          rintro e w10 ⟨rfl, h10, ho10⟩
          go_wp2_with fail
          refine (rDone_c _ _ _ _ h10).mono ?_
          rintro e w11 ⟨rfl, rfl⟩
          rw [hdn]
          have hb710 : RowKit.Below w7.heap.size w7 w10 := hb8.trans ((ho9.trans ho10).below (Nat.le_refl _) hb8.size)
          have hB10 : RowKit.Below w.heap.size w w10 := hb7.trans (hb710.mono hb7.size)
          clear h8 hb8 h9 ho9 h10 ho10 hg8 hg9 hdn C1 C2
          obtain ⟨S, hS⟩ : ∃ S, log.take B = S := ⟨_, rfl⟩
          have hSl : S.length = B := by rw [← hS, List.length_take]; omega
          have hmin : min (B : Int) (log.length : Int) = (B : Int) := by omega
          have hble : (B : Int) ≤ (log.length : Int) := by omega
          have hg10 : Good w10 := G.out.on hB10
          go_wp2_with fail
          rw [ba_take, hS]
          rw [hS] at hLO
          have HLO := Lib.hid hLO
          clear hLO hS hmin hble
          refine (rOpen_c S w10).mono ?_
          rintro e w12 ⟨rfl, h12, hb12⟩
          obtain ⟨i0, hi, hz0, hz1, hz2⟩ := info_parts infoStr5
          have hbig : 5 ≤ w10.heap.size := hg10.big
          go_wp2_with fail
          go_loopw [18, 20] (fun v18 v20 wr => ∃ (l : List (List UInt8)) (r : List UInt8) (fl : Bool), v20 = .int .i64 (l.length : Int) ∧ wr.ownsRow (w10.heap.size + 1) 9 1 v18 l.length (strsV l) ∧ Rd wr w10.heap.size r fl ∧ RowKit.Below w10.heap.size w10 wr ∧ l.length + r.length ≤ B ∧ l.length ≤ M ∧
            Hid ((fl = false → rMany rText l.length S = some (l, r)) ∧ (fl = true → r = [] ∧ Jn.listOf M S = none))) (fun v18 _ _ => B + 2 - slen v18)
          case atStart => exact ⟨[], S, false, rfl, World.ownsRow_nil _ _ _ _, h12, hb12, by simp only [List.length_nil]; omega, Nat.zero_le _, fun _ => rfl, fun h => by cases h⟩
          case round =>
            obtain ⟨l, r, fl, rfl, hown, hr, hbr, hlr, hln, HM⟩ := hrel
            clear h12 hb12
            have hgr : Good wr := hg10.on hbr
            obtain ⟨la, lc, rfl, _, _, _⟩ := own_shape (own_base hown)
            have hBr : RowKit.Below w.heap.size w wr := hB10.trans (hbr.mono hB10.size)
            by_cases hre : r = []
            · subst hre
              by_cases hll : l.length = M
              · have hlt : ¬ (l.length : Int) < (M : Int) := by omega
                have hbq : ((l.length : Int) == (M : Int)) = true := by simp [hll]
                go_wp2_with fail
                refine (rDone_c _ _ _ _ hr).mono ?_
                rintro e w13 ⟨rfl, rfl⟩
                cases fl with
                | true =>
                  have HN := Lib.hid (HM.out.2 rfl).2
                  clear HM hll
                  go_wp2_with fail
                  go_ret
                  exact ⟨rfl, hBr⟩
                | false =>
                  have HN := Lib.hid (show Jn.listOf M S = some l from listOf_all (by rw [← hll]; exact HM.out.1 rfl))
                  clear HM hll
                  exact absurd (HN.out.symm.trans HLO.out) (by simp)
              · have hlt : (l.length : Int) < (M : Int) := by omega
                have hbq : ((l.length : Int) == (M : Int)) = false := by simp; omega
                have HN := Lib.hid (show Jn.listOf M S = none from by
                  cases fl with
                  | true => exact (HM.out.2 rfl).2
                  | false => exact Jn.listOf_stop (HM.out.1 rfl) (by omega))
                clear HM hll
                go_wp2_with fail
                refine (rLeft_c _ _ _ _ hr).mono ?_
                rintro e w13 ⟨rfl, rfl⟩
                go_wp2_with fail
                refine (rDone_c _ _ _ _ hr).mono ?_
                rintro e w13 ⟨rfl, rfl⟩
                cases fl with
                | true =>
                  go_wp2_with fail
                  go_ret
                  exact ⟨rfl, hBr⟩
                | false =>
                  go_wp2_with fail
                  go_ret
                  exact ⟨rfl, hBr⟩
            · obtain rfl : fl = false := by
                cases fl with
                | false => rfl
                | true => exact absurd (HM.out.2 rfl).1 hre
              have hm := HM.out.1 rfl
              have hrl : 0 < r.length := List.length_pos_iff.2 hre
              have hr0 : (0 : Int) < (r.length : Int) := by omega
              by_cases hll : l.length = M
              · have HN := Lib.hid (show Jn.listOf M S = none from listOf_more (by rw [← hll]; exact hm) hre)
                have hlt : ¬ (l.length : Int) < (M : Int) := by omega
                have hrE : r.isEmpty = false := by simp [hre]
                clear hm hll hre
                go_wp2_with fail
                refine (rDone_c _ _ _ _ hr).mono ?_
                rintro e w13 ⟨rfl, rfl⟩
                rw [hrE]
                clear hrE
                go_wp2_with fail
                go_ret
                exact ⟨rfl, hBr⟩
              · have hlt : (l.length : Int) < (M : Int) := by omega
                have hltN : l.length < M := by omega
                have H0 := Lib.hid hm
                clear hm hll hre
                have hr4 : r.length < 4294967281 := by omega
                have hsz : w10.heap.size ≤ wr.heap.size := hbr.size
                obtain ⟨x, r', fl', hx⟩ : ∃ (x : List UInt8) (r' : List UInt8) (fl' : Bool), (∀ w1, Good w1 → Rd w1 w10.heap.size r false → Calls Tryd.prog 13 #[.pointer (some ⟨w10.heap.size, 0, none⟩)] w1 fun v w' => v = .returned (.string ⟨x.toArray⟩) ∧ Rd w' w10.heap.size r' fl' ∧ Only w10.heap.size w1 w') ∧ r'.length < r.length ∧ ((fl' = false → rMany rText (l.length + 1) S = some (l ++ [x], r')) ∧ (fl' = true → r' = [] ∧ Jn.listOf M S = none)) := by
                  cases hx : rText r with
                  | some p =>
                    obtain ⟨x, r'⟩ := p
                    exact ⟨x, r', false, fun w1 g1 h1 => rTextM_ok _ _ _ x r' hx hr4 w1 g1 h1, rText_shorter hx, (fun _ => Jn.rMany_step H0.out hx), (fun h => by cases h)⟩
                  | none => exact ⟨[], [], true, fun w1 g1 h1 => rTextM_no _ _ _ hx hr4 w1 g1 h1, hrl, (fun h => by cases h), (fun _ => ⟨rfl, Jn.listOf_fail H0.out hx hltN⟩)⟩
                obtain ⟨hx1, hx2, hx3⟩ := hx
                have Q := Lib.hid hx1
                have HX := Lib.hid hx3
                clear hx1 hx3 H0
                go_wp2_with fail
                refine (rLeft_c _ _ _ _ hr).mono ?_
                rintro e w13 ⟨rfl, rfl⟩
                go_wp2_with fail
                refine (Q.out _ hgr hr).mono ?_
                rintro e w14 ⟨rfl, h2, ho2⟩
                have hown2 := owned_only hown ho2 (Nat.lt_succ_self _)
                have hb2 : RowKit.Below w10.heap.size w10 w14 := hbr.trans (ho2.below (Nat.le_refl _) hsz)
                have hsz2 : w10.heap.size + 1 ≤ w14.heap.size := h2.lt
                have hl47 : l.length ≤ 16777217 := by omega
                clear hown hr hBr
                go_wp2_with (at_builtin; refine wpList_append_own _ rfl _ _ 36 rfl (w10.heap.size + 1) 9 i0 (.string ⟨#[]⟩) 1 16 Tryd.underlying36 hi hz0 hz1 hz2 rfl (by decide) _ _ _ rfl (hown2.alloc _) ⟨w14.heap.size, 0, none⟩ 1 1 [.string ⟨x.toArray⟩] rfl rfl ?c1 ?c2 ?c3 ?c4 ?c5 ?_)
                case c1 =>
                  intro j u hj
                  match j, hj with
                  | 0, hj => simp at hj; subst hj; simp [Addr.add]
                case c2 => intro u hu; simp at hu; subst hu; rfl
                case c3 => unfold maxLen; omega
                case c4 => omega
                case c5 => simp; omega
                intro v' w3 hown3 hgrow _
                have h3 := rd_grown h2 hown2 (Nat.lt_succ_self _) hgrow
                have hb3 : RowKit.Below w10.heap.size w10 w3 := (hb2.alloc (by omega) _).grown hgrow (by simp; omega) (fun k hk => by have := (hown2.lt k hk).1; omega)
                go_wp2_with fail
                go_roundw
                case rel => exact ⟨l ++ [x], r', fl', by simp, by simpa [strsV] using hown3, h3, hb3, by simp only [List.length_append, List.length_cons, List.length_nil]; omega, by simp only [List.length_append, List.length_cons, List.length_nil]; omega, Lib.hid (by simpa using HX.out)⟩
                case measure =>
                  obtain ⟨a3, c3, e3, _⟩ := own_shape (own_base hown3)
                  rw [e3]
                  simp only [slen]
                  omega
      · clear hno hN
        go_wp2_with fail
        refine (rOpen_c V _).mono ?_
        rintro e w8 ⟨rfl, h8, hb8⟩
        have hg7 : Good w7 := G.out.on hb7
        have hg8 : Good w8 := hg7.on hb8
        go_wp2_with fail
        refine (C1.out _ _ hg8 h8).mono ?_
        rintro e w9 ⟨rfl, h9, ho9⟩
        have hg9 : Good w9 := hg8.only ho9 hg7.big
        go_wp2_with fail
        refine (C2.out _ _ hg9 h9).mono ?_
        rintro e w10 ⟨rfl, h10, ho10⟩
        go_wp2_with fail
        refine (rDone_c _ _ _ _ h10).mono ?_
        rintro e w11 ⟨rfl, rfl⟩
        rw [hdn]
        have hb710 : RowKit.Below w7.heap.size w7 w10 := hb8.trans ((ho9.trans ho10).below (Nat.le_refl _) hb8.size)
        have hB10 : RowKit.Below w.heap.size w w10 := hb7.trans (hb710.mono hb7.size)
        clear h8 hb8 h9 ho9 h10 ho10 hg8 hg9 hdn C1 C2
        go_wp2_with fail
        go_ret
        exact ⟨rfl, hB10⟩
end Go.Proofs.YtljgfnglknpfaaaDoor
