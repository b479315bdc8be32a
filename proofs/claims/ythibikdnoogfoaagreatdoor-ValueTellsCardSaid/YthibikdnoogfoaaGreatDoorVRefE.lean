/-
  The reference of layer 3: ReadRow returns what chapter 3 says; of what was there nothing has turned.
-/
import Derived.Test.YthibikdnoogfoaaGreatDoorVRefD
namespace Go.Proofs.YthibikdnoogfoaaGreatDoor
open Go Go.RowKit Go.Sort Wire Txt Vl

theorem own_slc {B : Nat} {sv : Value} {l : List V} {w : World} (h : Own B sv l w) : ∃ p cap, sv = .slice p l.length cap := by
  rcases h.2 with ⟨h1, h2⟩ | ⟨g, cap, cur, h1, _⟩
  · exact ⟨none, 0, by rw [h1, h2]⟩
  · exact ⟨_, cap, h1⟩
theorem alloc_new_at {w : World} {n : Nat} (h : w.heap.size = n) (o : Obj) : (w.alloc o).heap[n]? = some o := by rw [← h]; exact heap_alloc_new w o
theorem own_other {B b : Nat} {sv : Value} {l : List V} {w : World} (h : Own B sv l w) (hb : w.heap.size ≤ b) : some b ≠ sv.ownBlock := by
  intro he
  have := (World.ownsRow.lt h b he.symm).2
  omega
theorem many_step {q r r' : List UInt8} {k : Nat} {l : List V} {v : V} {f f' : Bool} (h : Many q k l r f) (hv : (∃ r'', rdV r = some (v, r'') ∧ r' = r'' ∧ f' = f) ∨ (rdV r = none ∧ r' = [] ∧ f' = true)) : Many q (k + 1) (l ++ [v]) r' f' := by
  rcases h with ⟨h, rfl⟩ | ⟨h, rfl, rfl⟩
  · rcases hv with ⟨r'', hv, rfl, rfl⟩ | ⟨hv, rfl, rfl⟩
    · exact many_next (Or.inl ⟨h, rfl⟩) hv
    · exact many_fail _ (Or.inl ⟨h, rfl⟩) hv
  · rcases hv with ⟨r'', hv, rfl, rfl⟩ | ⟨hv, rfl, rfl⟩
    · rw [rdV_no1 rInt_nil] at hv; cases hv
    · exact Or.inr ⟨rMany_none h (by omega), rfl, rfl⟩
theorem step_less {r r' : List UInt8} {v : V} {f f' : Bool} {k n : Nat} (hf : f = true → r = []) (hk : f = false → k + r.length + 1 ≤ n) (hr : r.length ≤ n) (hv : (∃ r'', rdV r = some (v, r'') ∧ r' = r'' ∧ f' = f) ∨ (rdV r = none ∧ r' = [] ∧ f' = true)) :
    (f' = true → r' = []) ∧ (f' = false → k + 1 + r'.length + 1 ≤ n) ∧ r'.length ≤ n := by
  rcases hv with ⟨r'', hv, rfl, rfl⟩ | ⟨hv, rfl, rfl⟩
  · have hs := rdV_shorter hv
    refine ⟨fun h => ?_, fun h => ?_, by omega⟩
    · rw [hf h, rdV_no1 rInt_nil] at hv; cases hv
    · have := hk h; omega
  · exact ⟨fun _ => rfl, (fun h => by cases h), by simp⟩
theorem readR_yes {s q : List UInt8} {n : Int} {l : List V} (h1 : rNum 59 s = some (n, q)) (h2 : rMany rdV n.toNat q = some (l, [])) : readR s = some l := by
  unfold readR
  rw [h1]
  simp only [Option.bind_some]
  rw [h2]
  rfl
theorem readR_over {s q r : List UInt8} {n : Int} {l : List V} {c : UInt8} (h1 : rNum 59 s = some (n, q)) (h2 : rMany rdV n.toNat q = some (l, c :: r)) : readR s = none := by
  unfold readR
  rw [h1]
  simp only [Option.bind_some]
  rw [h2]
  rfl

set_option maxHeartbeats 1000000 in
set_option maxRecDepth 100000 in
theorem refReadRow_no (s : List UInt8) (hs : s.length ≤ 10000000) (hn : rNum 59 s = none) (w : World) : Calls Tryz.prog 29 #[.string ⟨s.toArray⟩] w (ReadPost s w) := by
  have HR := Lib.hid (show readR s = none by unfold readR; rw [hn]; rfl)
  have HN := Lib.hid hn
  clear hn
  go_enter Tryz.func29, Tryz.ntmps29
  go_wp2_with fail
  refine (qOpen_c s _).mono ?_
  rintro e w1 ⟨rfl, hr1, hb1⟩
  go_wp2_with fail
  refine (qNumM_no _ s false HN.out (by omega) _ hr1).mono ?_
  rintro e w2 ⟨rfl, hr2, ho2⟩
  have hbb2 : Below w.heap.size w w2 := hb1.trans (ho2.below (Nat.le_refl _) hb1.size)
  go_wp2_with fail
  refine wp_loop_rounds 1 ?_
  rw [rounds_succ]
  go_wp2_with fail
  refine (qDone_c _ _ _ _ hr2).mono ?_
  rintro e w3 ⟨rfl, rfl⟩
  go_wp2_with fail
  go_ret2
  exact ⟨Or.inr ⟨rfl, HR.out⟩, hbb2⟩
set_option maxHeartbeats 2000000 in
set_option maxRecDepth 100000 in
theorem refReadRow_some (s q : List UInt8) (n : Int) (hs : s.length ≤ 10000000) (hn : rNum 59 s = some (n, q)) (w : World) : Calls Tryz.prog 29 #[.string ⟨s.toArray⟩] w (ReadPost s w) := by
  obtain ⟨i0, hi, hz0, hz1, hz2⟩ := info_parts infoVal
  obtain ⟨hn0, hn1, hn2⟩ := (rNum_iff 59 (by decide) s n q).1 hn
  clear hn2
  have hql := rNum_shorter (by decide) hn
  obtain ⟨m, rfl⟩ : ∃ m : Nat, n = m := ⟨n.toNat, by omega⟩
  have hm63 : m ≤ 9223372036854775807 := by unfold InR at hn1; omega
  have HN := Lib.hid hn
  clear hn hn0 hn1
  go_enter Tryz.func29, Tryz.ntmps29
  go_wp2_with fail
  refine (qOpen_c s _).mono ?_
  rintro e w1 ⟨rfl, hr1, hb1⟩
  go_wp2_with fail
  refine (qNumM_ok _ s false m q HN.out (by omega) _ hr1).mono ?_
  rintro e w2 ⟨rfl, hr2, ho2⟩
  have hbb2 : Below w.heap.size w w2 := hb1.trans (ho2.below (Nat.le_refl _) hb1.size)
  clear hb1 hr1 ho2
  go_wp2_with fail
  go_loopg [6, 7] m (fun g s6 s7 wr => ∃ (k : Nat) (l : List V) (r : List UInt8) (f : Bool), k ≤ m ∧ g = m - k ∧ s7 = .int .i64 k ∧ Hid (l.length = k) ∧ Hid (Many q k l r f) ∧ Hid (f = true → r = []) ∧ (f = false → k + r.length + 1 ≤ s.length) ∧ k ≤ s.length ∧ r.length ≤ s.length ∧ Qd wr w.heap.size r f ∧ Own w.heap.size s6 l wr ∧ Below w.heap.size w wr)
  case atStart => exact ⟨0, [], q, false, by omega, rfl, rfl, Lib.hid rfl, Lib.hid (Or.inl ⟨rfl, rfl⟩), Lib.hid (by simp), by omega, by omega, by omega, hr2, ⟨rfl, Or.inl ⟨rfl, rfl⟩⟩, hbb2⟩
  case round =>
    obtain ⟨k, l, r, f, hk, rfl, rfl, HL, HM, HF, hkr, hks, hrs, hr, hown, hb⟩ := hrel
    clear hr2 hbb2
    have hz := hb.size
    have hrlt := hr.lt
    by_cases hlt : k < m ∧ k < s.length
    · obtain ⟨hlt, hlt2⟩ := hlt
      have HK := Lib.hid hkr
      clear hkr
      go_wp2_with fail
      obtain ⟨w3, e3, hy3, hb3⟩ := box_new wr ⟨0, 0, []⟩
      simp only at e3
      rw [e3]
      clear e3
      have hr3 := hr.on hb3
      have hown3 := own_only hown (Only.of (b := w.heap.size) hb3) (q_ne hown hr)
      have hbb3 := chain hb hb3
      have hl3 := hown3
      have hne3 := own_other hown (Nat.le_refl _)
      clear hown hr
      refine (intQ_c w.heap.size r f (by omega) _ hr3).mono ?_
      rintro e w4 ⟨x1, r4, f4, rfl, hr4, ho4, hc4⟩
      have hl4 := int_short hc4
      have hd4 := Lib.hid (int_dead HF.out hc4)
      have hy4 := hy3.only ho4 (by omega)
      have hown4 := own_only hown3 ho4 (q_ne hown3 hr3)
      have hbb4 := hbb3.trans (ho4.below (Nat.le_refl _) hbb3.size)
      have H4 := Lib.hid hc4
      clear hc4 ho4 hr3 hy3 hbb3 hb3 hown3 hl3
      have c0 := hy4.c0
      have z0 := hy4.z 0
      go_wp2_with fail
      obtain ⟨w5, e5, hy5, ho5⟩ := hy4.put0 x1
      rw [e5]
      clear e5 c0 z0
      have hr5 := hr4.only ho5 (by omega)
      have hown5 := own_only hown4 ho5 hne3
      have hbb5 := hbb4.trans (ho5.below (by omega) hbb4.size)
      clear ho5 hr4 hy4 hbb4 hown4
      refine (intQ_c w.heap.size r4 f4 (by omega) _ hr5).mono ?_
      rintro e w6 ⟨x2, r6, f6, rfl, hr6, ho6, hc6⟩
      have hl6 := int_short hc6
      have hd6 := Lib.hid (int_dead hd4.out hc6)
      have hy6 := hy5.only ho6 (by omega)
      have hown6 := own_only hown5 ho6 (q_ne hown5 hr5)
      have hbb6 := hbb5.trans (ho6.below (Nat.le_refl _) hbb5.size)
      have H6 := Lib.hid hc6
      clear hc6 ho6 hr5 hy5 hbb5 hown5
      have c1 := hy6.c1
      have z1 := hy6.z 1
      go_wp2_with fail
      obtain ⟨w7, e7, hy7, ho7⟩ := hy6.put1 x2
      rw [e7]
      clear e7 c1 z1
      have hr7 := hr6.only ho7 (by omega)
      have hown7 := own_only hown6 ho7 hne3
      have hbb7 := hbb6.trans (ho7.below (by omega) hbb6.size)
      clear ho7 hr6 hy6 hbb6 hown6
      refine (textQ_c w.heap.size r6 f6 hd6.out (by omega) _ hr7).mono ?_
      rintro e w8 ⟨x3, r8, f8, rfl, hr8, ho8, hc8⟩
      have hy8 := hy7.only ho8 (by omega)
      have hown8 := own_only hown7 ho8 (q_ne hown7 hr7)
      have hbb8 := hbb7.trans (ho8.below (Nat.le_refl _) hbb7.size)
      have hc := take_case H4.out H6.out hc8
      clear hc8 ho8 hr7 hy7 hbb7 hown7 H4 H6 hd4 hd6
      have c2 := hy8.c2
      have z2 := hy8.z 2
      obtain ⟨hq1, hq2, hq3⟩ := step_less HF.out HK.out hrs hc
      have HM' := Lib.hid (many_step HM.out hc)
      have HF' := Lib.hid hq1
      have HK' := Lib.hid hq2
      clear hc hq1 hq2 HM HF HK
      have c0 := hy8.c0
      have c1 := hy8.c1
      have hz8 := hbb8.size
      have hsz8 : (w8.setCell ⟨wr.heap.size, 2, none⟩ (.string ⟨x3.toArray⟩)).heap.size = w8.heap.size := by simp [World.setCell]
      have ho9 : Only wr.heap.size w8 (w8.setCell ⟨wr.heap.size, 2, none⟩ (.string ⟨x3.toArray⟩)) := Only.set wr.heap.size 2 w8 _
      have hr9 := hr8.only ho9 (by omega)
      have hown9 := own_only hown8 ho9 hne3
      have hbb9 := hbb8.trans (ho9.below (by omega) hbb8.size)
      clear ho9 hr8 hy8 hbb8 hown8
      go_wp2_with (at_builtin; refine wpList_append_own _ rfl _ _ 22 rfl w.heap.size 31 i0 (.agg #[.int .i64 0, .int .i64 0, .string ⟨#[]⟩]) 3 32 Tryz.underlying22 hi hz0 hz1 hz2 rfl (by decide) _ _ _ rfl (World.ownsRow.alloc hown9 _) _ 1 1 [.int .i64 x1, .int .i64 x2, .string ⟨x3.toArray⟩] rfl rfl ?c1 ?c2 ?c3 ?c4 ?c5 ?_)
      case c1 => exact fun j u hj => World.news_of_block (cs := #[.int .i64 x1, .int .i64 x2, .string ⟨x3.toArray⟩]) (fr := (0, 0)) (alloc_new_at hsz8 _) j u hj
      case c2 => intro u hu; simp at hu; rcases hu with rfl | rfl | rfl <;> rfl
      case c3 => have := HL.out; unfold maxLen; omega
      case c4 => have := HL.out; omega
      case c5 => simp; omega
      intro v' w10 hown10 hgrow _
      have hb10 : Below w.heap.size w w10 := (hbb9.alloc hbb9.size _).grown hgrow (by simp; omega) (fun k hk => (World.ownsRow.lt hown9 k hk).1)
      have hblk : w10.heap[w.heap.size]? = (w8.setCell ⟨wr.heap.size, 2, none⟩ (.string ⟨x3.toArray⟩)).heap[w.heap.size]? := (hgrow.block _ (by have := hr9.lt; simp at this ⊢; omega) (q_ne hown9 hr9)).trans (Lib.alloc_old _ _ _ hr9.lt)
      have hown11 : Own w.heap.size v' (l ++ [⟨x1, x2, x3⟩]) w10 := by unfold Own; rw [List.length_append, cellsV_snoc]; exact hown10
      clear hown10 hgrow
      go_wp2_with fail
      go_roundg (m - (k + 1))
      case measure => omega
      case rel => exact ⟨k + 1, l ++ [⟨x1, x2, x3⟩], r8, f8, by omega, rfl, by go_num, Lib.hid (by rw [List.length_append, HL.out]; rfl), HM', HF', HK'.out, by omega, hq3, hblk.trans hr9, hown11, hb10⟩
    · have HX := Lib.hid hlt
      by_cases he : k = m
      · subst he
        obtain ⟨p, cap, rfl⟩ := own_slc hown
        have hneq : ((l.length : Int) != (k : Int)) = false := by rw [HL.out]; simp
        clear HX hlt
        go_wp2_with fail
        refine (qDone_c _ _ _ _ hr).mono ?_
        rcases HM.out with ⟨hm, rfl⟩ | ⟨hm, rfl, rfl⟩
        · cases r with
          | nil =>
            have HZ := Lib.hid (readR_yes HN.out (show rMany rdV ((k : Int)).toNat q = some (l, []) by rw [Int.toNat_natCast]; exact hm))
            have HB := Lib.hid (show l.length ≤ s.length by rw [HL.out]; exact hks)
            clear hm
            rintro e w3 ⟨rfl, rfl⟩
            go_wp2_with fail
            go_ret2
            exact ⟨Or.inl ⟨_, l, rfl, HZ.out, HB.out, hown⟩, hb⟩
          | cons c r =>
            have HZ := Lib.hid (readR_over HN.out (show rMany rdV ((k : Int)).toNat q = some (l, c :: r) by rw [Int.toNat_natCast]; exact hm))
            clear hm
            rintro e w3 ⟨rfl, rfl⟩
            go_wp2_with fail
            go_ret2
            exact ⟨Or.inr ⟨rfl, HZ.out⟩, hb⟩
        · have HZ := Lib.hid (readR_no HN.out (show rMany rdV ((k : Int)).toNat q = none by rw [Int.toNat_natCast]; exact hm))
          clear hm
          rintro e w3 ⟨rfl, rfl⟩
          go_wp2_with fail
          go_ret2
          exact ⟨Or.inr ⟨rfl, HZ.out⟩, hb⟩
      · have hlt' : k < m := by omega
        have hsl : ¬ k < s.length := fun h => hlt ⟨hlt', h⟩
        obtain ⟨hm, rfl, rfl⟩ : rMany rdV k q = none ∧ r = [] ∧ f = true := by
          rcases HM.out with ⟨_, h⟩ | h
          · have := hkr h; omega
          · exact h
        have HZ := Lib.hid (readR_no HN.out (show rMany rdV ((m : Int)).toNat q = none by rw [Int.toNat_natCast]; exact rMany_none hm (by omega)))
        clear hm HX hlt he
        go_wp2_with fail
        refine (qDone_c _ _ _ _ hr).mono ?_
        rintro e w3 ⟨rfl, rfl⟩
        go_wp2_with fail
        go_ret2
        exact ⟨Or.inr ⟨rfl, HZ.out⟩, hb⟩
theorem refReadRow_c (s : List UInt8) (hs : s.length ≤ 10000000) (w : World) : Calls Tryz.prog 29 #[.string ⟨s.toArray⟩] w (ReadPost s w) := by
  cases hn : rNum 59 s with
  | none => exact refReadRow_no s hs hn w
  | some p =>
    obtain ⟨n, q⟩ := p
    exact refReadRow_some s q n hs hn w
end Go.Proofs.YthibikdnoogfoaaGreatDoor
