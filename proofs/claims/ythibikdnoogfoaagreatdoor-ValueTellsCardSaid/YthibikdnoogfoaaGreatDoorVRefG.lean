/-
  The reference's ParseRow returns what chapter 3 says; of what was there nothing has turned.
-/
import Derived.Test.YthibikdnoogfoaaGreatDoorVRefF
import Derived.Test.YthibikdnoogfoaaGreatDoorTSize
namespace Go.Proofs.YthibikdnoogfoaaGreatDoor
open Go Go.RowKit Go.Sort Wire Txt Vl

theorem refParseRow_a (s : List UInt8) (h : s.head? ≠ some 40) (hs : s.length ≤ 1000000) (w : World) : Calls Tryz.prog 31 #[.string ⟨s.toArray⟩] w (ParsePost s w) := by
  have HN : Hid (∀ L, ¬ RowText s L) := Lib.hid fun L hL => h (by rw [rowText_body hL]; rfl)
  have t1 : (s == [40, 41]) = false := by
    rw [beq_eq_false_iff_ne]
    rintro rfl
    exact h rfl
  cases s with
  | nil =>
    go_enter Tryz.func31, Tryz.ntmps31
    go_wp2_with fail
    go_ret2
    exact ⟨Or.inr ⟨rfl, HN.out⟩, Below.refl _ _⟩
  | cons c y =>
    have hc : c ≠ 40 := by intro e; apply h; rw [e]; rfl
    obtain ⟨s, hs0⟩ : ∃ s, s = c :: y := ⟨_, rfl⟩
    have hs1 : 0 < s.length := by rw [hs0]; simp
    have hc0 : s[0]? = some c := by rw [hs0]; rfl
    have t2 : (s == []) = false := by rw [hs0]; rfl
    rw [← hs0] at hs HN t1 ⊢
    clear hs0 h
    have ei := at_k s 0 c hc0 (by rw [ba_size]; exact hs1)
    have b40 := byte_ne (e := 40) (c := 40) rfl hc
    clear hc0 hc
    go_enter Tryz.func31, Tryz.ntmps31
    go_wp2_with fail
    go_ret2
    exact ⟨Or.inr ⟨rfl, HN.out⟩, Below.refl _ _⟩
theorem refParseRow_e (w : World) : Calls Tryz.prog 31 #[.string ⟨#[40, 41]⟩] w (ParsePost [40, 41] w) := by
  go_enter Tryz.func31, Tryz.ntmps31
  go_wp2_with fail
  go_ret2
  exact ⟨Or.inl ⟨_, [], rfl, rowText_of (by simp) [] body_nil, by simp, rfl, Or.inl ⟨rfl, rfl⟩⟩, Below.refl _ _⟩
theorem own_on {B : Nat} {sv : Value} {l : List V} {w w' : World} (h : Own B sv l w) (hb : Below w.heap.size w w') : Own B sv l w' := own_only h (Only.of (b := w.heap.size) hb) (own_other h (Nat.le_refl _))
theorem int_ne {x e : UInt8} {c : Int} (hc : (e.toNat : Int) = c) (h : x ≠ e) : ¬ (x.toNat : Int) = c := by
  intro he
  apply h
  apply UInt8.toNat_inj.1
  omega
set_option maxHeartbeats 2000000 in
set_option maxRecDepth 100000 in
theorem refParseRow_m (s : List UInt8) (h40 : s.head? = some 40) (hne : s ≠ [40, 41]) (hs : s.length ≤ 1000000) (w : World) : Calls Tryz.prog 31 #[.string ⟨s.toArray⟩] w (ParsePost s w) := by
  obtain ⟨i0, hi, hz0, hz1, hz2⟩ := info_parts infoVal
  have hs1 : 0 < s.length := by
    cases s with
    | nil => simp at h40
    | cons c y => simp
  have t1 : (s == [40, 41]) = false := by rw [beq_eq_false_iff_ne]; exact hne
  have t2 : (s == []) = false := by
    rw [beq_eq_false_iff_ne]
    rintro rfl
    simp at hs1
  have hc0 : s[0]? = some 40 := by rw [← List.head?_eq_getElem?]; exact h40
  have ei0 := at_k s 0 40 hc0 (by rw [ba_size]; exact hs1)
  have H40 := Lib.hid h40
  have HNE := Lib.hid hne
  clear hc0 h40 hne
  go_enter Tryz.func31, Tryz.ntmps31
  go_wp2_with fail
  clear ei0 t1 t2
  go_loopw [4, 5, 6] (fun s4 s5 s6 wr => ∃ (k a : Nat) (l : List V), 1 ≤ k ∧ k ≤ s.length ∧ s6 = .int .i64 k ∧ s5 = .int .i64 a ∧ 1 ≤ a ∧ a ≤ s.length ∧ l.length + 1 ≤ k ∧ Hid (RInv s l a) ∧ Hid (Miss s a k) ∧ Own w.heap.size s4 l wr ∧ Below w.heap.size w wr) (fun _ _ s6 _ => s.length - (intOf s6).toNat)
  case atStart => exact ⟨1, 1, [], by omega, by omega, rfl, rfl, by omega, by omega, by simp, Lib.hid (RInv.start s), Lib.hid (Miss.start s 1), ⟨rfl, Or.inl ⟨rfl, rfl⟩⟩, Below.refl _ _⟩
  case round =>
    obtain ⟨k, a, l, hk1, hk2, rfl, rfl, ha1, ha2, hl, HI, HM, hown, hb⟩ := hrel
    have hz := hb.size
    by_cases hlt : k < s.length
    · obtain ⟨c, hc⟩ : ∃ c, s[k]? = some c := ⟨s[k], List.getElem?_eq_getElem hlt⟩
      have ei := at_k s k c hc (by rw [ba_size]; exact hlt)
      have HC := Lib.hid hc
      clear hc
      by_cases hend : s.length ≤ k + 1
      · have HNS : Hid (¬ SepAt s k) := Lib.hid fun h => by have := (List.getElem?_eq_some_iff.1 h.2).1; omega
        have hL : s.length = k + 1 := by omega
        by_cases h41 : c = 41
        · subst h41
          have HLA : Hid (LastAt s k) := Lib.hid ⟨HC.out, by omega⟩
          by_cases hak : k < a
          · go_wp2_with fail
            go_roundw
            case rel => exact ⟨k + 1, a, l, by omega, by omega, by go_num, rfl, ha1, ha2, by omega, HI, Lib.hid (Miss.skip HM.out fun _ h => by omega), hown, hb⟩
            case measure => simp [intOf]; omega
          · have hsl := slice_mid s a k (by omega) (by omega) (by omega)
            simp only [Int.toNat_natCast] at hsl
            have hpl : ((s.take k).drop a).length ≤ 1000000 := by simp; omega
            go_wp2_with fail
            refine (refParse_c _ hpl _).mono ?_
            clear hsl
            cases hp : parseV ((s.take k).drop a) with
            | none =>
              rw [parseP_none hp]
              rintro e w3 ⟨rfl, hb3⟩
              have HM' := Lib.hid (Miss.skip HM.out fun _ _ => hp)
              clear hp
              go_wp2_with fail
              go_roundw
              case rel => exact ⟨k + 1, a, l, by omega, by omega, by go_num, rfl, ha1, ha2, by omega, HI, HM', World.ownsRow.alloc (own_on hown hb3) _, (chain hb hb3).alloc (chain hb hb3).size _⟩
              case measure => simp [intOf]; omega
            | some v =>
              rw [parseP_some hp]
              rintro e w3 ⟨rfl, hb3⟩
              have HT := Lib.hid (HI.out.atEnd H40.out HLA.out (by omega) hk1 hp)
              clear hp
              obtain ⟨w4, e4, hy4, hb4⟩ := box_new w3 v
              have hown4 := own_on (own_on hown hb3) hb4
              have hbb4 := chain (chain hb hb3) hb4
              have hz4 := hbb4.size
              have c0 := hy4.c0
              have c1 := hy4.c1
              have c2 := hy4.c2
              clear hy4 hb4 hb3
              go_wp2_with (at_builtin; refine wpList_append_own _ rfl _ _ 22 rfl w.heap.size 31 i0 (.agg #[.int .i64 0, .int .i64 0, .string ⟨#[]⟩]) 3 32 Tryz.underlying22 hi hz0 hz1 hz2 rfl (by decide) _ _ _ rfl (World.ownsRow.alloc hown4 _) ⟨w4.heap.size, 0, none⟩ 1 1 [.int .i64 v.k, .int .i64 v.n, .string ⟨v.s.toArray⟩] rfl rfl ?c1 ?c2 ?c3 ?c4 ?c5 ?_)
              case c1 => exact fun j u hj => World.news_of_block (cs := #[.int .i64 v.k, .int .i64 v.n, .string ⟨v.s.toArray⟩]) (fr := (0, 0)) (heap_alloc_new w4 _) j u hj
              case c2 => intro u hu; simp at hu; rcases hu with rfl | rfl | rfl <;> rfl
              case c3 => unfold maxLen; omega
              case c4 => omega
              case c5 => simp; omega
              intro v' w10 hown10 hgrow _
              have hb10 : Below w.heap.size w w10 := (hbb4.alloc hbb4.size _).grown hgrow (by simp; omega) (fun k hk => (World.ownsRow.lt hown4 k hk).1)
              have hown11 : Own w.heap.size v' (l ++ [v]) w10 := by unfold Own; rw [List.length_append, cellsV_snoc]; exact hown10
              clear hown10 hgrow hown4 hbb4
              go_wp2_with fail
              go_ret2
              exact ⟨Or.inl ⟨_, l ++ [v], rfl, HT.out, by rw [List.length_append, List.length_singleton]; omega, hown11⟩, hb10⟩
        · have n41 : ¬ (c.toNat : Int) = 41 := int_ne rfl h41
          have HM' : Hid (Miss s a (k + 1)) := Lib.hid (Miss.skip HM.out fun h _ => by
            rcases h with h | h
            · exact absurd h HNS.out
            · have := HC.out.symm.trans h.1; injection this with this; exact absurd this h41)
          by_cases h44 : c = 44
          · subst h44
            go_wp2_with fail
            go_roundw
            case rel => exact ⟨k + 1, a, l, by omega, by omega, by go_num, rfl, ha1, ha2, by omega, HI, HM', hown, hb⟩
            case measure => simp [intOf]; omega
          · have n44 : ¬ (c.toNat : Int) = 44 := int_ne rfl h44
            go_wp2_with fail
            go_roundw
            case rel => exact ⟨k + 1, a, l, by omega, by omega, by go_num, rfl, ha1, ha2, by omega, HI, HM', hown, hb⟩
            case measure => simp [intOf]; omega
      · have HNL : Hid (¬ LastAt s k) := Lib.hid fun h => by have := h.2; omega
        have hN : ¬ (k : Int) = (s.length : Int) - 1 := by omega
        have hmin : min ((k : Int) + 1) ((s.length : Int) - 1) = (k : Int) + 1 := by omega
        by_cases h44 : c = 44
        · subst h44
          obtain ⟨d, hd⟩ : ∃ d, s[k + 1]? = some d := ⟨s[k + 1], List.getElem?_eq_getElem (by omega)⟩
          have e1 := at_k s (k + 1) d hd (by rw [ba_size]; omega)
          have HD := Lib.hid hd
          clear hd
          by_cases h32 : d = 32
          · subst h32
            have HSA : Hid (SepAt s k) := Lib.hid ⟨HC.out, HD.out⟩
            by_cases hak : k < a
            · go_wp2_with fail
              go_roundw
              case rel => exact ⟨k + 1, a, l, by omega, by omega, by go_num, rfl, ha1, ha2, by omega, HI, Lib.hid (Miss.skip HM.out fun _ h => by omega), hown, hb⟩
              case measure => simp [intOf]; omega
            · have hsl := slice_mid s a k (by omega) (by omega) (by omega)
              simp only [Int.toNat_natCast] at hsl
              have hpl : ((s.take k).drop a).length ≤ 1000000 := by simp; omega
              go_wp2_with fail
              refine (refParse_c _ hpl _).mono ?_
              clear hsl
              cases hp : parseV ((s.take k).drop a) with
              | none =>
                rw [parseP_none hp]
                rintro e w3 ⟨rfl, hb3⟩
                have HM' := Lib.hid (Miss.skip HM.out fun _ _ => hp)
                clear hp
                go_wp2_with fail
                go_roundw
                case rel => exact ⟨k + 1, a, l, by omega, by omega, by go_num, rfl, ha1, ha2, by omega, HI, HM', World.ownsRow.alloc (own_on hown hb3) _, (chain hb hb3).alloc (chain hb hb3).size _⟩
                case measure => simp [intOf]; omega
              | some v =>
                rw [parseP_some hp]
                rintro e w3 ⟨rfl, hb3⟩
                have HT := Lib.hid (HI.out.atSep HSA.out (by omega) hp)
                clear hp
                obtain ⟨w4, e4, hy4, hb4⟩ := box_new w3 v
                have hown4 := own_on (own_on hown hb3) hb4
                have hbb4 := chain (chain hb hb3) hb4
                have hz4 := hbb4.size
                have c0 := hy4.c0
                have c1 := hy4.c1
                have c2 := hy4.c2
                clear hy4 hb4 hb3
                go_wp2_with (at_builtin; refine wpList_append_own _ rfl _ _ 22 rfl w.heap.size 31 i0 (.agg #[.int .i64 0, .int .i64 0, .string ⟨#[]⟩]) 3 32 Tryz.underlying22 hi hz0 hz1 hz2 rfl (by decide) _ _ _ rfl (World.ownsRow.alloc hown4 _) ⟨w4.heap.size, 0, none⟩ 1 1 [.int .i64 v.k, .int .i64 v.n, .string ⟨v.s.toArray⟩] rfl rfl ?c1 ?c2 ?c3 ?c4 ?c5 ?_)
                case c1 => exact fun j u hj => World.news_of_block (cs := #[.int .i64 v.k, .int .i64 v.n, .string ⟨v.s.toArray⟩]) (fr := (0, 0)) (heap_alloc_new w4 _) j u hj
                case c2 => intro u hu; simp at hu; rcases hu with rfl | rfl | rfl <;> rfl
                case c3 => unfold maxLen; omega
                case c4 => omega
                case c5 => simp; omega
                intro v' w10 hown10 hgrow _
                have hb10 : Below w.heap.size w w10 := (hbb4.alloc hbb4.size _).grown hgrow (by simp; omega) (fun k hk => (World.ownsRow.lt hown4 k hk).1)
                have hown11 : Own w.heap.size v' (l ++ [v]) w10 := by unfold Own; rw [List.length_append, cellsV_snoc]; exact hown10
                clear hown10 hgrow hown4 hbb4
                go_wp2_with fail
                go_roundw
                case rel => exact ⟨k + 1, k + 2, l ++ [v], by omega, by omega, by go_num, by go_num, by omega, by omega, by rw [List.length_append, List.length_singleton]; omega, HT, Lib.hid (Miss.less (by omega)), hown11, hb10⟩
                case measure => simp [intOf]; omega
          · have n32 : ¬ (d.toNat : Int) = 32 := int_ne rfl h32
            have HM' : Hid (Miss s a (k + 1)) := Lib.hid (Miss.skip HM.out fun h _ => by
              rcases h with h | h
              · have := HD.out.symm.trans h.2; injection this with this; exact absurd this h32
              · exact absurd h HNL.out)
            go_wp2_with fail
            go_roundw
            case rel => exact ⟨k + 1, a, l, by omega, by omega, by go_num, rfl, ha1, ha2, by omega, HI, HM', hown, hb⟩
            case measure => simp [intOf]; omega
        · have n44 : ¬ (c.toNat : Int) = 44 := int_ne rfl h44
          have HM' : Hid (Miss s a (k + 1)) := Lib.hid (Miss.skip HM.out fun h _ => by
            rcases h with h | h
            · have := HC.out.symm.trans h.1; injection this with this; exact absurd this h44
            · exact absurd h HNL.out)
          go_wp2_with fail
          go_roundw
          case rel => exact ⟨k + 1, a, l, by omega, by omega, by go_num, rfl, ha1, ha2, by omega, HI, HM', hown, hb⟩
          case measure => simp [intOf]; omega
    · have hkk : k = s.length := by omega
      have HZ := Lib.hid (HI.out.over (by rw [← hkk]; exact HM.out) HNE.out)
      clear hkk
      go_wp2_with fail
      go_ret2
      exact ⟨Or.inr ⟨rfl, HZ.out⟩, hb⟩
theorem refParseRow_c (s : List UInt8) (hs : s.length ≤ 1000000) (w : World) : Calls Tryz.prog 31 #[.string ⟨s.toArray⟩] w (ParsePost s w) := by
  by_cases h : s.head? = some 40
  · by_cases hne : s = [40, 41]
    · subst hne; exact refParseRow_e w
    · exact refParseRow_m s h hne hs w
  · exact refParseRow_a s h hs w
end Go.Proofs.YthibikdnoogfoaaGreatDoor
