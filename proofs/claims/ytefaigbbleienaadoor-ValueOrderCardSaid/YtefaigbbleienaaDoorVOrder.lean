/-
  ValueOrder returns true, for every four rows; of what was there nothing has turned.
-/
import Derived.Test.YtefaigbbleienaaDoorVArg
import Derived.Deep.LoopGhost
import Derived.Deep.DeepCutAuto
import Derived.Laws.AppendOwnNone
namespace Go.Proofs.YtefaigbbleienaaDoor
open Go Go.RowKit Go.Sort Wire Txt Vl

/-- Where the lists differ at a place, and have begun alike as long as not. -/
def Diff (a b : List V) (k : Nat) (d : Bool) : Prop := (d = false → a.take k = b.take k) ∧ (d = true → ∃ (i : Nat) (x y : V), a[i]? = some x ∧ b[i]? = some y ∧ cmpV x y ≠ 0)
theorem Diff.same {a b : List V} {k : Nat} {u v : V} (h : Diff a b k false) (hu : a[k]? = some u) (hv : b[k]? = some v) (hz : cmpV u v = 0) : Diff a b (k + 1) false := ⟨fun _ => take_next (h.1 rfl) hu hv hz, (fun h => by cases h)⟩
theorem Diff.other {a b : List V} {k : Nat} {d : Bool} {u v : V} (hu : a[k]? = some u) (hv : b[k]? = some v) (hz : ¬ cmpV u v = 0) : Diff a b (k + 1) true := ⟨(fun h => by cases h), fun _ => ⟨k, u, v, hu, hv, hz⟩⟩
theorem Diff.stay {a b : List V} {k : Nat} (h : Diff a b k true) : Diff a b (k + 1) true := ⟨(fun h => by cases h), h.2⟩

section
variable (a b c t : List V) (xa xb xc xt : Value) (w : World)
set_option maxRecDepth 100000 in
theorem order_out1 (hg : Good w) (ha : OArg w xa a) (hb : OArg w xb b) (hc : OArg w xc c) (ht : OArg w xt t) (h : shortR a 15 = false) :
    Calls Tryd.prog 3 #[xa, xb, xc, xt] w fun e w' => e = .returned (.bool true) ∧ Below w.heap.size w w' := by
  have HA := ha
  obtain ⟨a1, c1, rfl⟩ := ha.slc
  obtain ⟨a2, c2, rfl⟩ := hb.slc
  obtain ⟨a3, c3, rfl⟩ := hc.slc
  obtain ⟨a4, c4, rfl⟩ := ht.slc
  clear ha hb hc ht
  go_enter Tryd.func3, Tryd.ntmps3
  go_wp2_with fail
  refine (vsmall_c _ hg).mono ?_
  rintro e w1 ⟨rfl, hb1⟩
  go_wp2_with fail
  refine (short_c a _ 15 _ (fits_len HA) (HA.on hb1 (Nat.le_refl _)).1.row).mono ?_
  rw [h]
  rintro e w2 ⟨rfl, hb2⟩
  go_wp2_with fail
  go_ret
  exact ⟨rfl, chain hb1 hb2⟩
set_option maxRecDepth 100000 in
theorem order_out2 (hg : Good w) (ha : OArg w xa a) (hb : OArg w xb b) (hc : OArg w xc c) (ht : OArg w xt t) (h1 : shortR a 15 = true) (h : shortR b 15 = false) :
    Calls Tryd.prog 3 #[xa, xb, xc, xt] w fun e w' => e = .returned (.bool true) ∧ Below w.heap.size w w' := by
  have HA := ha
  have HB := hb
  obtain ⟨a1, c1, rfl⟩ := ha.slc
  obtain ⟨a2, c2, rfl⟩ := hb.slc
  obtain ⟨a3, c3, rfl⟩ := hc.slc
  obtain ⟨a4, c4, rfl⟩ := ht.slc
  clear ha hb hc ht
  go_enter Tryd.func3, Tryd.ntmps3
  go_wp2_with fail
  refine (vsmall_c _ hg).mono ?_
  rintro e w1 ⟨rfl, hb1⟩
  go_wp2_with fail
  refine (short_c a _ 15 _ (fits_len HA) (HA.on hb1 (Nat.le_refl _)).1.row).mono ?_
  rw [h1]
  rintro e w2 ⟨rfl, hb2⟩
  go_wp2_with fail
  refine (short_c b _ 15 _ (fits_len HB) ((HB.on hb1 (Nat.le_refl _)).on hb2 (Nat.le_refl _)).1.row).mono ?_
  rw [h]
  rintro e w3 ⟨rfl, hb3⟩
  go_wp2_with fail
  go_ret
  exact ⟨rfl, chain hb1 (chain hb2 hb3)⟩
set_option maxRecDepth 100000 in
theorem order_out3 (hg : Good w) (ha : OArg w xa a) (hb : OArg w xb b) (hc : OArg w xc c) (ht : OArg w xt t) (h1 : shortR a 15 = true) (h2 : shortR b 15 = true) (h : shortR c 15 = false) :
    Calls Tryd.prog 3 #[xa, xb, xc, xt] w fun e w' => e = .returned (.bool true) ∧ Below w.heap.size w w' := by
  have HA := ha
  have HB := hb
  have HC := hc
  obtain ⟨a1, c1, rfl⟩ := ha.slc
  obtain ⟨a2, c2, rfl⟩ := hb.slc
  obtain ⟨a3, c3, rfl⟩ := hc.slc
  obtain ⟨a4, c4, rfl⟩ := ht.slc
  clear ha hb hc ht
  go_enter Tryd.func3, Tryd.ntmps3
  go_wp2_with fail
  refine (vsmall_c _ hg).mono ?_
  rintro e w1 ⟨rfl, hb1⟩
  go_wp2_with fail
  refine (short_c a _ 15 _ (fits_len HA) (HA.on hb1 (Nat.le_refl _)).1.row).mono ?_
  rw [h1]
  rintro e w2 ⟨rfl, hb2⟩
  go_wp2_with fail
  refine (short_c b _ 15 _ (fits_len HB) ((HB.on hb1 (Nat.le_refl _)).on hb2 (Nat.le_refl _)).1.row).mono ?_
  rw [h2]
  rintro e w3 ⟨rfl, hb3⟩
  go_wp2_with fail
  refine (short_c c _ 15 _ (fits_len HC) (((HC.on hb1 (Nat.le_refl _)).on hb2 (Nat.le_refl _)).on hb3 (Nat.le_refl _)).1.row).mono ?_
  rw [h]
  rintro e w4 ⟨rfl, hb4⟩
  go_wp2_with fail
  go_ret
  exact ⟨rfl, chain hb1 (chain hb2 (chain hb3 hb4))⟩
set_option maxRecDepth 100000 in
theorem order_out4 (hg : Good w) (ha : OArg w xa a) (hb : OArg w xb b) (hc : OArg w xc c) (ht : OArg w xt t) (h1 : shortR a 15 = true) (h2 : shortR b 15 = true) (h3 : shortR c 15 = true) (h : shortR t 5 = false) :
    Calls Tryd.prog 3 #[xa, xb, xc, xt] w fun e w' => e = .returned (.bool true) ∧ Below w.heap.size w w' := by
  have HA := ha
  have HB := hb
  have HC := hc
  have HT := ht
  obtain ⟨a1, c1, rfl⟩ := ha.slc
  obtain ⟨a2, c2, rfl⟩ := hb.slc
  obtain ⟨a3, c3, rfl⟩ := hc.slc
  obtain ⟨a4, c4, rfl⟩ := ht.slc
  clear ha hb hc ht
  go_enter Tryd.func3, Tryd.ntmps3
  go_wp2_with fail
  refine (vsmall_c _ hg).mono ?_
  rintro e w1 ⟨rfl, hb1⟩
  go_wp2_with fail
  refine (short_c a _ 15 _ (fits_len HA) (HA.on hb1 (Nat.le_refl _)).1.row).mono ?_
  rw [h1]
  rintro e w2 ⟨rfl, hb2⟩
  go_wp2_with fail
  refine (short_c b _ 15 _ (fits_len HB) ((HB.on hb1 (Nat.le_refl _)).on hb2 (Nat.le_refl _)).1.row).mono ?_
  rw [h2]
  rintro e w3 ⟨rfl, hb3⟩
  go_wp2_with fail
  refine (short_c c _ 15 _ (fits_len HC) (((HC.on hb1 (Nat.le_refl _)).on hb2 (Nat.le_refl _)).on hb3 (Nat.le_refl _)).1.row).mono ?_
  rw [h3]
  rintro e w4 ⟨rfl, hb4⟩
  go_wp2_with fail
  refine (short_c t _ 5 _ (fits_len HT) ((((HT.on hb1 (Nat.le_refl _)).on hb2 (Nat.le_refl _)).on hb3 (Nat.le_refl _)).on hb4 (Nat.le_refl _)).1.row).mono ?_
  rw [h]
  rintro e w5 ⟨rfl, hb5⟩
  go_wp2_with fail
  go_ret
  exact ⟨rfl, chain hb1 (chain hb2 (chain hb3 (chain hb4 hb5)))⟩
set_option maxHeartbeats 2000000 in
set_option maxRecDepth 100000 in
theorem order_main (hg : Good w) (ha : OArg w xa a) (hb : OArg w xb b) (hc : OArg w xc c) (ht : OArg w xt t) (h1 : shortR a 15 = true) (h2 : shortR b 15 = true) (h3 : shortR c 15 = true) (h4 : shortR t 5 = true) :
    Calls Tryd.prog 3 #[xa, xb, xc, xt] w fun e w' => e = .returned (.bool true) ∧ Below w.heap.size w w' := by
  obtain ⟨la, ma⟩ := short_parts' h1
  obtain ⟨lb, mb⟩ := short_parts' h2
  obtain ⟨lt, mt⟩ := short_parts' h4
  have la' : a.length ≤ 15 := by omega
  have lb' : b.length ≤ 15 := by omega
  have fa := ha.2
  have fb := hb.2
  have hra : rbytes a = rbytes b ↔ a = b := rbytes_inj (show InR (a.length : Int) by unfold InR; omega) (show InR (b.length : Int) by unfold InR; omega) fa fb
  obtain ⟨p, hp⟩ : ∃ p, cmpR a b = p := ⟨_, rfl⟩
  obtain ⟨q, hq⟩ : ∃ q, cmpR b c = q := ⟨_, rfl⟩
  obtain ⟨r, hr⟩ : ∃ r, cmpR a c = r := ⟨_, rfl⟩
  have hba : cmpR b a = -p := by rw [← hp]; exact tot_r.anti a b
  have haa : cmpR a a = 0 := tot_r.self a
  have p0 : p = -1 ∨ p = 0 ∨ p = 1 := by rw [← hp]; exact tot_r.lo a b
  have le3 : p ≤ 0 → q ≤ 0 → r ≤ 0 := by rw [← hp, ← hq, ← hr]; exact fun x y => tot_r.le_trans x y
  have lt3 : p ≤ 0 → q ≤ 0 → p < 0 ∨ q < 0 → r < 0 := by rw [← hp, ← hq, ← hr]; exact fun x y z => tot_r.lt_trans x y z
  have peq : p = 0 ↔ a = b := by rw [← hp]; exact tot_r.eq a b
  obtain ⟨Sa, hSa⟩ : ∃ S, rbytes a = S := ⟨_, rfl⟩
  obtain ⟨Sb, hSb⟩ : ∃ S, rbytes b = S := ⟨_, rfl⟩
  have e1 : (Sa == Sb) = (p == 0) := by
    rw [← hSa, ← hSb, Bool.eq_iff_iff, beq_iff_eq, beq_iff_eq, hra, peq]
  have e2 : decide (a = b) = (p == 0) := by
    rw [Bool.eq_iff_iff, decide_eq_true_eq, beq_iff_eq, peq]
  have HA := Lib.hid ha
  have HB := Lib.hid hb
  have HC := Lib.hid hc
  have HT := Lib.hid ht
  have HP := Lib.hid hp
  have HQ := Lib.hid hq
  have HR := Lib.hid hr
  have HSa := Lib.hid hSa
  have HSb := Lib.hid hSb
  have H1 := Lib.hid h1
  have H2 := Lib.hid h2
  have H3 := Lib.hid h3
  have H4 := Lib.hid h4
  have MA := Lib.hid ma
  have MB := Lib.hid mb
  have HFA := Lib.hid (show ∀ v ∈ a, Fits v ∧ v.s.length ≤ 1000000 from fun v hv => ⟨fa v hv, by have := ma v hv; omega⟩)
  have HFB := Lib.hid (show ∀ v ∈ b, Fits v ∧ v.s.length ≤ 1000000 from fun v hv => ⟨fb v hv, by have := mb v hv; omega⟩)
  have E2 := Lib.hid e2
  have LE := Lib.hid le3
  have LT := Lib.hid lt3
  have P0 := Lib.hid p0
  obtain ⟨a1, c1, rfl⟩ := ha.slc
  obtain ⟨a2, c2, rfl⟩ := hb.slc
  obtain ⟨a3, c3, rfl⟩ := hc.slc
  obtain ⟨a4, c4, rfl⟩ := ht.slc
  clear ha hb hc ht hp hq hr hSa hSb h1 h2 h3 h4 ma mb mt fa fb hra e2 le3 lt3 p0 peq
  go_enter Tryd.func3, Tryd.ntmps3
  go_wp2_with fail
  refine (vsmall_c _ hg).mono ?_
  rintro e w1 ⟨rfl, hb1⟩
  go_wp2_with fail
  refine (short_c a _ 15 _ (fits_len HA.out) (HA.out.on hb1 (Nat.le_refl _)).1.row).mono ?_
  rw [H1.out]
  rintro e w2 ⟨rfl, hb2⟩
  have hbb2 := chain hb1 hb2
  go_wp2_with fail
  refine (short_c b _ 15 _ (fits_len HB.out) (HB.out.on hbb2 (Nat.le_refl _)).1.row).mono ?_
  rw [H2.out]
  rintro e w3 ⟨rfl, hb3⟩
  have hbb3 := chain hbb2 hb3
  go_wp2_with fail
  refine (short_c c _ 15 _ (fits_len HC.out) (HC.out.on hbb3 (Nat.le_refl _)).1.row).mono ?_
  rw [H3.out]
  rintro e w4 ⟨rfl, hb4⟩
  have hbb4 := chain hbb3 hb4
  go_wp2_with fail
  refine (short_c t _ 5 _ (fits_len HT.out) (HT.out.on hbb4 (Nat.le_refl _)).1.row).mono ?_
  rw [H4.out]
  rintro e w5 ⟨rfl, hb5⟩
  have hbb5 := chain hbb4 hb5
  clear hb1 hb2 hb3 hb4 hb5 hbb2 hbb3 hbb4
  go_wp2_with fail
  refine (compareRows_c a b _ _ _ (HA.out.on hbb5 (Nat.le_refl _)).1.row (HB.out.on hbb5 (Nat.le_refl _)).1.row).mono ?_
  rw [HP.out]
  rintro e w6 ⟨rfl, hb6⟩
  have hbb6 := chain hbb5 hb6
  go_wp2_with fail
  refine (compareRows_c b c _ _ _ (HB.out.on hbb6 (Nat.le_refl _)).1.row (HC.out.on hbb6 (Nat.le_refl _)).1.row).mono ?_
  rw [HQ.out]
  rintro e w7 ⟨rfl, hb7⟩
  have hbb7 := chain hbb6 hb7
  go_wp2_with fail
  refine (compareRows_c a c _ _ _ (HA.out.on hbb7 (Nat.le_refl _)).1.row (HC.out.on hbb7 (Nat.le_refl _)).1.row).mono ?_
  rw [HR.out]
  rintro e w8 ⟨rfl, hb8⟩
  have hbb8 := chain hbb7 hb8
  clear hb6 hb7 hb8 hbb5 hbb6 hbb7
  go_upto_region 7 with (fail)
  go_cut [91] (fun t91 wx => t91 = .bool false ∧ Below w.heap.size w wx)
  case first =>
    as_aux_lemma =>
      have hneg : (-p != -p) = false := by simp
      have d1 : ¬ p < -1 := by have := P0.out; omega
      have d2 : ¬ 1 < p := by have := P0.out; omega
      by_cases hp0 : p ≤ 0
      · by_cases hq0 : q ≤ 0
        · have hr0 := LE.out hp0 hq0
          have hr1 : ¬ 0 < r := by omega
          by_cases hp1 : p < 0
          · have hr2 : (r == 0) = false := by have := LT.out hp0 hq0 (Or.inl hp1); simp; omega
            go_wp2_with fail
            refine (compareRows_c b a _ _ _ (HB.out.on hbb8 (Nat.le_refl _)).1.row (HA.out.on hbb8 (Nat.le_refl _)).1.row).mono ?_
            rw [hba]
            rintro e w9 ⟨rfl, hb9⟩
            go_wp2_with fail
            go_meet
            exact ⟨by simp; try omega, chain hbb8 hb9⟩
          · by_cases hq1 : q < 0
            · have hr2 : (r == 0) = false := by have := LT.out hp0 hq0 (Or.inr hq1); simp; omega
              go_wp2_with fail
              refine (compareRows_c b a _ _ _ (HB.out.on hbb8 (Nat.le_refl _)).1.row (HA.out.on hbb8 (Nat.le_refl _)).1.row).mono ?_
              rw [hba]
              rintro e w9 ⟨rfl, hb9⟩
              go_wp2_with fail
              go_meet
              exact ⟨by simp; try omega, chain hbb8 hb9⟩
            · go_wp2_with fail
              refine (compareRows_c b a _ _ _ (HB.out.on hbb8 (Nat.le_refl _)).1.row (HA.out.on hbb8 (Nat.le_refl _)).1.row).mono ?_
              rw [hba]
              rintro e w9 ⟨rfl, hb9⟩
              go_wp2_with fail
              go_meet
              exact ⟨by simp; try omega, chain hbb8 hb9⟩
        · go_wp2_with fail
          refine (compareRows_c b a _ _ _ (HB.out.on hbb8 (Nat.le_refl _)).1.row (HA.out.on hbb8 (Nat.le_refl _)).1.row).mono ?_
          rw [hba]
          rintro e w9 ⟨rfl, hb9⟩
          go_wp2_with fail
          go_meet
          exact ⟨rfl, chain hbb8 hb9⟩
      · go_wp2_with fail
        refine (compareRows_c b a _ _ _ (HB.out.on hbb8 (Nat.le_refl _)).1.row (HA.out.on hbb8 (Nat.le_refl _)).1.row).mono ?_
        rw [hba]
        rintro e w9 ⟨rfl, hb9⟩
        go_wp2_with fail
        go_meet
        exact ⟨rfl, chain hbb8 hb9⟩
  obtain ⟨rfl, hbb9⟩ := hcut
  generalize wc = w9 at hbb9 ⊢
  clear hbb8 LE LT
  have hfa := HFA.out
  go_wp2_with fail
  refine (rowBytes_c a _ _ (hg.on hbb9) HFA.out (by omega) (HA.out.on hbb9 (Nat.le_refl _)).1.row).mono ?_
  rw [HSa.out]
  rintro e wa ⟨rfl, hba1⟩
  have hbba := chain hbb9 hba1
  go_wp2_with fail
  refine (rowBytes_c b _ _ (hg.on hbba) HFB.out (by omega) (HB.out.on hbba (Nat.le_refl _)).1.row).mono ?_
  rw [HSb.out]
  rintro e wb ⟨rfl, hbb1⟩
  have hbbb := chain hbba hbb1
  clear hbb9 hba1 hbba hbb1 hfa
  go_wp2_with fail
  refine (sameRows_c a b _ _ _ (HA.out.on hbbb (Nat.le_refl _)).1.row (HB.out.on hbbb (Nat.le_refl _)).1.row).mono ?_
  rw [E2.out]
  rintro e wc ⟨rfl, hbc1⟩
  have hbbc := chain hbbb hbc1
  go_wp2_with fail
  refine (compareRows_c a a _ _ _ (HA.out.on hbbc (Nat.le_refl _)).1.row (HA.out.on hbbc (Nat.le_refl _)).1.row).mono ?_
  rw [haa]
  rintro e wd ⟨rfl, hbd1⟩
  have hbbd := chain hbbc hbd1
  clear hbbb hbc1 hbbc hbd1 e1
  go_wp2_with fail
  go_loopw [13, 14] (fun s13 s14 wr => ∃ (k : Nat) (d : Bool), k ≤ a.length ∧ s13 = .bool d ∧ s14 = .int .i64 k ∧ Hid (Diff a b k d) ∧ Below w.heap.size w wr) (fun _ s14 _ => a.length - (intOf s14).toNat)
  case atStart => exact ⟨0, false, Nat.zero_le _, rfl, rfl, Lib.hid ⟨fun _ => rfl, (fun h => by cases h)⟩, hbbd⟩
  case round =>
    obtain ⟨k, d, hk, rfl, rfl, HD, hbk⟩ := hrel
    clear hbbd
    obtain ⟨bb, hbb⟩ : ∃ bb : Bool, (decide (k < a.length) && decide (k < b.length)) = bb := ⟨_, rfl⟩
    have HBB := Lib.hid hbb
    clear hbb
    go_upto_region 13 with (fail)
    go_cut [123] (fun t123 wx => t123 = .bool bb ∧ wr = wx)
    case first =>
      by_cases hka : k < a.length
      · by_cases hkb : k < b.length
        · go_wp2_with fail
          go_meet
          exact ⟨by rw [← HBB.out]; simp [hka, hkb], rfl⟩
        · go_wp2_with fail
          go_meet
          exact ⟨by rw [← HBB.out]; simp [hka, hkb], rfl⟩
      · go_wp2_with fail
        go_meet
        exact ⟨by rw [← HBB.out]; simp [hka], rfl⟩
    obtain ⟨rfl, rfl⟩ := hcut
    cases bb with
    | true =>
      as_aux_lemma =>
        obtain ⟨hka, hkb⟩ : k < a.length ∧ k < b.length := by have := HBB.out; simpa using this
        obtain ⟨u, hu⟩ : ∃ u, a[k]? = some u := ⟨a[k], List.getElem?_eq_getElem hka⟩
        obtain ⟨v, hv⟩ : ∃ v, b[k]? = some v := ⟨b[k], List.getElem?_eq_getElem hkb⟩
        obtain ⟨ax, ox, rfl, hcapa, hcua⟩ := (HA.out.on hbk (Nat.le_refl _)).place hka u hu
        obtain ⟨bx, oy, rfl, hcapb, hcvb⟩ := (HB.out.on hbk (Nat.le_refl _)).place hkb v hv
        have hsl1 := slice_one ax ox a.length c1 k hka hcapa
        have hsl2 := slice_one bx oy b.length c2 k hkb hcapb
        obtain ⟨huf, hul⟩ := HFA.out u (List.mem_of_getElem? hu)
        obtain ⟨hvf, hvl⟩ := HFB.out v (List.mem_of_getElem? hv)
        obtain ⟨o, ho⟩ : ∃ o, cmpV u v = o := ⟨_, rfl⟩
        obtain ⟨X1, hX1⟩ : ∃ X, vbytes u = X := ⟨_, rfl⟩
        obtain ⟨X2, hX2⟩ : ∃ X, vbytes v = X := ⟨_, rfl⟩
        have e3 : (X1 == X2) = (o == 0) := by
          rw [← hX1, ← hX2, Bool.eq_iff_iff, beq_iff_eq, beq_iff_eq, vbytes_inj huf hvf, ← ho, tot_v.eq]
        have HU := Lib.hid hu
        have HV := Lib.hid hv
        have HO := Lib.hid ho
        have HX1 := Lib.hid hX1
        have HX2 := Lib.hid hX2
        have hgr := hg.on hbk
        have k0 := cell_regrown hcua.1
        have k1 := cell_regrown hcua.2.1
        have k2 := cell_regrown hcua.2.2
        have k3 := cell_regrown hcvb.1
        have k4 := cell_regrown hcvb.2.1
        have k5 := cell_regrown hcvb.2.2
        have q1 : ∀ d os, Calls Tryd.prog 11 #[.agg #[.int .i64 u.k, .int .i64 u.n, .string ⟨u.s.toArray⟩], .agg #[.int .i64 v.k, .int .i64 v.n, .string ⟨v.s.toArray⟩]] (grow (redrawn wr d) os) fun e w'' => e = .returned (.int .i64 o) ∧ ∃ p : Regrown, w'' = grow (redrawn wr p.d) p.os := fun d os => Calls.regrown_of (by rw [← HO.out]; exact compare_c u v _)
        have Q1 := Lib.hid q1
        clear q1 hu hv ho hX1 hX2
        go_wp2_with fail
        refine wp_region_quiet_below (by kernel_rfl) (by kernel_rfl) ?_
        repeat (quiet_step (with_reducible exact Q1.out _ _))
        refine wpQuiet_nil ?_
        intro _ hw'
        obtain ⟨⟨dq, osq⟩, hw''⟩ := hw'
        subst hw''
        have hbe := below_regrown wr dq osq
        generalize grow (redrawn wr dq) osq = we at hbe ⊢
        have hua := hcua.on hbe (Nat.le_refl _)
        have hvb := hcvb.on hbe (Nat.le_refl _)
        have hge := hgr.on hbe
        have hbke := chain hbk hbe
        clear k0 k1 k2 k3 k4 k5 Q1 hcua hcvb hgr hbe
        have k0 := cell_regrown hua.1
        have k1 := cell_regrown hua.2.1
        have k2 := cell_regrown hua.2.2
        have k3 := cell_regrown hvb.1
        have k4 := cell_regrown hvb.2.1
        have k5 := cell_regrown hvb.2.2
        have q1 : ∀ d os, Calls Tryd.prog 8 #[.slice (some ⟨ax, ox + k * 3, none⟩) 1 (c1 - k), .slice (some ⟨bx, oy + k * 3, none⟩) 1 (c2 - k)] (grow (redrawn we d) os) fun e w'' => e = .returned (.int .i64 o) ∧ ∃ p : Regrown, w'' = grow (redrawn we p.d) p.os := fun d os => Calls.regrown_of (by rw [← HO.out, ← cmpR_one]; exact compareRows_c [u] [v] _ _ _ (row_at (hua.on (below_regrown we d os) (Nat.le_refl _))) (row_at (hvb.on (below_regrown we d os) (Nat.le_refl _))))
        have Q1 := Lib.hid q1
        have q2 : ∀ d os, Calls Tryd.prog 12 #[.agg #[.int .i64 u.k, .int .i64 u.n, .string ⟨u.s.toArray⟩]] (grow (redrawn we d) os) fun e w'' => e = .returned (.string ⟨X1.toArray⟩) ∧ ∃ p : Regrown, w'' = grow (redrawn we p.d) p.os := fun d os => Calls.regrown_of (by rw [← HX1.out]; exact bytes_c u _ (hge.on (below_regrown we d os)) huf (by omega))
        have Q2 := Lib.hid q2
        have q3 : ∀ d os, Calls Tryd.prog 12 #[.agg #[.int .i64 v.k, .int .i64 v.n, .string ⟨v.s.toArray⟩]] (grow (redrawn we d) os) fun e w'' => e = .returned (.string ⟨X2.toArray⟩) ∧ ∃ p : Regrown, w'' = grow (redrawn we p.d) p.os := fun d os => Calls.regrown_of (by rw [← HX2.out]; exact bytes_c v _ (hge.on (below_regrown we d os)) hvf (by omega))
        have Q3 := Lib.hid q3
        clear q1 q2 q3
        have hw1 : IntKind.i64.wrap ((k : Int) + 1) = (k : Int) + 1 := IntWalk.i64_in _ (by omega)
        go_wp2_with fail
        go_cut [163] (fun t163 wx => t163 = .bool false ∧ Below we.heap.size we wx)
        case first =>
          refine wp_region_quiet_below (by kernel_rfl) (by kernel_rfl) ?_
          repeat (quiet_step (first | (with_reducible exact Q1.out _ _) | (with_reducible exact Q2.out _ _) | (with_reducible exact Q3.out _ _)))
          refine wpQuiet_nil ?_
          intro _ hw'
          obtain ⟨⟨dq, osq⟩, hw''⟩ := hw'
          subst hw''
          go_wp2_with fail
          go_meet
          exact ⟨rfl, below_regrown we dq osq⟩
        obtain ⟨rfl, hbf⟩ := hcut
        generalize wc = wf at hbf ⊢
        have hbkf := chain hbke hbf
        clear k0 k1 k2 k3 k4 k5 Q1 Q2 Q3 hua hvb hge hbke hbf hsl1 hsl2 hw1
        cases d with
        | true =>
          go_wp2_with fail
          go_roundw
          case rel => exact ⟨k + 1, true, by omega, rfl, by go_num, Lib.hid (Diff.stay HD.out), hbkf⟩
          case measure => simp [intOf]; omega
        | false =>
          by_cases ho0 : o = 0
          · have HZ := Lib.hid (Diff.same HD.out HU.out HV.out (HO.out.trans ho0))
            have hz : (o != 0) = false := by rw [ho0]; rfl
            go_wp2_with fail
            go_roundw
            case rel => exact ⟨k + 1, false, by omega, rfl, by go_num, HZ, hbkf⟩
            case measure => simp [intOf]; omega
          · have hne : ¬ cmpV u v = 0 := by rw [HO.out]; exact ho0
            have HZ := Lib.hid (Diff.other (d := false) HU.out HV.out hne)
            have hop : (o != p) = false := by
              have := cmpR_diff (HD.out.1 rfl) HU.out HV.out hne
              rw [HP.out, HO.out] at this
              simp [this]
            have hz : (o != 0) = true := by simpa using ho0
            go_wp2_with fail
            go_roundw
            case rel => exact ⟨k + 1, true, by omega, rfl, by go_num, HZ, hbkf⟩
            case measure => simp [intOf]; omega
    | false =>
      as_aux_lemma =>
        obtain ⟨i0, hi, hz0, hz1, hz2⟩ := info_parts infoVal
        have hzk := hbk.size
        go_upto_region 21 with (fail)
        go_cut [16] (fun s16 wx => RowV wx s16 (a ++ t) ∧ Below w.heap.size w wx)
        case first =>
          have hown0 : (wr.alloc (.cells #[] 30)).ownsRow w.heap.size 30 3 (.slice (some ⟨wr.heap.size, 0, none⟩) 0 0) 0 [] := World.ownsRow_lit wr #[] 0 hzk (by unfold maxLen; omega) rfl
          have hba : Below w.heap.size w (wr.alloc (.cells #[] 30)) := hbk.alloc hzk _
          rcases (HA.out.1.on hba (Nat.le_refl _)).2 with ⟨he, ha0⟩ | ⟨ad, cap, he, hle, hcell⟩
          · injection he with he hz0a he3
            subst he he3
            clear hz0a
            have HA0 := Lib.hid ha0
            have HAL := Lib.hid (show a.length = 0 by rw [ha0]; rfl)
            have hownA : (wr.alloc (.cells #[] 30)).ownsRow w.heap.size 30 3 (.slice (some ⟨wr.heap.size, 0, none⟩) 0 0) a.length (cellsV a) := by rw [HA0.out]; exact hown0
            clear ha0
            rcases (HT.out.1.on hba (Nat.le_refl _)).2 with ⟨he2, ht0⟩ | ⟨ad2, cap2, he2, hle2, hcell2⟩
            · injection he2 with he2 hz0t he4
              subst he2 he4
              clear hz0t
              have HT0 := Lib.hid ht0
              have HTL := Lib.hid (show t.length = 0 by rw [ht0]; rfl)
              clear ht0
              go_wp2_with (at_builtin; first | (refine wpList_append_own_none rfl _ _ 22 rfl w.heap.size 30 i0 3 Tryd.underlying22 hi _ _ _ rfl hown0 (show Value.slice none a.length 0 = .slice none 0 0 by rw [HAL.out]) ?_) | (refine wpList_append_own_none rfl _ _ 22 rfl w.heap.size 30 i0 3 Tryd.underlying22 hi _ _ _ rfl hownA (show Value.slice none t.length 0 = .slice none 0 0 by rw [HTL.out]) ?_))
              go_wp2_with fail
              go_meet
              exact ⟨by rw [HT0.out, List.append_nil]; exact row_of_own (B := w.heap.size) (show Own w.heap.size _ a _ from hownA) (by omega), hba⟩
            · injection he2 with he2 _ he4
              subst he2 he4
              go_wp2_with (at_builtin; first | (refine wpList_append_own_none rfl _ _ 22 rfl w.heap.size 30 i0 3 Tryd.underlying22 hi _ _ _ rfl hown0 (show Value.slice none a.length 0 = .slice none 0 0 by rw [HAL.out]) ?_) | (refine wpList_append_own _ rfl _ _ 22 rfl w.heap.size 30 i0 (.agg #[.int .i64 0, .int .i64 0, .string ⟨#[]⟩]) 3 32 Tryd.underlying22 hi hz0 hz1 hz2 rfl (by decide) _ _ _ rfl hownA ad2 t.length _ (cellsV t) rfl (cellsV_len t) ?c1 (cellsV_one t) ?c3 ?c4 ?c5 ?_))
              case c1 => exact hcell2
              case c3 => unfold maxLen; omega
              case c4 => omega
              case c5 => omega
              intro v6 w6 hown6 hgrow6 _
              have hb6 : Below w.heap.size w w6 := (hba).grown hgrow6 (hba).size (fun k hk => (World.ownsRow.lt hownA k hk).1)
              have hrow6 : RowV w6 v6 (a ++ t) := row_of_own (B := w.heap.size) (show Own w.heap.size v6 (a ++ t) w6 by unfold Own; rw [List.length_append, cellsV_app]; exact hown6) (by rw [List.length_append]; omega)
              go_wp2_with fail
              go_meet
              exact ⟨hrow6, hb6⟩
          · injection he with he _ he3
            subst he he3
            rcases (HT.out.1.on hba (Nat.le_refl _)).2 with ⟨he2, ht0⟩ | ⟨ad2, cap2, he2, hle2, hcell2⟩
            · injection he2 with he2 hz0t he4
              subst he2 he4
              clear hz0t
              have HT0 := Lib.hid ht0
              have HTL := Lib.hid (show t.length = 0 by rw [ht0]; rfl)
              clear ht0
              go_wp2_with (at_builtin; (refine wpList_append_own _ rfl _ _ 22 rfl w.heap.size 30 i0 (.agg #[.int .i64 0, .int .i64 0, .string ⟨#[]⟩]) 3 32 Tryd.underlying22 hi hz0 hz1 hz2 rfl (by decide) _ _ _ rfl hown0 ad a.length _ (cellsV a) rfl (cellsV_len a) ?c1 (cellsV_one a) ?c3 ?c4 ?c5 ?_))
              case c1 => exact hcell
              case c3 => unfold maxLen; omega
              case c4 => omega
              case c5 => omega
              intro v5 w5 hown5 hgrow5 _
              have hb5 : Below w.heap.size w w5 := hba.grown hgrow5 hba.size (fun k hk => (World.ownsRow.lt hown0 k hk).1)
              have hownA : w5.ownsRow w.heap.size 30 3 v5 a.length (cellsV a) := by simpa using hown5
              clear hown5 hgrow5
              go_wp2_with (at_builtin; (refine wpList_append_own_none rfl _ _ 22 rfl w.heap.size 30 i0 3 Tryd.underlying22 hi _ _ _ rfl hownA (show Value.slice none t.length 0 = .slice none 0 0 by rw [HTL.out]) ?_))
              go_wp2_with fail
              go_meet
              exact ⟨by rw [HT0.out, List.append_nil]; exact row_of_own (B := w.heap.size) (show Own w.heap.size _ a _ from hownA) (by omega), hb5⟩
            · injection he2 with he2 _ he4
              subst he2 he4
              have hcell3 : ∀ w5 : World, Below w.heap.size w w5 → ∀ j u, (cellsV t)[j]? = some u → w5.cell? (ad2.add j) = some u := fun w5 hb5 => by
                rcases (HT.out.1.on hb5 (Nat.le_refl _)).2 with ⟨h1, _⟩ | ⟨a', c', h1, _, h3⟩
                · cases h1
                · injection h1 with h1 _ _
                  injection h1 with h1
                  subst h1
                  exact h3
              go_wp2_with (at_builtin; (refine wpList_append_own _ rfl _ _ 22 rfl w.heap.size 30 i0 (.agg #[.int .i64 0, .int .i64 0, .string ⟨#[]⟩]) 3 32 Tryd.underlying22 hi hz0 hz1 hz2 rfl (by decide) _ _ _ rfl hown0 ad a.length _ (cellsV a) rfl (cellsV_len a) ?c1 (cellsV_one a) ?c3 ?c4 ?c5 ?_))
              case c1 => exact hcell
              case c3 => unfold maxLen; omega
              case c4 => omega
              case c5 => omega
              intro v5 w5 hown5 hgrow5 _
              have hb5 : Below w.heap.size w w5 := hba.grown hgrow5 hba.size (fun k hk => (World.ownsRow.lt hown0 k hk).1)
              have hownA : w5.ownsRow w.heap.size 30 3 v5 a.length (cellsV a) := by simpa using hown5
              have hcell5 := hcell3 w5 hb5
              clear hown5 hgrow5 hcell3
              go_wp2_with (at_builtin; (refine wpList_append_own _ rfl _ _ 22 rfl w.heap.size 30 i0 (.agg #[.int .i64 0, .int .i64 0, .string ⟨#[]⟩]) 3 32 Tryd.underlying22 hi hz0 hz1 hz2 rfl (by decide) _ _ _ rfl hownA ad2 t.length _ (cellsV t) rfl (cellsV_len t) ?c1 (cellsV_one t) ?c3 ?c4 ?c5 ?_))
              case c1 => exact hcell5
              case c3 => unfold maxLen; omega
              case c4 => omega
              case c5 => exact hb5.size
              intro v6 w6 hown6 hgrow6 _
              have hb6 : Below w.heap.size w w6 := (hb5).grown hgrow6 (hb5).size (fun k hk => (World.ownsRow.lt hownA k hk).1)
              have hrow6 : RowV w6 v6 (a ++ t) := row_of_own (B := w.heap.size) (show Own w.heap.size v6 (a ++ t) w6 by unfold Own; rw [List.length_append, cellsV_app]; exact hown6) (by rw [List.length_append]; omega)
              go_wp2_with fail
              go_meet
              exact ⟨hrow6, hb6⟩
        obtain ⟨hlong, hbx⟩ := hcut
        generalize wc = w7 at hlong hbx ⊢
        obtain ⟨L, hL⟩ : ∃ L, a ++ t = L := ⟨_, rfl⟩
        rw [hL] at hlong
        have HLN := Lib.hid hL
        clear hL
        obtain ⟨_, A7, c7, h7, _⟩ := id hlong
        subst h7
        clear hbk
        have hbx' := hbx
        cases d with
        | true =>
          have HL := Lib.hid (show cmpR L b = p by
            obtain ⟨i, x, y, h1, h2, h3⟩ := HD.out.2 rfl
            rw [← HP.out, ← HLN.out]
            exact lex_behind a b t i x y h1 h2 h3)
          go_wp2_with fail
          refine (compareRows_c L b _ _ _ hlong (HB.out.on hbx (Nat.le_refl _)).1.row).mono ?_
          rw [HL.out]
          rintro e w8 ⟨rfl, hb8⟩
          have hbb8 := chain hbx hb8
          by_cases ht0 : t.length = 0
          · have htq : ((t.length : Int) == 0) = true := by rw [ht0]; rfl
            go_wp2_with fail
            go_ret
            exact ⟨rfl, hbb8⟩
          · have htq : ((t.length : Int) == 0) = false := by simpa using ht0
            have HM := Lib.hid (show cmpR a L = -1 by rw [← HLN.out]; exact lex_longer tot_v a t (fun h => ht0 (by rw [h]; rfl)))
            go_wp2_with fail
            refine (compareRows_c a L _ _ _ (HA.out.on hbb8 (Nat.le_refl _)).1.row (hlong.on hb8 (Nat.le_refl _))).mono ?_
            rw [HM.out]
            rintro e w9 ⟨rfl, hb9⟩
            go_wp2_with fail
            go_ret
            exact ⟨rfl, chain hbb8 hb9⟩
        | false =>
          by_cases ht0 : t.length = 0
          · have htq : ((t.length : Int) == 0) = true := by rw [ht0]; rfl
            go_wp2_with fail
            go_ret
            exact ⟨rfl, hbx⟩
          · have htq : ((t.length : Int) == 0) = false := by simpa using ht0
            have HM := Lib.hid (show cmpR a L = -1 by rw [← HLN.out]; exact lex_longer tot_v a t (fun h => ht0 (by rw [h]; rfl)))
            go_wp2_with fail
            refine (compareRows_c a L _ _ _ (HA.out.on hbx (Nat.le_refl _)).1.row hlong).mono ?_
            rw [HM.out]
            rintro e w9 ⟨rfl, hb9⟩
            go_wp2_with fail
            go_ret
            exact ⟨rfl, chain hbx hb9⟩
end
end Go.Proofs.YtefaigbbleienaaDoor
