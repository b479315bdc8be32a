/-
  The reference's reader: lists. Nums and Texts return the list whose encoding stands there, or no elements.
-/
import Derived.Test.YtlfpelmblpdbjaaDoorRefReadC
namespace Go.Proofs.YtlfpelmblpdbjaaDoor
open Go Go.RowKit Go.Sort Wire

theorem qd_grown {w w' : World} {B b : Nat} {r : List UInt8} {f : Bool} {e : TypeId} {v : Value} {n : Nat} {xs : List Value} {o : Obj} (h : Qd w b r f) (hown : w.ownsRow B e 1 v n xs) (hb : b < B) (hg : (w.alloc o).grownBy w' v.ownBlock) : Qd w' b r f := by
  have hlt := h.lt
  show w'.heap[b]? = _
  rw [hg.block b (by simp; omega) (fun e => by have := (hown.lt b e.symm).1; omega), Lib.alloc_old w _ b hlt]
  exact h
/-- How a list is read by the reference: the list and what is left, or no elements and a reader that has failed. -/
def QListPost {α : Type} (p : List UInt8 → Option (α × List UInt8)) (conv : List α → List Value) (T : TypeId) (r : List UInt8) (b : Nat) (w : World) (e : Ending) (w' : World) : Prop :=
  Only b w w' ∧ ((∃ l q v, rList p r = some (l, q) ∧ e = .returned v ∧ w'.ownsRow w.heap.size T 1 v l.length (conv l) ∧ Qd w' b q false) ∨
    (rList p r = none ∧ e = .returned (.slice none 0 0) ∧ Qd w' b [] true))

set_option maxHeartbeats 1000000 in
set_option maxRecDepth 100000 in
theorem qNums_c (b : Nat) (r : List UInt8) (f : Bool) (hf : f = true → r = []) (hlen : r.length < 4294967281) (w : World) (h : Qd w b r f) :
    Calls Tryd.prog 32 #[.pointer (some ⟨b, 0, none⟩)] w (QListPost (rInt 59) ints 3 r b w) := by
  have hbw := h.lt
  cases hn : rNum 91 r with
  | none =>
    have HP := Lib.hid (show rList (rInt 59) r = none by unfold rList; rw [hn]; rfl)
    have HN := Lib.hid hn
    clear hn hf
    go_enter Tryd.func32, Tryd.ntmps32
    go_wp2_with fail
    refine (qnumber_no 91 91 rfl b r f HN.out hlen _ h).mono ?_
    rintro v w1 ⟨rfl, h1, ho1⟩
    have k1 := h1.c1
    go_wp2_with fail
    go_loopw [4, 5] (fun s i wr => s = .slice none 0 0 ∧ i = .int .i64 0 ∧ w1 = wr) (fun _ _ _ => 0)
    case atStart => exact ⟨rfl, rfl, rfl⟩
    case round =>
      obtain ⟨rfl, rfl, rfl⟩ := hrel
      go_wp2_with fail
      go_ret
      exact ⟨ho1, Or.inr ⟨HP.out, rfl, h1⟩⟩
  | some nq =>
    obtain ⟨m, q⟩ := nq
    have hm0 := ((rNum_iff 91 (by decide) r m q).1 hn).1
    have hmr := ((rNum_iff 91 (by decide) r m q).1 hn).2.1
    have hfF : f = false := by
      cases f
      · rfl
      · rw [hf rfl, rNum_nil] at hn; cases hn
    subst hfF
    obtain ⟨n, rfl⟩ := Int.eq_ofNat_of_zero_le hm0
    have hql : q.length < 4294967281 := by have := rNum_shorter (by decide) hn; omega
    have hnm : (n : Int) ≤ 9223372036854775807 := hmr.2
    have HP := Lib.hid (show rList (rInt 59) r = (rMany (rInt 59) n q).bind fun x => (rClose 93 x.2).map fun r => (x.1, r) by unfold rList; rw [hn]; rfl)
    have HN := Lib.hid hn
    clear hn hmr hm0 hf
    obtain ⟨i0, hi, hz0, hz1, hz2⟩ := info_parts infoInt
    go_enter Tryd.func32, Tryd.ntmps32
    go_wp2_with fail
    refine (qnumber_ok 91 91 rfl b r false n q HN.out hlen _ h).mono ?_
    rintro v w1 ⟨rfl, h1, ho1⟩
    go_wp2_with fail
    go_loopw [4, 5] (fun s i wr => ∃ (k : Nat) (g : Bool) (l : List Int) (q' : List UInt8), k ≤ n ∧ i = .int .i64 k ∧ Hid (if g then rMany (rInt 59) n q = none else rMany (rInt 59) k q = some (l, q')) ∧ (g = false → wr.ownsRow w.heap.size 3 1 s l.length (ints l)) ∧ Qd wr b q' g ∧ (g = true → q' = []) ∧ Only b w wr) (fun _ i _ => n - (intOf i).toNat)
    case atStart => exact ⟨0, false, [], q, Nat.zero_le _, rfl, Lib.hid rfl, fun _ => World.ownsRow_nil _ _ _ _, h1, nofun, ho1⟩
    case round =>
      obtain ⟨k, g, l, q', hk, rfl, HM, hown, hr, hgq, hor⟩ := hrel
      have k1 := hr.c1
      cases g with
      | true =>
        have HO := Lib.hid (show rMany (rInt 59) n q = none from HM.out)
        have hq0 := hgq rfl
        subst hq0
        clear hgq hown HM
        by_cases hlt : k < n
        · go_wp2_with fail
          go_ret
          exact ⟨hor, Or.inr ⟨by rw [HP.out, HO.out]; rfl, rfl, hr⟩⟩
        · obtain rfl : k = n := by omega
          go_wp2_with fail
          go_ret
          exact ⟨hor, Or.inr ⟨by rw [HP.out, HO.out]; rfl, rfl, hr⟩⟩
      | false =>
        have hown1 := hown rfl
        clear hown hgq
        have HM1 := Lib.hid (show rMany (rInt 59) k q = some (l, q') by have := HM.out; simpa using this)
        clear HM
        obtain ⟨hll, hlq⟩ := rMany_short (p := (rInt 59)) (fun s a r h => rInt_shorter (by decide) h) k q l q' HM1.out
        have HL := Lib.hid hll
        clear hll
        have hq'l : q'.length < 4294967281 := by omega
        have hsz : w.heap.size ≤ wr.heap.size := hor.size
        by_cases hlt : k < n
        · cases hx : (rInt 59) q' with
          | none =>
            have hno : rMany (rInt 59) n q = none := rMany_none (k := k + 1) (by simp only [rMany]; rw [HM1.out]; simp [hx]) (by omega)
            have HX := Lib.hid hx
            have HO := Lib.hid hno
            clear hx hno
            go_wp2_with fail
            refine (qIntM_no b q' false HX.out hq'l _ hr).mono ?_
            rintro v w2 ⟨rfl, h2, ho2⟩
            have hown2 := owned_only hown1 ho2 hbw
            have hll : l.length = k := HL.out
            have hsz2 : w.heap.size ≤ w2.heap.size := Nat.le_trans hsz ho2.size
            have hl47 : l.length ≤ 4294967281 := by omega
            clear hll hown1 k1
            go_wp2_with (at_builtin; refine wpList_append_own _ rfl _ _ 22 rfl w.heap.size 3 i0 (.int .i64 0) 1 8 Tryd.underlying22 hi hz0 hz1 hz2 rfl (by decide) _ _ _ rfl (hown2.alloc _) ⟨w2.heap.size, 0, none⟩ 1 1 [(.int .i64 0)] rfl rfl ?c1 ?c2 ?c3 ?c4 ?c5 ?_)
            case c1 =>
              intro j u hj
              match j, hj with
              | 0, hj => simp at hj; subst hj; simp [Addr.add]
            case c2 => intro u hu; simp at hu; subst hu; rfl
            case c3 => unfold maxLen; omega
            case c4 => omega
            case c5 => simp; omega
            intro v' w3 hown3 hgrow _
            have h3 := qd_grown h2 hown2 hbw hgrow
            have ho3 := only_grown (hor.trans ho2) hown2 hgrow
            go_wp2_with fail
            go_roundw
            case rel => exact ⟨k + 1, true, [], [], by omega, by go_num, HO, nofun, h3, fun _ => rfl, ho3⟩
            case measure => simp [intOf]; omega
          | some xq =>
            obtain ⟨x, q2⟩ := xq
            have hmo : rMany (rInt 59) (k + 1) q = some (l ++ [x], q2) := by simp only [rMany]; rw [HM1.out]; simp [hx]
            have HX := Lib.hid hx
            have HO := Lib.hid hmo
            clear hx hmo
            go_wp2_with fail
            refine (qIntM_ok b q' false x q2 HX.out hq'l _ hr).mono ?_
            rintro v w2 ⟨rfl, h2, ho2⟩
            have hown2 := owned_only hown1 ho2 hbw
            have hll : l.length = k := HL.out
            have hsz2 : w.heap.size ≤ w2.heap.size := Nat.le_trans hsz ho2.size
            have hl47 : l.length ≤ 4294967281 := by omega
            clear hll hown1 k1
            go_wp2_with (at_builtin; refine wpList_append_own _ rfl _ _ 22 rfl w.heap.size 3 i0 (.int .i64 0) 1 8 Tryd.underlying22 hi hz0 hz1 hz2 rfl (by decide) _ _ _ rfl (hown2.alloc _) ⟨w2.heap.size, 0, none⟩ 1 1 [.int .i64 x] rfl rfl ?c1 ?c2 ?c3 ?c4 ?c5 ?_)
            case c1 =>
              intro j u hj
              match j, hj with
              | 0, hj => simp at hj; subst hj; simp [Addr.add]
            case c2 => intro u hu; simp at hu; subst hu; rfl
            case c3 => unfold maxLen; omega
            case c4 => omega
            case c5 => simp; omega
            intro v' w3 hown3 hgrow _
            have h3 := qd_grown h2 hown2 hbw hgrow
            have ho3 := only_grown (hor.trans ho2) hown2 hgrow
            go_wp2_with fail
            go_roundw
            case rel => exact ⟨k + 1, false, l ++ [x], q2, by omega, by go_num, HO, fun _ => by simpa [ints] using hown3, h3, nofun, ho3⟩
            case measure => simp [intOf]; omega
        · obtain rfl : k = n := by omega
          cases hc : rClose 93 q' with
          | none =>
            have HCl := Lib.hid hc
            clear hc
            go_wp2_with fail
            refine (qclose_no 93 93 rfl b q' false HCl.out hq'l _ hr).mono ?_
            rintro v w3 ⟨rfl, h3, ho3⟩
            go_wp2_with fail
            go_ret
            exact ⟨hor.trans ho3, Or.inr ⟨by rw [HP.out, HM1.out]; simp [HCl.out], rfl, h3⟩⟩
          | some q3 =>
            have hq3 := (rClose_iff 93 q' q3).1 hc
            have HCl := Lib.hid hc
            clear hc
            have hq3l : q3.length < 4294967281 := by rw [hq3] at hq'l; simp at hq'l; omega
            have HQ := Lib.hid hq3
            clear hq3
            go_wp2_with fail
            refine (qclose_ok 93 93 rfl b q3 false hq3l _ (HQ.out ▸ hr)).mono ?_
            rintro v w3 ⟨rfl, h3, ho3⟩
            go_wp2_with fail
            go_ret
            exact ⟨hor.trans ho3, Or.inl ⟨l, q3, _, by rw [HP.out, HM1.out]; simp [HCl.out], rfl, owned_only hown1 ho3 hbw, h3⟩⟩

set_option maxHeartbeats 1000000 in
set_option maxRecDepth 100000 in
theorem qTexts_c (b : Nat) (r : List UInt8) (f : Bool) (hf : f = true → r = []) (hlen : r.length < 4294967281) (w : World) (h : Qd w b r f) :
    Calls Tryd.prog 35 #[.pointer (some ⟨b, 0, none⟩)] w (QListPost rText strs 9 r b w) := by
  have hbw := h.lt
  cases hn : rNum 91 r with
  | none =>
    have HP := Lib.hid (show rList rText r = none by unfold rList; rw [hn]; rfl)
    have HN := Lib.hid hn
    clear hn hf
    go_enter Tryd.func35, Tryd.ntmps35
    go_wp2_with fail
    refine (qnumber_no 91 91 rfl b r f HN.out hlen _ h).mono ?_
    rintro v w1 ⟨rfl, h1, ho1⟩
    have k1 := h1.c1
    go_wp2_with fail
    go_loopw [4, 5] (fun s i wr => s = .slice none 0 0 ∧ i = .int .i64 0 ∧ w1 = wr) (fun _ _ _ => 0)
    case atStart => exact ⟨rfl, rfl, rfl⟩
    case round =>
      obtain ⟨rfl, rfl, rfl⟩ := hrel
      go_wp2_with fail
      go_ret
      exact ⟨ho1, Or.inr ⟨HP.out, rfl, h1⟩⟩
  | some nq =>
    obtain ⟨m, q⟩ := nq
    have hm0 := ((rNum_iff 91 (by decide) r m q).1 hn).1
    have hmr := ((rNum_iff 91 (by decide) r m q).1 hn).2.1
    have hfF : f = false := by
      cases f
      · rfl
      · rw [hf rfl, rNum_nil] at hn; cases hn
    subst hfF
    obtain ⟨n, rfl⟩ := Int.eq_ofNat_of_zero_le hm0
    have hql : q.length < 4294967281 := by have := rNum_shorter (by decide) hn; omega
    have hnm : (n : Int) ≤ 9223372036854775807 := hmr.2
    have HP := Lib.hid (show rList rText r = (rMany rText n q).bind fun x => (rClose 93 x.2).map fun r => (x.1, r) by unfold rList; rw [hn]; rfl)
    have HN := Lib.hid hn
    clear hn hmr hm0 hf
    obtain ⟨i0, hi, hz0, hz1, hz2⟩ := info_parts infoStr
    go_enter Tryd.func35, Tryd.ntmps35
    go_wp2_with fail
    refine (qnumber_ok 91 91 rfl b r false n q HN.out hlen _ h).mono ?_
    rintro v w1 ⟨rfl, h1, ho1⟩
    go_wp2_with fail
    go_loopw [4, 5] (fun s i wr => ∃ (k : Nat) (g : Bool) (l : List (List UInt8)) (q' : List UInt8), k ≤ n ∧ i = .int .i64 k ∧ Hid (if g then rMany rText n q = none else rMany rText k q = some (l, q')) ∧ (g = false → wr.ownsRow w.heap.size 9 1 s l.length (strs l)) ∧ Qd wr b q' g ∧ (g = true → q' = []) ∧ Only b w wr) (fun _ i _ => n - (intOf i).toNat)
    case atStart => exact ⟨0, false, [], q, Nat.zero_le _, rfl, Lib.hid rfl, fun _ => World.ownsRow_nil _ _ _ _, h1, nofun, ho1⟩
    case round =>
      obtain ⟨k, g, l, q', hk, rfl, HM, hown, hr, hgq, hor⟩ := hrel
      have k1 := hr.c1
      cases g with
      | true =>
        have HO := Lib.hid (show rMany rText n q = none from HM.out)
        have hq0 := hgq rfl
        subst hq0
        clear hgq hown HM
        by_cases hlt : k < n
        · go_wp2_with fail
          go_ret
          exact ⟨hor, Or.inr ⟨by rw [HP.out, HO.out]; rfl, rfl, hr⟩⟩
        · obtain rfl : k = n := by omega
          go_wp2_with fail
          go_ret
          exact ⟨hor, Or.inr ⟨by rw [HP.out, HO.out]; rfl, rfl, hr⟩⟩
      | false =>
        have hown1 := hown rfl
        clear hown hgq
        have HM1 := Lib.hid (show rMany rText k q = some (l, q') by have := HM.out; simpa using this)
        clear HM
        obtain ⟨hll, hlq⟩ := rMany_short (p := rText) (fun s a r h => rText_shorter h) k q l q' HM1.out
        have HL := Lib.hid hll
        clear hll
        have hq'l : q'.length < 4294967281 := by omega
        have hsz : w.heap.size ≤ wr.heap.size := hor.size
        by_cases hlt : k < n
        · cases hx : rText q' with
          | none =>
            have hno : rMany rText n q = none := rMany_none (k := k + 1) (by simp only [rMany]; rw [HM1.out]; simp [hx]) (by omega)
            have HX := Lib.hid hx
            have HO := Lib.hid hno
            clear hx hno
            go_wp2_with fail
            refine (qTextM_no b q' false nofun HX.out hq'l _ hr).mono ?_
            rintro v w2 ⟨rfl, h2, ho2⟩
            have hown2 := owned_only hown1 ho2 hbw
            have hll : l.length = k := HL.out
            have hsz2 : w.heap.size ≤ w2.heap.size := Nat.le_trans hsz ho2.size
            have hl47 : l.length ≤ 4294967281 := by omega
            clear hll hown1 k1
            go_wp2_with (at_builtin; refine wpList_append_own _ rfl _ _ 23 rfl w.heap.size 9 i0 (.string ⟨#[]⟩) 1 16 Tryd.underlying23 hi hz0 hz1 hz2 rfl (by decide) _ _ _ rfl (hown2.alloc _) ⟨w2.heap.size, 0, none⟩ 1 1 [(.string ⟨#[]⟩)] rfl rfl ?c1 ?c2 ?c3 ?c4 ?c5 ?_)
            case c1 =>
              intro j u hj
              match j, hj with
              | 0, hj => simp at hj; subst hj; simp [Addr.add]
            case c2 => intro u hu; simp at hu; subst hu; rfl
            case c3 => unfold maxLen; omega
            case c4 => omega
            case c5 => simp; omega
            intro v' w3 hown3 hgrow _
            have h3 := qd_grown h2 hown2 hbw hgrow
            have ho3 := only_grown (hor.trans ho2) hown2 hgrow
            go_wp2_with fail
            go_roundw
            case rel => exact ⟨k + 1, true, [], [], by omega, by go_num, HO, nofun, h3, fun _ => rfl, ho3⟩
            case measure => simp [intOf]; omega
          | some xq =>
            obtain ⟨x, q2⟩ := xq
            have hmo : rMany rText (k + 1) q = some (l ++ [x], q2) := by simp only [rMany]; rw [HM1.out]; simp [hx]
            have HX := Lib.hid hx
            have HO := Lib.hid hmo
            clear hx hmo
            go_wp2_with fail
            refine (qTextM_ok b q'  x q2 HX.out hq'l _ hr).mono ?_
            rintro v w2 ⟨rfl, h2, ho2⟩
            have hown2 := owned_only hown1 ho2 hbw
            have hll : l.length = k := HL.out
            have hsz2 : w.heap.size ≤ w2.heap.size := Nat.le_trans hsz ho2.size
            have hl47 : l.length ≤ 4294967281 := by omega
            clear hll hown1 k1
            go_wp2_with (at_builtin; refine wpList_append_own _ rfl _ _ 23 rfl w.heap.size 9 i0 (.string ⟨#[]⟩) 1 16 Tryd.underlying23 hi hz0 hz1 hz2 rfl (by decide) _ _ _ rfl (hown2.alloc _) ⟨w2.heap.size, 0, none⟩ 1 1 [.string ⟨x.toArray⟩] rfl rfl ?c1 ?c2 ?c3 ?c4 ?c5 ?_)
            case c1 =>
              intro j u hj
              match j, hj with
              | 0, hj => simp at hj; subst hj; simp [Addr.add]
            case c2 => intro u hu; simp at hu; subst hu; rfl
            case c3 => unfold maxLen; omega
            case c4 => omega
            case c5 => simp; omega
            intro v' w3 hown3 hgrow _
            have h3 := qd_grown h2 hown2 hbw hgrow
            have ho3 := only_grown (hor.trans ho2) hown2 hgrow
            go_wp2_with fail
            go_roundw
            case rel => exact ⟨k + 1, false, l ++ [x], q2, by omega, by go_num, HO, fun _ => by simpa [strs] using hown3, h3, nofun, ho3⟩
            case measure => simp [intOf]; omega
        · obtain rfl : k = n := by omega
          cases hc : rClose 93 q' with
          | none =>
            have HCl := Lib.hid hc
            clear hc
            go_wp2_with fail
            refine (qclose_no 93 93 rfl b q' false HCl.out hq'l _ hr).mono ?_
            rintro v w3 ⟨rfl, h3, ho3⟩
            go_wp2_with fail
            go_ret
            exact ⟨hor.trans ho3, Or.inr ⟨by rw [HP.out, HM1.out]; simp [HCl.out], rfl, h3⟩⟩
          | some q3 =>
            have hq3 := (rClose_iff 93 q' q3).1 hc
            have HCl := Lib.hid hc
            clear hc
            have hq3l : q3.length < 4294967281 := by rw [hq3] at hq'l; simp at hq'l; omega
            have HQ := Lib.hid hq3
            clear hq3
            go_wp2_with fail
            refine (qclose_ok 93 93 rfl b q3 false hq3l _ (HQ.out ▸ hr)).mono ?_
            rintro v w3 ⟨rfl, h3, ho3⟩
            go_wp2_with fail
            go_ret
            exact ⟨hor.trans ho3, Or.inl ⟨l, q3, _, by rw [HP.out, HM1.out]; simp [HCl.out], rfl, owned_only hown1 ho3 hbw, h3⟩⟩
end Go.Proofs.YtlfpelmblpdbjaaDoor
