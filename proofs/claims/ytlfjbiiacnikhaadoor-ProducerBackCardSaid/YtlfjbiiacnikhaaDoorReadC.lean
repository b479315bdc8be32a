/-
  Readers of package wire: lists. Nums and Texts return the list whose encoding stands there, or no elements.
-/
import Derived.Test.YtlfjbiiacnikhaaDoorReadB
namespace Go.Proofs.YtlfjbiiacnikhaaDoor
open Go Go.RowKit Go.Sort Wire

theorem infoInt : (Tryd.prog.info? 3).map (fun i => (i.zero, i.size, i.bytes)) = some (some (.int .i64 0), 1, 8) := by kernel_rfl
theorem infoStr : (Tryd.prog.info? 9).map (fun i => (i.zero, i.size, i.bytes)) = some (some (.string ⟨#[]⟩), 1, 16) := by kernel_rfl

theorem owned_only {w w' : World} {B b : Nat} {e : TypeId} {k : Nat} {v : Value} {n : Nat} {xs : List Value} (h : w.ownsRow B e k v n xs) (ho : Only b w w') (hb : b < B) : w'.ownsRow B e k v n xs := by
  refine h.kept (row := some b) ho ?_
  rcases h.2 with ⟨hv, _⟩ | ⟨g, cap, cur, hv, hg, _⟩
  · exact Or.inl (by rw [hv]; rfl)
  · right
    rw [hv]
    simp only [Value.ownBlock]
    intro e
    injection e with e
    omega
theorem owned_row {w : World} {B : Nat} {e : TypeId} {v : Value} {n : Nat} {xs : List Value} (h : w.ownsRow B e 1 v n xs) : RowAt w v xs := by
  obtain ⟨h1, h2⟩ := h
  rcases h2 with ⟨rfl, rfl⟩ | ⟨g, cap, cur, rfl, _, hg, hn, hc, hs, ht⟩
  · have : xs = [] := List.eq_nil_of_length_eq_zero (by omega)
    subst this
    exact ⟨by simp, none, 0, rfl, fun h => absurd rfl h⟩
  · refine ⟨by unfold maxLen at hc; omega, some ⟨g, 0, none⟩, cap, by rw [h1, Nat.mul_one], fun _ => ⟨g, 0, rfl, fun i x hx => ?_⟩⟩
    rw [Lib.cell_of_heap hg, Nat.zero_add]
    rw [← ht] at hx
    have hi : i < n * 1 := by
      rcases Nat.lt_or_ge i (n * 1) with h | h
      · exact h
      · rw [List.getElem?_eq_none (by rw [List.length_take]; omega)] at hx; cases hx
    rw [List.getElem?_take_of_lt hi] at hx
    simpa using hx

theorem rd_grown {w w' : World} {B b : Nat} {r : List UInt8} {f : Bool} {e : TypeId} {v : Value} {n : Nat} {xs : List Value} {o : Obj} (h : Rd w b r f) (hown : w.ownsRow B e 1 v n xs) (hb : b < B) (hg : (w.alloc o).grownBy w' v.ownBlock) : Rd w' b r f := by
  have hlt := h.lt
  show w'.heap[b]? = _
  rw [hg.block b (by simp; omega) (fun e => by have := (hown.lt b e.symm).1; omega), Lib.alloc_old w _ b hlt]
  exact h
theorem only_grown {w0 w w' : World} {b : Nat} {e : TypeId} {v : Value} {n : Nat} {xs : List Value} {o : Obj} (h : Only b w0 w) (hown : w.ownsRow w0.heap.size e 1 v n xs) (hg : (w.alloc o).grownBy w' v.ownBlock) : Only b w0 w' := by
  refine ⟨hg.os.trans h.os, hg.tape.trans h.tape, hg.output.trans h.output, by have := h.size; have := hg.size; simp at this; omega, fun k hk hne => ?_⟩
  have := h.size
  rw [hg.block k (by simp; omega) (fun e => by have := (hown.lt k e.symm).1; omega), Lib.alloc_old w _ k (by omega)]
  exact h.block k hk hne

/-- How a list is read: the list and what is left, or no elements and a reader that has failed. -/
def ListPost {α : Type} (p : List UInt8 → Option (α × List UInt8)) (conv : List α → List Value) (T : TypeId) (r : List UInt8) (b : Nat) (w : World) (e : Ending) (w' : World) : Prop :=
  Only b w w' ∧ ((∃ l q v, rList p r = some (l, q) ∧ e = .returned v ∧ w'.ownsRow w.heap.size T 1 v l.length (conv l) ∧ Rd w' b q false) ∨
    (rList p r = none ∧ e = .returned (.slice none 0 0) ∧ Rd w' b [] true))

theorem rNum_nil : rNum 91 [] = none := rfl

set_option maxHeartbeats 1000000 in
set_option maxRecDepth 100000 in
theorem elementsInt_c (b : Nat) (r : List UInt8) (f : Bool) (hf : f = true → r = []) (hlen : r.length < 4294967281) (w : World) (hg : Good w) (hb6 : 4 ≤ b) (h : Rd w b r f) :
    Calls Tryd.prog 40 #[.pointer (some ⟨b, 0, none⟩), .func (.func 18) #[.pointer (some ⟨b, 0, none⟩)] #[]] w (ListPost (rInt 59) ints 3 r b w) := by
  have hbw := h.lt
  cases hn : rNum 91 r with
  | none =>
    have HP := Lib.hid (show rList (rInt 59) r = none by unfold rList; rw [hn]; rfl)
    have HN := Lib.hid hn
    clear hn
    go_enter Tryd.func40, Tryd.ntmps40
    go_wp2_with fail
    refine (number_no 91 b r f HN.out hlen _ hg h).mono ?_
    rintro v w1 ⟨rfl, h1, ho1⟩
    have k0 := h1.c0
    go_wp2_with fail
    go_loopw [6, 13] (fun s i wr => s = .slice none 0 0 ∧ i = .int .i64 0 ∧ Rd wr b [] true ∧ Only b w wr) (fun _ _ _ => 0)
    case atStart => exact ⟨rfl, rfl, h1, ho1⟩
    case round =>
      obtain ⟨rfl, rfl, hr, hor⟩ := hrel
      clear k0
      have k0 := hr.c0
      go_wp2_with fail
      refine (cutPrefix_c 93 [] _).mono ?_
      rintro v w2 ⟨rfl, rfl⟩
      go_wp2_with fail
      refine (fail_c b [] true _ hr).mono ?_
      rintro v w3 ⟨rfl, h3, ho3⟩
      go_wp2_with fail
      go_ret
      exact ⟨hor.trans ho3, Or.inr ⟨HP.out, rfl, h3⟩⟩
  | some nq =>
    obtain ⟨m, q⟩ := nq
    have hm0 := ((rNum_iff 91 (by decide) r m q).1 hn).1
    have hmr := ((rNum_iff 91 (by decide) r m q).1 hn).2.1
    have hfF : f = false := by
      cases f
      · rfl
      · rw [hf rfl, rNum_nil] at hn; cases hn
    subst hfF
    obtain ⟨n, rfl⟩ := Int.eq_ofNat_of_zero_le hm0
    have hql : q.length < 4294967281 := by have := rNum_shorter (by decide) hn; omega
    have hnm : (n : Int) ≤ 9223372036854775807 := hmr.2
    have HP := Lib.hid (show rList (rInt 59) r = (rMany (rInt 59) n q).bind fun x => (rClose 93 x.2).map fun r => (x.1, r) by unfold rList; rw [hn]; rfl)
    have HN := Lib.hid hn
    clear hn hmr hm0 hf
    obtain ⟨i0, hi, hz0, hz1, hz2⟩ := info_parts infoInt
    go_enter Tryd.func40, Tryd.ntmps40
    go_wp2_with fail
    refine (number_ok 91 b r false n q HN.out hlen _ hg h).mono ?_
    rintro v w1 ⟨rfl, h1, ho1⟩
    go_wp2_with fail
    go_loopw [6, 13] (fun s i wr => ∃ (k : Nat) (l : List Int) (q' : List UInt8), k ≤ n ∧ i = .int .i64 k ∧ Hid (rMany (rInt 59) k q = some (l, q')) ∧ wr.ownsRow w.heap.size 3 1 s l.length (ints l) ∧ Rd wr b q' false ∧ Only b w wr) (fun _ i _ => n - (intOf i).toNat)
    case atStart => exact ⟨0, [], q, Nat.zero_le _, rfl, Lib.hid rfl, World.ownsRow_nil _ _ _ _, h1, ho1⟩
    case round =>
      obtain ⟨k, l, q', hk, rfl, HM, hown, hr, hor⟩ := hrel
      have hsh := rMany_short (p := rInt 59) (fun s a r h => rInt_shorter (by decide) h) k q l q' HM.out
      obtain ⟨hll, hlq⟩ := hsh
      have HL := Lib.hid hll
      clear hll
      have hgr : Good wr := hg.only hor hb6
      have hq'l : q'.length < 4294967281 := by omega
      have hsz : w.heap.size ≤ wr.heap.size := hor.size
      by_cases hlt : k < n
      · cases hx : rInt 59 q' with
        | none =>
          have hno : rMany (rInt 59) n q = none := rMany_none (k := k + 1) (by simp only [rMany]; rw [HM.out]; simp [hx]) (by omega)
          have HX := Lib.hid hx
          have HO := Lib.hid hno
          clear hx hno
          go_wp2_with fail
          refine (rIntM_no b q' false HX.out hq'l _ hgr hr).mono ?_
          rintro v w2 ⟨rfl, h2, ho2⟩
          have k1 := h2.c1
          go_wp2_with fail
          go_ret
          exact ⟨hor.trans ho2, Or.inr ⟨by rw [HP.out, HO.out]; rfl, rfl, h2⟩⟩
        | some xq =>
          obtain ⟨x, q2⟩ := xq
          have hmo : rMany (rInt 59) (k + 1) q = some (l ++ [x], q2) := by simp only [rMany]; rw [HM.out]; simp [hx]
          have HX := Lib.hid hx
          have HO := Lib.hid hmo
          clear hx hmo
          go_wp2_with fail
          refine (rIntM_ok b q' false x q2 HX.out hq'l _ hgr hr).mono ?_
          rintro v w2 ⟨rfl, h2, ho2⟩
          have hown2 := owned_only hown ho2 hbw
          have k1 := h2.c1
          have hll : l.length = k := HL.out
          have hsz2 : w.heap.size ≤ w2.heap.size := Nat.le_trans hsz ho2.size
          have hl47 : l.length ≤ 4294967281 := by omega
          clear hll hown
          go_wp2_with (at_builtin; refine wpList_append_own _ rfl _ _ 40 rfl w.heap.size 3 i0 (.int .i64 0) 1 8 Tryd.underlying40 hi hz0 hz1 hz2 rfl (by decide) _ _ _ rfl (hown2.alloc _) ⟨w2.heap.size, 0, none⟩ 1 1 [.int .i64 x] rfl rfl ?c1 ?c2 ?c3 ?c4 ?c5 ?_)
          case c1 =>
            intro j u hj
            match j, hj with
            | 0, hj => simp at hj; subst hj; simp [Addr.add]
          case c2 => intro u hu; simp at hu; subst hu; rfl
          case c3 => unfold maxLen; omega
          case c4 => omega
          case c5 => simp; omega
          intro v' w3 hown3 hgrow _
          have h3 := rd_grown h2 hown2 hbw hgrow
          have ho3 := only_grown (hor.trans ho2) hown2 hgrow
          go_wp2_with fail
          go_roundw
          case rel => exact ⟨k + 1, l ++ [x], q2, by omega, by go_num, HO, by simpa [ints] using hown3, h3, ho3⟩
          case measure => simp [intOf]; omega
      · obtain rfl : k = n := by omega
        have k0 := hr.c0
        have z0 := hr.z0
        cases hc : rClose 93 q' with
        | none =>
          have HCl := Lib.hid hc
          go_wp2_with fail
          refine (cutPrefix_c 93 q' _).mono ?_
          rw [hc]
          clear hc
          rintro v w2 ⟨rfl, rfl⟩
          go_wp2_with fail
          refine (fail_c b q' false _ hr).mono ?_
          rintro v w3 ⟨rfl, h3, ho3⟩
          go_wp2_with fail
          go_ret
          exact ⟨hor.trans ho3, Or.inr ⟨by rw [HP.out, HM.out]; simp [HCl.out], rfl, h3⟩⟩
        | some q3 =>
          have HCl := Lib.hid hc
          go_wp2_with fail
          refine (cutPrefix_c 93 q' _).mono ?_
          rw [hc]
          clear hc
          rintro v w2 ⟨rfl, rfl⟩
          go_wp2_with fail
          go_ret
          refine ⟨hor.trans (Only.set b 0 _ _), Or.inl ⟨l, q3, _, by rw [HP.out, HM.out]; simp [HCl.out], rfl, ?_, hr.set0 q3⟩⟩
          exact owned_only hown (Only.set b 0 _ _) hbw
theorem rNumsM_c (b : Nat) (r : List UInt8) (f : Bool) (hf : f = true → r = []) (hlen : r.length < 4294967281) (w : World) (hg : Good w) (hb6 : 4 ≤ b) (h : Rd w b r f) :
    Calls Tryd.prog 19 #[.pointer (some ⟨b, 0, none⟩)] w (ListPost (rInt 59) ints 3 r b w) := by
  have HC := Lib.hid (elementsInt_c b r f hf hlen w hg hb6 h)
  clear hf
  go_enter Tryd.func19, Tryd.ntmps19
  go_wp2_with fail
  refine HC.out.mono ?_
  rintro v w1 hp
  obtain ⟨vv, rfl⟩ : ∃ vv, v = .returned vv := by
    rcases hp.2 with ⟨_, _, vv, _, he, _⟩ | ⟨_, he, _⟩
    · exact ⟨vv, he⟩
    · exact ⟨_, he⟩
  go_wp2_with fail
  go_ret
  exact hp

end Go.Proofs.YtlfjbiiacnikhaaDoor
