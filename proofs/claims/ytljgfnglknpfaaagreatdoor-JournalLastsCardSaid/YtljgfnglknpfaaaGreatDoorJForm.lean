/-
  journal: the form of a list, the list that has a form, the numbers that a cell holds.
-/
import Derived.Test.YtljgfnglknpfaaaGreatDoorJBase
namespace Go.Proofs.YtljgfnglknpfaaaGreatDoor
set_option maxRecDepth 100000
open Go Go.RowKit Go.Sort Wire Dk

theorem builderLen_c (B b : Nat) (l : List UInt8) (w0 w : World) (h : Built B b l w0 w) : Calls Tryz.prog 45 #[.pointer (some ⟨b, 0, none⟩)] w fun e w' => e = .returned (.int .i64 (l.length : Int)) ∧ w' = w := by
  refine (Tryz.Builder_Len B b (Lib.byteCells l) w h.1).mono ?_
  rintro e w' ⟨rfl, hw⟩
  refine ⟨?_, by first | exact hw | exact hw.symm⟩
  rw [Lib.byteCells_length]
theorem eText_le (x : List UInt8) (hx : x.length ≤ 1000000000) : (eText x).length ≤ x.length + 22 := by
  have := itoa_len (x.length : Int) (by unfold InR; omega)
  unfold eText
  simp only [List.length_append, List.length_singleton]
  omega

set_option maxHeartbeats 1000000 in
theorem jform_c (s : List (List UInt8)) (a : Option Addr) (c room : Nat) (hroom : room ≤ 1048576) (hx : ∀ x ∈ s, x.length ≤ 1000000000) (hl : s.length ≤ 9223372036854775807) (w : World) (hg : Good w) (hv : SrcV w 1 (.slice a s.length c) s.length (strsV s)) :
    Calls Tryz.prog 28 #[.slice a s.length c, .int .i64 (room : Int)] w fun e w' => e = .returned (if (Jn.form s).length ≤ room then .tuple #[.string ⟨(Jn.form s).toArray⟩, .bool true] else .tuple #[.string ⟨#[]⟩, .bool false]) ∧ Below w.heap.size w w' := by
  have hst := Lib.fresh_isBuilder 88 5 w
  have hbA : Built w.heap.size w.heap.size [] w (w.alloc (.cells #[.pointer none, .slice none 0 0] 88)) := ⟨hst, (Below.refl _ _).alloc (Nat.le_refl _) _⟩
  have HV := Lib.hid hv
  clear hst hv
  go_enter Tryz.func28, Tryz.ntmps28
  go_wp2_with fail
  go_loopw [11] (fun i wr => ∃ k : Nat, k ≤ s.length ∧ i = .int .i64 k ∧ (Jn.form (s.take k)).length ≤ room ∧ Built w.heap.size w.heap.size (Jn.form (s.take k)) w wr ∧ w.heap.size ≤ wr.heap.size) (fun i _ => s.length - (intOf i).toNat)
  case atStart => exact ⟨0, Nat.zero_le _, rfl, by simp [Jn.form], by simpa [Jn.form] using hbA, by simp⟩
  case round =>
    obtain ⟨k, hk, rfl, hle, hBk, hzk⟩ := hrel
    clear hbA
    by_cases hlt : k < s.length
    · obtain ⟨x, hxk⟩ : ∃ x, s[k]? = some x := ⟨s[k], List.getElem?_eq_getElem hlt⟩
      obtain ⟨g, off, rfl, hc⟩ := SrcV.str HV.out hxk
      have hcr : wr.cell? ⟨g, off + k, none⟩ = some (.string ⟨x.toArray⟩) := by rw [hBk.2.cell (lt_of_cell hc)]; exact hc
      have hxl := hx x (List.mem_of_getElem? hxk)
      have hsu : Jn.form (s.take (k + 1)) = Jn.form (s.take k) ++ eText x := flatMap_take_succ eText s k x hxk
      have hgr : Good wr := hg.on hBk.2
      have hxe := eText_le x hxl
      have hmono : (Jn.form (s.take (k + 1))).length ≤ (Jn.form s).length := flatMap_take_le eText s (k + 1)
      have HS := Lib.hid hsu
      clear hsu hxk hc HV hx
      go_wp2_with fail
      refine (wText_c x (by omega) _ hgr).mono ?_
      rintro e w4 ⟨rfl, hb4⟩
      have hB4 := hBk.on hb4 hzk
      have hz4 := Nat.le_trans hzk hb4.size
      clear hb4
      go_wp2_with fail
      refine (writeString_c _ _ _ _ _ _ hB4 (by omega) hz4).mono ?_
      rintro e w5 ⟨⟨n5, rfl⟩, hB5, hz5⟩
      rw [← HS.out] at hB5
      go_wp2_with fail
      refine (builderLen_c _ _ _ _ _ hB5).mono ?_
      rintro e w6 ⟨rfl, hw6⟩
      rw [hw6]
      clear hw6 hB4 hz4
      obtain ⟨L, hL⟩ : ∃ L, L = (Jn.form (s.take (k + 1))).length := ⟨_, rfl⟩
      rw [← hL] at hmono ⊢
      by_cases hfit : L ≤ room
      · have hgt : ¬ (room : Int) < (L : Int) := by omega
        have HL := Lib.hid hL
        clear hL
        go_wp2_with fail
        go_roundw
        case rel => exact ⟨k + 1, by omega, by go_num, by rw [← HL.out]; exact hfit, hB5, hz5⟩
        case measure => simp [intOf]; omega
      · have hgt : (room : Int) < (L : Int) := by omega
        have hno : ¬ (Jn.form s).length ≤ room := by omega
        clear hL
        go_wp2_with fail
        go_ret2
        (try rw [if_neg hno])
        exact ⟨rfl, hB5.2⟩
    · obtain rfl : k = s.length := by omega
      rw [List.take_length] at hle hBk
      go_wp2_with fail
      refine (builderString_c _ _ _ _ _ hBk hzk).mono ?_
      rintro e w7 ⟨rfl, hb7⟩
      go_wp2_with fail
      go_ret2
      (try rw [if_pos hle])
      exact ⟨rfl, hb7⟩

theorem own_low {w : World} {B B' : Nat} {e : TypeId} {k : Nat} {v : Value} {n : Nat} {xs : List Value} (h : w.ownsRow B e k v n xs) (hB : B' ≤ B) : w.ownsRow B' e k v n xs := by
  refine ⟨h.1, ?_⟩
  rcases h.2 with h1 | ⟨g, cap, cur, h1, h2, h3⟩
  · exact Or.inl h1
  · exact Or.inr ⟨g, cap, cur, h1, Nat.le_trans hB h2, h3⟩
def slen : Value → Nat
  | .slice _ n _ => n
  | _ => 0
theorem listOf_more {n : Nat} {s r : List UInt8} {l : List (List UInt8)} (h : rMany rText n s = some (l, r)) (hr : r ≠ []) : Jn.listOf n s = none := by rw [Jn.listOf_end h, if_neg hr]
theorem listOf_all {n : Nat} {s : List UInt8} {l : List (List UInt8)} (h : rMany rText n s = some (l, [])) : Jn.listOf n s = some l := by rw [Jn.listOf_end h, if_pos rfl]

/-- What parse returns. -/
def ParsePost (n : Nat) (s : List UInt8) (w : World) (e : Ending) (w' : World) : Prop :=
  Below w.heap.size w w' ∧ ((∃ l v, Jn.listOf n s = some l ∧ e = .returned (.tuple #[v, .bool true]) ∧ w'.ownsRow w.heap.size 9 1 v l.length (strsV l)) ∨ (Jn.listOf n s = none ∧ ∃ v, e = .returned (.tuple #[v, .bool false])))

set_option maxHeartbeats 1000000 in
theorem jparse_c (s : List UInt8) (n : Nat) (hs : s.length ≤ 16777216) (hn : (n : Int) ≤ 9223372036854775807) (w : World) (hg : Good w) :
    Calls Tryz.prog 26 #[.string ⟨s.toArray⟩, .int .i64 (n : Int)] w (ParsePost n s w) := by
  obtain ⟨i0, hi, hz0, hz1, hz2⟩ := info_parts infoStr5
  have hbig : 5 ≤ w.heap.size := hg.big
  go_enter Tryz.func26, Tryz.ntmps26
  go_wp2_with fail
  go_step3
  go_wp2_with fail
  refine (rOpen_c s _).mono ?_
  rintro e w1 ⟨rfl, h1, hb1⟩
  go_wp2_with fail
  go_step3
  go_wp2_with fail
  go_loopw [7] (fun v wr => ∃ (l : List (List UInt8)) (r : List UInt8) (fl : Bool), wr.ownsRow (w.heap.size + 1) 9 1 v l.length (strsV l) ∧ Rd wr w.heap.size r fl ∧ Below w.heap.size w wr ∧ l.length + r.length ≤ s.length + 1 ∧ l.length ≤ n ∧
    Hid ((fl = false → rMany rText l.length s = some (l, r)) ∧ (fl = true → r = [] ∧ Jn.listOf n s = none))) (fun v _ => s.length + 2 - slen v)
  case atStart => exact ⟨[], s, false, World.ownsRow_nil _ _ _ _, h1, hb1, by simp, Nat.zero_le _, fun _ => rfl, fun h => by cases h⟩
  case round =>
    obtain ⟨l, r, fl, hown, hr, hbr, hlr, hln, HM⟩ := hrel
    clear h1 hb1
    have hgr : Good wr := hg.on hbr
    obtain ⟨la, lc, rfl, _, _, _⟩ := own_shape (own_base hown)
    by_cases hre : r = []
    · subst hre
      go_wp2_with fail
      refine (rLeft_c _ _ _ _ hr).mono ?_
      rintro e w2 ⟨rfl, rfl⟩
      go_wp2_with fail
      refine (rDone_c _ _ _ _ hr).mono ?_
      rintro e w2 ⟨rfl, rfl⟩
      cases fl with
      | true =>
        obtain ⟨_, hno⟩ := HM.out.2 rfl
        have HN := Lib.hid hno
        clear hno
        go_wp2_with fail
        go_ret2
        exact ⟨hbr, Or.inr ⟨HN.out, _, rfl⟩⟩
      | false =>
        have hm := HM.out.1 rfl
        by_cases hll : l.length = n
        · have HN := Lib.hid (show Jn.listOf n s = some l from listOf_all (by rw [← hll]; exact hm))
          have hbq : ((l.length : Int) == (n : Int)) = true := by simp [hll]
          clear hm hll
          go_wp2_with fail
          go_ret2
          exact ⟨hbr, Or.inl ⟨l, _, HN.out, rfl, own_low hown (Nat.le_succ _)⟩⟩
        · have HN := Lib.hid (show Jn.listOf n s = none from Jn.listOf_stop hm (by omega))
          have hbq : ((l.length : Int) == (n : Int)) = false := by simp; omega
          clear hm hll
          go_wp2_with fail
          go_ret2
          exact ⟨hbr, Or.inr ⟨HN.out, _, rfl⟩⟩
    · obtain rfl : fl = false := by
        cases fl with
        | false => rfl
        | true => exact absurd (HM.out.2 rfl).1 hre
      have hm := HM.out.1 rfl
      have hrl : 0 < r.length := List.length_pos_iff.2 hre
      have hr0 : ((r.length : Int) == 0) = false := by simp; omega
      by_cases hll : l.length = n
      · have HN := Lib.hid (show Jn.listOf n s = none from listOf_more (by rw [← hll]; exact hm) hre)
        have hbq : ((l.length : Int) == (n : Int)) = true := by simp [hll]
        clear hm hll hre
        go_wp2_with fail
        refine (rLeft_c _ _ _ _ hr).mono ?_
        rintro e w2 ⟨rfl, rfl⟩
        go_wp2_with fail
        go_ret2
        exact ⟨hbr, Or.inr ⟨HN.out, _, rfl⟩⟩
      · have hbq : ((l.length : Int) == (n : Int)) = false := by simp; omega
        have hlt : l.length < n := by omega
        have H0 := Lib.hid hm
        clear hm hll hre
        have hr4 : r.length < 4294967281 := by omega
        have hsz : w.heap.size ≤ wr.heap.size := hbr.size
        obtain ⟨x, r', fl', hx⟩ : ∃ (x : List UInt8) (r' : List UInt8) (fl' : Bool), (∀ w1, Good w1 → Rd w1 w.heap.size r false → Calls Tryz.prog 43 #[.pointer (some ⟨w.heap.size, 0, none⟩)] w1 fun v w' => v = .returned (.string ⟨x.toArray⟩) ∧ Rd w' w.heap.size r' fl' ∧ Only w.heap.size w1 w') ∧ r'.length < r.length ∧ ((fl' = false → rMany rText (l.length + 1) s = some (l ++ [x], r')) ∧ (fl' = true → r' = [] ∧ Jn.listOf n s = none)) := by
          cases hx : rText r with
          | some p =>
            obtain ⟨x, r'⟩ := p
            exact ⟨x, r', false, fun w1 g1 h1 => rTextM_ok _ _ _ x r' hx hr4 w1 g1 h1, rText_shorter hx, (fun _ => Jn.rMany_step H0.out hx), (fun h => by cases h)⟩
          | none => exact ⟨[], [], true, fun w1 g1 h1 => rTextM_no _ _ _ hx hr4 w1 g1 h1, hrl, (fun h => by cases h), (fun _ => ⟨rfl, Jn.listOf_fail H0.out hx hlt⟩)⟩
        obtain ⟨hx1, hx2, hx3⟩ := hx
        have Q := Lib.hid hx1
        have HX := Lib.hid hx3
        clear hx1 hx3 H0
        go_wp2_with fail
        refine (rLeft_c _ _ _ _ hr).mono ?_
        rintro e w2 ⟨rfl, rfl⟩
        go_wp2_with fail
        refine (Q.out _ hgr hr).mono ?_
        rintro e w2 ⟨rfl, h2, ho2⟩
        have hown2 := owned_only hown ho2 (Nat.lt_succ_self _)
        have hb2 : Below w.heap.size w w2 := hbr.trans (ho2.below (Nat.le_refl _) hsz)
        have hsz2 : w.heap.size + 1 ≤ w2.heap.size := h2.lt
        have hl47 : l.length ≤ 16777217 := by omega
        clear hown hr
        go_wp2_with (at_builtin; refine wpList_append_own _ rfl _ _ 32 rfl (w.heap.size + 1) 9 i0 (.string ⟨#[]⟩) 1 16 Tryz.underlying32 hi hz0 hz1 hz2 rfl (by decide) _ _ _ rfl (hown2.alloc _) ⟨w2.heap.size, 0, none⟩ 1 1 [.string ⟨x.toArray⟩] rfl rfl ?c1 ?c2 ?c3 ?c4 ?c5 ?_)
        case c1 =>
          intro j u hj
          match j, hj with
          | 0, hj => simp at hj; subst hj; simp [Addr.add]
        case c2 => intro u hu; simp at hu; subst hu; rfl
        case c3 => unfold maxLen; omega
        case c4 => omega
        case c5 => simp; omega
        intro v' w3 hown3 hgrow _
        have h3 := rd_grown h2 hown2 (Nat.lt_succ_self _) hgrow
        have hb3 : Below w.heap.size w w3 := (hb2.alloc (by omega) _).grown hgrow (by simp; omega) (fun k hk => by have := (hown2.lt k hk).1; omega)
        go_wp2_with fail
        go_roundw
        case rel => exact ⟨l ++ [x], r', fl', by simpa [strsV] using hown3, h3, hb3, by simp; omega, by simp; omega, Lib.hid (by simpa using HX.out)⟩
        case measure =>
          obtain ⟨a3, c3, e3, _⟩ := own_shape (own_base hown3)
          rw [e3]
          simp only [slen]
          omega

/-- What noted returns. -/
def NotedPost (c : Ck.C) (w : World) (e : Ending) (w' : World) : Prop :=
  Below w.heap.size w w' ∧ ((c.slot = 0 ∧ e = .returned (.tuple #[.int .i64 0, .int .i64 0, .bool true])) ∨
    (c.slot ≠ 0 ∧ ∃ a b : Nat, (a : Int) ≤ 9223372036854775807 ∧ (b : Int) ≤ 9223372036854775807 ∧ Jn.nums c.val = some (a, b) ∧ e = .returned (.tuple #[.int .i64 (a : Int), .int .i64 (b : Int), .bool true])) ∨
    (c.slot ≠ 0 ∧ Jn.nums c.val = none ∧ ∃ a b : Int, e = .returned (.tuple #[.int .i64 a, .int .i64 b, .bool false])))
theorem num_nat {s r : List UInt8} {a : Int} (h : rNum 59 s = some (a, r)) : ∃ n : Nat, a = (n : Int) ∧ (n : Int) ≤ 9223372036854775807 := by
  obtain ⟨h1, h2, _⟩ := (rNum_iff 59 (by decide) _ _ _).1 h
  exact ⟨a.toNat, by omega, by have := h2.2; omega⟩

set_option maxHeartbeats 1000000 in
theorem jnoted_c (b d : Nat) (f : Int) (c : Ck.C) (hv : c.val.length ≤ 65536) (w : World) (hg : Good w) (h : CellAt w b d f c) : Calls Tryz.prog 24 #[.pointer (some ⟨b, 0, none⟩)] w (NotedPost c w) := by
  have q := get_c b d f c w h
  by_cases h0 : c.slot = 0
  · rw [h0] at q
    have Q := Lib.hid q
    clear q h
    go_enter Tryz.func24, Tryz.ntmps24
    go_wp2_with (go_at_call 37; refine Q.out.mono ?_; rintro e w1 ⟨rfl, hb1⟩)
    go_ret3
    exact ⟨hb1, Or.inl ⟨h0, rfl⟩⟩
  · have hb0 : (c.slot != 0) = true := by simpa using h0
    rw [hb0] at q
    have Q := Lib.hid q
    clear q h hb0
    have hv4 : c.val.length < 4294967281 := by omega
    cases h1 : rNum 59 c.val with
    | none =>
      have HN := Lib.hid (Jn.nums_no1 h1)
      have H1 := Lib.hid h1
      have HE := Lib.hid (show rNum 59 [] = none from rfl)
      clear h1
      go_enter Tryz.func24, Tryz.ntmps24
      go_wp2_with (go_at_call 37; refine Q.out.mono ?_; rintro e w1 ⟨rfl, hb1⟩)
      refine (rOpen_c c.val _).mono ?_
      rintro e w2 ⟨rfl, h2, hb2⟩
      have hg2 := (hg.on hb1).on hb2
      go_wp2_with fail
      refine (rNumM_no _ _ _ H1.out hv4 _ hg2 h2).mono ?_
      rintro e w3 ⟨rfl, h3, ho3⟩
      have hbig : 5 ≤ w1.heap.size := (hg.on hb1).big
      have hg3 : Good w3 := hg2.only ho3 hbig
      go_wp2_with fail
      refine (rNumM_no _ _ _ HE.out (by simp) _ hg3 h3).mono ?_
      rintro e w4 ⟨rfl, h4, ho4⟩
      go_wp2_with fail
      refine (rDone_c _ _ _ _ h4).mono ?_
      rintro e w5 ⟨rfl, rfl⟩
      go_wp2_with fail
      go_ret3
      exact ⟨hb1.trans ((hb2.trans ((ho3.trans ho4).below (Nat.le_refl _) hb2.size)).mono hb1.size), Or.inr (Or.inr ⟨h0, HN.out, _, _, rfl⟩)⟩
    | some p =>
      obtain ⟨a, r⟩ := p
      have hr4 : r.length < 4294967281 := by have := rNum_shorter (by decide) h1; omega
      obtain ⟨n, rfl, hn⟩ := num_nat h1
      cases h2 : rNum 59 r with
      | none =>
        have HN := Lib.hid (Jn.nums_no2 h1 h2)
        have H1 := Lib.hid h1
        have H2 := Lib.hid h2
        clear h1 h2
        go_enter Tryz.func24, Tryz.ntmps24
        go_wp2_with (go_at_call 37; refine Q.out.mono ?_; rintro e w1 ⟨rfl, hb1⟩)
        refine (rOpen_c c.val _).mono ?_
        rintro e w2 ⟨rfl, h2, hb2⟩
        have hg2 := (hg.on hb1).on hb2
        go_wp2_with fail
        refine (rNumM_ok _ _ _ _ _ H1.out hv4 _ hg2 h2).mono ?_
        rintro e w3 ⟨rfl, h3, ho3⟩
        have hbig : 5 ≤ w1.heap.size := (hg.on hb1).big
        have hg3 : Good w3 := hg2.only ho3 hbig
        go_wp2_with fail
        refine (rNumM_no _ _ _ H2.out hr4 _ hg3 h3).mono ?_
        rintro e w4 ⟨rfl, h4, ho4⟩
        go_wp2_with fail
        refine (rDone_c _ _ _ _ h4).mono ?_
        rintro e w5 ⟨rfl, rfl⟩
        go_wp2_with fail
        go_ret3
        exact ⟨hb1.trans ((hb2.trans ((ho3.trans ho4).below (Nat.le_refl _) hb2.size)).mono hb1.size), Or.inr (Or.inr ⟨h0, HN.out, _, _, rfl⟩)⟩
      | some p =>
        obtain ⟨a2, q⟩ := p
        obtain ⟨m, rfl, hm⟩ := num_nat h2
        have hok := Jn.nums_ok h1 h2
        rw [Int.toNat_natCast, Int.toNat_natCast] at hok
        have HN := Lib.hid hok
        have H1 := Lib.hid h1
        have H2 := Lib.hid h2
        clear h1 h2 hok
        go_enter Tryz.func24, Tryz.ntmps24
        go_wp2_with (go_at_call 37; refine Q.out.mono ?_; rintro e w1 ⟨rfl, hb1⟩)
        refine (rOpen_c c.val _).mono ?_
        rintro e w2 ⟨rfl, h2, hb2⟩
        have hg2 := (hg.on hb1).on hb2
        go_wp2_with fail
        refine (rNumM_ok _ _ _ _ _ H1.out hv4 _ hg2 h2).mono ?_
        rintro e w3 ⟨rfl, h3, ho3⟩
        have hbig : 5 ≤ w1.heap.size := (hg.on hb1).big
        have hg3 : Good w3 := hg2.only ho3 hbig
        go_wp2_with fail
        refine (rNumM_ok _ _ _ _ _ H2.out hr4 _ hg3 h3).mono ?_
        rintro e w4 ⟨rfl, h4, ho4⟩
        go_wp2_with fail
        refine (rDone_c _ _ _ _ h4).mono ?_
        rintro e w5 ⟨rfl, rfl⟩
        have hB : RowKit.Below w.heap.size w w4 := hb1.trans ((hb2.trans ((ho3.trans ho4).below (Nat.le_refl _) hb2.size)).mono hb1.size)
        by_cases hq : q = []
        · subst hq
          go_wp2_with fail
          go_ret3
          exact ⟨hB, Or.inr (Or.inl ⟨h0, n, m, hn, hm, by rw [HN.out]; simp, rfl⟩)⟩
        · have hqe : q.isEmpty = false := by simp [hq]
          have HQ := Lib.hid hq
          clear hq
          go_wp2_with fail
          go_ret3
          exact ⟨hB, Or.inr (Or.inr ⟨h0, by rw [HN.out]; simp [HQ.out], _, _, rfl⟩)⟩
end Go.Proofs.YtljgfnglknpfaaaGreatDoor
