/-
  Unquote of package text, and what it calls: it returns what chapter 2 says; of what was there nothing has turned.
-/
import Derived.Test.YthibikdnoogfoaaGreatDoorTHex
import Derived.Test.YthibikdnoogfoaaGreatDoorTQuote
import Derived.Deep.LoopGhost
namespace Go.Proofs.YthibikdnoogfoaaGreatDoor
open Go Go.RowKit Go.Sort Wire Txt

set_option maxHeartbeats 1000000 in
set_option maxRecDepth 100000 in
theorem parseHex_c (a b : UInt8) (w : World) (hg : Good w) :
    Calls Tryz.prog 119 #[.string ⟨#[a, b]⟩, .int .i64 16, .int .i64 8] w fun e w' => ∃ v, e = .returned (.tuple #[.int .u64 (hexp a b), v]) ∧ hexp a b < 256 ∧ Below w.heap.size w w' := by
  go_enter Tryz.func119, Tryz.ntmps119
  go_wp2_with fail
  refine (iParse_c a b _).mono ?_
  rintro e w1 ⟨⟨rfl, hlt⟩ | ⟨rfl, h0⟩, hb1⟩
  · go_wp2_with fail
    go_ret2
    exact ⟨_, rfl, hlt, hb1⟩
  · have H0 := Lib.hid h0
    clear h0
    obtain ⟨tp, p, hv⟩ := (hg.on hb1).syn
    have hcell : w1.cell? ⟨1, 0, none⟩ = some (.iface tp p) := by
      have h0 := World.var?_cell g_syn hv 0
      simpa using h0
    have HC := Lib.hid hcell
    clear hcell hv
    go_wp2_with fail
    refine (Tryz.strconv_toError_syntax ⟨#[80, 97, 114, 115, 101, 85, 105, 110, 116]⟩ ⟨#[a, b]⟩ 16 8 (.iface tp p) _ (show (2 : Nat) ≤ 281474976710656 by omega) HC.out (Or.inr ⟨tp, p, rfl⟩)).mono ?_
    rintro e w2 ⟨N, rfl, _, _, hb2⟩
    go_wp2_with fail
    go_ret2
    exact ⟨_, by rw [H0.out]; rfl, by rw [H0.out]; omega, chain hb1 hb2⟩

set_option maxHeartbeats 1000000 in
set_option maxRecDepth 100000 in
theorem escaped_c (d : UInt8) (r : List UInt8) (hl : (d :: r).length ≤ 1000000000) (w : World) (hg : Good w) :
    Calls Tryz.prog 108 #[.string ⟨(d :: r).toArray⟩] w fun e w' => e = .returned (.tuple #[.int .u8 (esc (d :: r)).1.toNat, .int .i64 (esc (d :: r)).2]) ∧ Below w.heap.size w w' := by
  have e0 := at0 d r
  simp only [List.length_cons] at hl
  by_cases h1 : d.toNat = 110
  · have b1 : ((d.toNat : Int) == 110) = true := by rw [h1]; rfl
    have HE := Lib.hid (show esc (d :: r) = (10, 1) by simp [esc, byte_of d 110 h1])
    clear h1
    go_enter Tryz.func108, Tryz.ntmps108
    go_wp2_with fail
    go_ret2
    exact ⟨by rw [HE.out]; rfl, Below.refl _ _⟩
  · have b1 : ((d.toNat : Int) == 110) = false := beq_no (by omega)
    have n1 : d ≠ 110 := by rintro rfl; exact h1 rfl
    by_cases h2 : d.toNat = 120
    · have b2 : ((d.toNat : Int) == 120) = true := by rw [h2]; rfl
      have hd := byte_of d 120 h2
      match r, hl, e0 with
      | [], hl, e0 =>
        have HE := Lib.hid (show esc [d] = (120, 1) by rw [hd]; rfl)
        clear h1 h2 hd n1
        go_enter Tryz.func108, Tryz.ntmps108
        go_wp2_with fail
        go_ret2
        exact ⟨by rw [HE.out]; rfl, Below.refl _ _⟩
      | [a], hl, e0 =>
        have HE := Lib.hid (show esc [d, a] = (120, 1) by rw [hd]; rfl)
        clear h1 h2 hd n1
        go_enter Tryz.func108, Tryz.ntmps108
        go_wp2_with fail
        go_ret2
        exact ⟨by rw [HE.out]; rfl, Below.refl _ _⟩
      | a :: b :: q, hl, e0 =>
        have HE := Lib.hid (show esc (d :: a :: b :: q) = (UInt8.ofNat (hexp a b), 3) by rw [hd]; rfl)
        have hsl := slice_mid (d :: a :: b :: q) 1 3 (by omega) (by omega) (by simp only [List.length_cons]; omega)
        have hq : ((d :: a :: b :: q).take (3 : Int).toNat).drop (1 : Int).toNat = [a, b] := rfl
        rw [hq] at hsl
        simp only [List.length_cons] at hl
        clear h1 h2 hd n1 hq
        go_enter Tryz.func108, Tryz.ntmps108
        go_wp2_with fail
        refine (parseHex_c a b _ hg).mono ?_
        rintro e w1 ⟨v, rfl, hlt, hb1⟩
        go_wp2_with fail
        have hu : ((hexp a b : Nat) : Int) = ((UInt8.ofNat (hexp a b)).toNat : Int) := by rw [UInt8.toNat_ofNat']; omega
        go_ret2
        exact ⟨(congrArg (fun m : Int => Ending.returned (.tuple #[.int .u8 m, .int .i64 3])) hu).trans (by rw [HE.out]; rfl), hb1⟩
    · have b2 : ((d.toNat : Int) == 120) = false := beq_no (by omega)
      have HE := Lib.hid (show esc (d :: r) = (d, 1) by
        have n2 : d ≠ 120 := by rintro rfl; exact h2 rfl
        simp [esc, n1, n2])
      clear h1 h2 n1
      go_enter Tryz.func108, Tryz.ntmps108
      go_wp2_with fail
      go_ret2
      exact ⟨by rw [HE.out]; rfl, Below.refl _ _⟩

set_option maxHeartbeats 1000000 in
set_option maxRecDepth 100000 in
theorem unescape_c (s : List UInt8) (hs : s.length ≤ 100000000) (w : World) (hg : Good w) :
    Calls Tryz.prog 90 #[.string ⟨s.toArray⟩] w fun e w' => e = .returned (.string ⟨(unesc s).toArray⟩) ∧ Below w.heap.size w w' := by
  have hst := Lib.fresh_isBuilder 47 5 w
  have hbA : Built w.heap.size w.heap.size [] w (w.alloc (.cells #[.pointer none, .slice none 0 0] 47)) := ⟨hst, (Below.refl _ _).alloc (Nat.le_refl _) _⟩
  clear hst
  go_enter Tryz.func90, Tryz.ntmps90
  go_wp2_with fail
  go_loopg [0] s.length (fun g v wr => ∃ (out q : List UInt8), g = q.length ∧ out.length + q.length ≤ s.length ∧ v = .string ⟨q.toArray⟩ ∧ Hid (out ++ unesc q = unesc s) ∧ Built w.heap.size w.heap.size out w wr ∧ w.heap.size ≤ wr.heap.size)
  case atStart => exact ⟨[], s, rfl, by simp, rfl, Lib.hid (by simp), hbA, by simp⟩
  case round =>
    obtain ⟨out, q, rfl, hlen, rfl, HQ, hB, hz⟩ := hrel
    clear hbA
    have hgr : Good wr := hg.on hB.2
    cases hc : cutAt 92 q with
    | none =>
      have HU := Lib.hid (show out ++ q = unesc s by rw [← HQ.out, unesc_none hc])
      have HC := Lib.hid hc
      clear hc
      go_wp2_with fail
      refine (cut_miss 92 q HC.out _ (by omega) hgr).mono ?_
      rintro e w1 ⟨rfl, hb1⟩
      have hB1 := hB.on hb1 hz
      have hz1 := Nat.le_trans hz hb1.size
      go_wp2_with fail
      refine (writeString_c _ _ _ q _ _ hB1 (by omega) hz1).mono ?_
      rintro e w2 ⟨⟨n2, rfl⟩, hB2, hz2⟩
      go_wp2_with fail
      refine (builderString_c _ _ _ _ _ hB2 hz2).mono ?_
      rintro e w3 ⟨rfl, hb3⟩
      go_wp2_with fail
      go_ret
      exact ⟨ret_str (by rw [HU.out]), hb3⟩
    | some p =>
      obtain ⟨b, a⟩ := p
      have hsp := (cutAt_some hc).1
      have hql : q.length = b.length + 1 + a.length := by rw [hsp]; simp; omega
      have hU := unesc_some hc
      have HC := Lib.hid hc
      have hle : out.length + b.length + 1 + a.length ≤ s.length := by omega
      have hqb : q.length < 4294967281 := by omega
      have hqm : b.length + 1 + a.length ≤ q.length := by omega
      clear hc hsp hql
      cases a with
      | nil =>
        have HU := Lib.hid (show out ++ b = unesc s by rw [← HQ.out, hU, unesc_last, List.append_nil])
        clear hU
        go_wp2_with fail
        refine (cut_hit 92 q b [] HC.out _ hqb hgr).mono ?_
        rintro e w1 ⟨rfl, hb1⟩
        have hB1 := hB.on hb1 hz
        have hz1 := Nat.le_trans hz hb1.size
        go_wp2_with fail
        refine (writeString_c _ _ _ b _ _ hB1 (by omega) hz1).mono ?_
        rintro e w2 ⟨⟨n2, rfl⟩, hB2, hz2⟩
        go_wp2_with fail
        refine (builderString_c _ _ _ _ _ hB2 hz2).mono ?_
        rintro e w3 ⟨rfl, hb3⟩
        go_wp2_with fail
        go_ret
        exact ⟨ret_str (by rw [HU.out]), hb3⟩
      | cons d r =>
        have hel := esc_le (d :: r) (by simp)
        have HU := Lib.hid (show (out ++ b ++ [(esc (d :: r)).1]) ++ unesc ((d :: r).drop (esc (d :: r)).2) = unesc s by rw [← HQ.out, hU, unesc_bs _ (by simp)]; simp)
        clear hU
        have hdl : (d :: r).length ≤ 1000000000 := by omega
        obtain ⟨c, n, hcn⟩ : ∃ c n, esc (d :: r) = (c, n) := ⟨_, _, rfl⟩
        rw [hcn] at hel HU
        have HCN := Lib.hid hcn
        have hd := ba_drop (d :: r) n
        rw [List.length_cons] at hd
        have hnl : n ≤ r.length + 1 := hel.2.1
        have hn0 : 1 ≤ n := hel.1
        simp only [List.length_cons] at hle hqm
        clear hcn hel
        go_wp2_with fail
        refine (cut_hit 92 q b (d :: r) HC.out _ hqb hgr).mono ?_
        rintro e w1 ⟨rfl, hb1⟩
        have hB1 := hB.on hb1 hz
        have hz1 := Nat.le_trans hz hb1.size
        have hg1 := hgr.on hb1
        go_wp2_with fail
        refine (writeString_c _ _ _ b _ _ hB1 (by omega) hz1).mono ?_
        rintro e w2 ⟨⟨n2, rfl⟩, hB2, hz2⟩
        have hg2 := hg.on hB2.2
        go_wp2_with fail
        refine (escaped_c d r hdl _ hg2).mono ?_
        rw [HCN.out]
        rintro e w3 ⟨rfl, hb3⟩
        have hB3 := hB2.on hb3 hz2
        have hz3 := Nat.le_trans hz2 hb3.size
        go_wp2_with fail
        refine (writeByte_c _ _ _ c _ rfl _ _ hB3 (by rw [List.length_append]; omega) hz3).mono ?_
        rintro e w4 ⟨rfl, hB4, hz4⟩
        go_wp2_with fail
        go_roundg ((d :: r).drop n).length
        case measure => rw [List.length_drop, List.length_cons]; omega
        case rel =>
          exact ⟨out ++ b ++ [c], (d :: r).drop n, rfl, by rw [List.length_append, List.length_append, List.length_singleton, List.length_drop, List.length_cons]; omega, rfl, HU, hB4, hz4⟩

theorem trimPrefix_c (s : List UInt8) (w : World) : Calls Tryz.prog 89 #[.string ⟨s.toArray⟩, .string ⟨#[34]⟩] w fun e w' => e = .returned (.string ⟨(Lib.trimPrefix s [34]).toArray⟩) ∧ w = w' :=
  (Tryz.strings_TrimPrefix ⟨s.toArray⟩ ⟨#[34]⟩ w).mono fun e w' ⟨he, hw⟩ => ⟨he, hw.symm⟩
theorem trimSuffix_c (s : List UInt8) (hs : s.length ≤ 1000000000) (w : World) : Calls Tryz.prog 88 #[.string ⟨s.toArray⟩, .string ⟨#[34]⟩] w fun e w' => e = .returned (.string ⟨(Lib.trimSuffix s [34]).toArray⟩) ∧ w = w' :=
  (Tryz.strings_TrimSuffix ⟨s.toArray⟩ ⟨#[34]⟩ w (by rw [ba_size]; omega)).mono fun e w' ⟨he, hw⟩ => ⟨he, hw.symm⟩
theorem trimPre_len (s : List UInt8) : (Lib.trimPrefix s [34]).length ≤ s.length := by unfold Lib.trimPrefix; split <;> simp
theorem trimSuf_len (s : List UInt8) : (Lib.trimSuffix s [34]).length ≤ s.length := by unfold Lib.trimSuffix; split <;> simp
/-- What Unquote returns. -/
def unqV (s : List UInt8) : Value := match unquote s with
  | some d => .tuple #[.string ⟨d.toArray⟩, .bool true]
  | none => .tuple #[.string ⟨#[]⟩, .bool false]
theorem unqV_some {s d : List UInt8} (h : unquote s = some d) : unqV s = .tuple #[.string ⟨d.toArray⟩, .bool true] := by unfold unqV; rw [h]
theorem unqV_none {s : List UInt8} (h : unquote s = none) : unqV s = .tuple #[.string ⟨#[]⟩, .bool false] := by unfold unqV; rw [h]
set_option maxHeartbeats 1000000 in
set_option maxRecDepth 100000 in
theorem unquote_c (s : List UInt8) (hs : s.length ≤ 10000000) (w : World) (hg : Good w) :
    Calls Tryz.prog 63 #[.string ⟨s.toArray⟩] w fun e w' => e = .returned (unqV s) ∧ Below w.heap.size w w' := by
  have h1 := trimPre_len s
  have h2 := trimSuf_len (Lib.trimPrefix s [34])
  have h3 := unesc_len (inner s)
  have h4 : (inner s).length ≤ s.length := Nat.le_trans h2 h1
  by_cases hq : quote (unesc (inner s)) = s
  · have HU := Lib.hid (show unqV s = .tuple #[.string ⟨(unesc (inner s)).toArray⟩, .bool true] by unfold unqV unquote; rw [if_pos hq])
    have b1 : (!quote (unesc (inner s)) == s) = false := by rw [hq]; simp
    clear hq
    go_enter Tryz.func63, Tryz.ntmps63
    go_wp2_with fail
    refine (trimPrefix_c s _).mono ?_
    rintro e w1 ⟨rfl, rfl⟩
    go_wp2_with fail
    refine (trimSuffix_c (Lib.trimPrefix s [34]) (by omega) _).mono ?_
    rintro e w1 ⟨rfl, rfl⟩
    go_wp2_with fail
    refine (unescape_c (inner s) (by omega) _ hg).mono ?_
    rintro e w1 ⟨rfl, hb1⟩
    go_wp2_with fail
    refine (quote_c (unesc (inner s)) (by omega) _).mono ?_
    rintro e w2 ⟨rfl, hb2⟩
    go_wp2_with fail
    go_ret2
    exact ⟨congrArg Ending.returned HU.out.symm, chain hb1 hb2⟩
  · have HU := Lib.hid (show unqV s = .tuple #[.string ⟨#[]⟩, .bool false] by unfold unqV unquote; rw [if_neg hq])
    have b1 : (!quote (unesc (inner s)) == s) = true := by simp [hq]
    clear hq
    go_enter Tryz.func63, Tryz.ntmps63
    go_wp2_with fail
    refine (trimPrefix_c s _).mono ?_
    rintro e w1 ⟨rfl, rfl⟩
    go_wp2_with fail
    refine (trimSuffix_c (Lib.trimPrefix s [34]) (by omega) _).mono ?_
    rintro e w1 ⟨rfl, rfl⟩
    go_wp2_with fail
    refine (unescape_c (inner s) (by omega) _ hg).mono ?_
    rintro e w1 ⟨rfl, hb1⟩
    go_wp2_with fail
    refine (quote_c (unesc (inner s)) (by omega) _).mono ?_
    rintro e w2 ⟨rfl, hb2⟩
    go_wp2_with fail
    go_ret2
    exact ⟨congrArg Ending.returned HU.out.symm, chain hb1 hb2⟩
end Go.Proofs.YthibikdnoogfoaaGreatDoor
