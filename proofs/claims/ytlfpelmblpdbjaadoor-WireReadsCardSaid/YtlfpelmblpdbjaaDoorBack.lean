/-
  WireBack: for all sequences of values and all strings that follow, a reader of the concatenated encodings returns these values in order, and then what follows.
-/
import Derived.Test.YtlfpelmblpdbjaaDoorEq
namespace Go.Proofs.YtlfpelmblpdbjaaDoor
open Go Go.RowKit Go.Sort Wire

theorem ValAt.on {w w' : World} {x : Val} {v3 v4 : Value} (h : ValAt w x v3 v4) (hb : Below w.heap.size w w') : ValAt w' x v3 v4 :=
  ⟨h.k, h.n, h.s, h.hl, h.l.on hb (Nat.le_refl _), h.t.on hb (Nat.le_refl _)⟩
theorem total_split (l r : List Val) : total (l ++ r) = total l + total r := by
  unfold total
  rw [List.map_append, List.foldl_append, foldl_add]
theorem total_get {vs : List Val} {i : Nat} {x : Val} (h : vs[i]? = some x) : x.size ≤ total vs := by
  obtain ⟨hi, hx⟩ := List.getElem?_eq_some_iff.1 h
  have e : vs = vs.take i ++ (x :: vs.drop (i + 1)) := by
    rw [← hx]
    conv => lhs; rw [← List.take_append_drop i vs]
    rw [List.drop_eq_getElem_cons hi]
  have h1 : total (x :: vs.drop (i + 1)) = x.size + total (vs.drop (i + 1)) := by
    unfold total
    simp only [List.map_cons, List.foldl_cons]
    rw [foldl_add]
    omega
  rw [e, total_split, h1]
  omega
def encs (vs : List Val) : List UInt8 := vs.flatMap Val.enc
theorem encs_take (vs : List Val) (k : Nat) (x : Val) (h : vs[k]? = some x) : encs (vs.take (k + 1)) = encs (vs.take k) ++ x.enc := flatMap_take_succ Val.enc vs k x h
theorem encs_drop (vs : List Val) (k : Nat) (x : Val) (h : vs[k]? = some x) : encs (vs.drop k) = x.enc ++ encs (vs.drop (k + 1)) := by
  obtain ⟨hi, hx⟩ := List.getElem?_eq_some_iff.1 h
  unfold encs
  rw [List.drop_eq_getElem_cons hi, hx, List.flatMap_cons]

/-- Everything that a round of a law reads of element k. -/
structure Elem (w : World) (b off k : Nat) (x : Val) (v3 v4 : Value) : Prop where
  at5 : ValAt w x v3 v4
  c0 : w.cell? ⟨b, off + k * 5, none⟩ = some (.int .i64 x.k)
  c1 : w.cell? ⟨b, off + k * 5 + 1, none⟩ = some (.int .i64 x.n)
  c2 : w.cell? ⟨b, off + k * 5 + 2, none⟩ = some (.string ⟨x.s.toArray⟩)
  c3 : w.cell? ⟨b, off + k * 5 + 3, none⟩ = some v3
  c4 : w.cell? ⟨b, off + k * 5 + 4, none⟩ = some v4
theorem Elem.on {w w' : World} {b off k : Nat} {x : Val} {v3 v4 : Value} (h : Elem w b off k x v3 v4) (hb : Below w.heap.size w w') : Elem w' b off k x v3 v4 :=
  ⟨h.at5.on hb, (hb.cell (lt_of_cell h.c0)).trans h.c0, (hb.cell (lt_of_cell h.c1)).trans h.c1, (hb.cell (lt_of_cell h.c2)).trans h.c2, (hb.cell (lt_of_cell h.c3)).trans h.c3, (hb.cell (lt_of_cell h.c4)).trans h.c4⟩
theorem elem_of {w : World} {a : Option Addr} {vs : List Val} (h : vs ≠ [] → ∃ b off, a = some ⟨b, off, none⟩ ∧ ∀ i x, vs[i]? = some x → ∃ v3 v4, ValAt w x v3 v4 ∧
    w.cell? ⟨b, off + i * 5, none⟩ = some (.int .i64 x.k) ∧ w.cell? ⟨b, off + i * 5 + 1, none⟩ = some (.int .i64 x.n) ∧ w.cell? ⟨b, off + i * 5 + 2, none⟩ = some (.string ⟨x.s.toArray⟩) ∧
    w.cell? ⟨b, off + i * 5 + 3, none⟩ = some v3 ∧ w.cell? ⟨b, off + i * 5 + 4, none⟩ = some v4) {k : Nat} (hk : k < vs.length) : ∃ x b off v3 v4, vs[k]? = some x ∧ a = some ⟨b, off, none⟩ ∧ Elem w b off k x v3 v4 := by
  obtain ⟨b, off, h1, h2⟩ := h (by intro h; subst h; simp at hk)
  obtain ⟨v3, v4, h3, h4, h5, h6, h7, h8⟩ := h2 k vs[k] (List.getElem?_eq_getElem hk)
  exact ⟨vs[k], b, off, v3, v4, List.getElem?_eq_getElem hk, h1, h3, h4, h5, h6, h7, h8⟩

set_option maxHeartbeats 2000000 in
set_option maxRecDepth 100000 in
theorem back_c (vs : List Val) (tail : List UInt8) (v : Value) (hm : tail.length ≤ 9223372036854775807) (w : World) (hg : Good w) (hv : ValsAt w v vs) :
    Calls Tryd.prog 5 #[v, .string ⟨tail.toArray⟩] w fun e w' => e = .returned (.bool true) ∧ Below w.heap.size w w' := by
  have hv0 := Lib.hid hv
  obtain ⟨h0, a, cap, rfl, hcells⟩ := hv
  have HC := Lib.hid hcells
  clear hcells
  go_enter Tryd.func5, Tryd.ntmps5
  go_wp2_with fail
  refine (small_c _ hg).mono ?_
  rintro e w1 ⟨rfl, hb1⟩
  have hg1 := hg.on hb1
  have HV : ValsAt w1 (.slice a vs.length cap) vs := by
    refine ⟨h0, a, cap, rfl, fun hne => ?_⟩
    obtain ⟨b, off, e1, e2⟩ := HC.out hne
    refine ⟨b, off, e1, fun i x hx => ?_⟩
    obtain ⟨v3, v4, a1, a2, a3, a4, a5, a6⟩ := e2 i x hx
    have := (Elem.mk a1 a2 a3 a4 a5 a6).on hb1
    exact ⟨v3, v4, this.at5, this.c0, this.c1, this.c2, this.c3, this.c4⟩
  have HVh := Lib.hid HV
  clear HV
  go_wp2_with fail
  refine (few_c vs _ _ HVh.out).mono ?_
  rintro e w2 ⟨bf, rfl, hfew, hb2⟩
  have hg2 := hg1.on hb2
  have hbb := chain hb1 hb2
  clear hb1 hb2 hg1 HVh
  cases bf with
  | false =>
    clear hfew
    go_wp2_with fail
    go_ret
    exact ⟨rfl, hbb⟩
  | true =>
    obtain ⟨hl20, htot⟩ := hfew rfl
    clear hfew
    by_cases ht4 : 400 < tail.length
    · go_wp2_with fail
      go_ret
      exact ⟨rfl, hbb⟩
    · go_wp2_with fail
      go_loopw [6, 7] (fun s i wr => ∃ k : Nat, k ≤ vs.length ∧ i = .int .i64 k ∧ s = .string ⟨(encs (vs.take k)).toArray⟩ ∧ (encs (vs.take k)).length ≤ 20000 * k ∧ Below w.heap.size w wr) (fun _ i _ => vs.length - (intOf i).toNat)
      case atStart => exact ⟨0, Nat.zero_le _, rfl, rfl, by simp [encs], hbb⟩
      case round =>
        obtain ⟨k, hk, rfl, rfl, hek, hbk⟩ := hrel
        clear hbb hg2
        have hgk := hg.on hbk
        by_cases hlt : k < vs.length
        · obtain ⟨x, b, off, v3, v4, hx, rfl, hel⟩ := elem_of HC.out hlt
          have hsz : x.size ≤ 400 := Nat.le_trans (total_get hx) htot
          have hlen := enc_len x hsz hel.at5.n hel.at5.hl
          have he2 := hel.on hbk
          have c0 := he2.c0
          have c1 := he2.c1
          have c2 := he2.c2
          have c3 := he2.c3
          have c4 := he2.c4
          have HS := Lib.hid (encs_take vs k x hx)
          clear hx HC
          go_wp2_with fail
          refine (write_c x v3 v4 hsz _ hgk he2.at5).mono ?_
          rintro e w3 ⟨rfl, hb3⟩
          go_wp2_with fail
          go_roundw
          case rel => exact ⟨k + 1, by omega, by go_num, by rw [str_add, HS.out], by rw [HS.out, List.length_append]; omega, hbk.trans (hb3.mono hbk.size)⟩
          case measure => simp [intOf]; omega
        · obtain rfl : k = vs.length := by omega
          have hE : Hid (encs (vs.take vs.length) = encs vs) := Lib.hid (by rw [List.take_length])
          have hel : (encs vs).length ≤ 400000 := by rw [← hE.out]; omega
          have hadd : Hid ((⟨(encs vs).toArray⟩ : ByteArray) ++ ⟨tail.toArray⟩ = ⟨(encs vs ++ tail).toArray⟩) := Lib.hid (str_add _ _)
          go_wp2_with fail
          rw [hadd.out]
          refine (rOpen_c (encs vs ++ tail) _).mono ?_
          rintro e w3 ⟨rfl, hr3, hb3⟩
          obtain ⟨wo, rfl⟩ : ∃ wo : World, wo = wr := ⟨_, rfl⟩
          have hb4 := chain hbk hb3
          have hlo : w.heap.size ≤ wo.heap.size := hbk.size
          have h6 : 6 ≤ wo.heap.size := hgk.big
          clear hadd hE
          go_wp2_with fail
          go_loopw [9] (fun i wr => ∃ k : Nat, k ≤ vs.length ∧ i = .int .i64 k ∧ Rd wr wo.heap.size (encs (vs.drop k) ++ tail) false ∧ Below w.heap.size w wr) (fun i _ => vs.length - (intOf i).toNat)
          case atStart => exact ⟨0, Nat.zero_le _, rfl, hr3, hb4⟩
          case round =>
            obtain ⟨k, hk2, rfl, hrk, hbk2⟩ := hrel
            clear hr3 hb3 hb4 hgk
            have hgk := hg.on hbk2
            by_cases hlt2 : k < vs.length
            · obtain ⟨x, b, off, v3, v4, hx, rfl, hel5⟩ := elem_of HC.out hlt2
              have hsz : x.size ≤ 400 := Nat.le_trans (total_get hx) htot
              have he2 := hel5.on hbk2
              have c0 := he2.c0
              have c1 := he2.c1
              have c2 := he2.c2
              have c3 := he2.c3
              have c4 := he2.c4
              have HD := encs_drop vs k x hx
              rw [HD, List.append_assoc] at hrk
              have hlen : (x.enc ++ (encs (vs.drop (k + 1)) ++ tail)).length < 4294967281 := by
                have h1 : (encs (vs.drop k)).length ≤ (encs vs).length := by
                  have : encs vs = encs (vs.take k) ++ encs (vs.drop k) := by unfold encs; rw [← List.flatMap_append, List.take_append_drop]
                  rw [this, List.length_append]; omega
                rw [← List.append_assoc, ← HD, List.length_append]; omega
              have HX := Lib.hid hx
              clear HD hx HC
              go_wp2_with fail
              refine (equal_c x v3 v4 hsz _ _ hlen h6 w _ hbk2 hlo hgk hrk hel5.at5).mono ?_
              rintro e w4 ⟨rfl, hr4, ho4⟩
              go_wp2_with fail
              go_roundw
              case rel => exact ⟨k + 1, by omega, by go_num, hr4, chainO hbk2 ho4 hlo⟩
              case measure => simp [intOf]; omega
            · obtain rfl : k = vs.length := by omega
              have HD : encs (vs.drop vs.length) = [] := by rw [List.drop_length]; rfl
              rw [HD, List.nil_append] at hrk
              clear HD
              go_wp2_with fail
              refine (rLeft_c _ _ _ _ hrk).mono ?_
              rintro e w5 ⟨rfl, rfl⟩
              go_wp2_with fail
              refine (rDone_c _ _ _ _ hrk).mono ?_
              rintro e w6 ⟨rfl, rfl⟩
              go_wp2_with fail
              refine (rRest_c _ _ _ _ hrk).mono ?_
              rintro e w7 ⟨rfl, hr7, ho7⟩
              go_wp2_with fail
              refine (rDone_c _ _ _ _ hr7).mono ?_
              rintro e w8 ⟨rfl, rfl⟩
              go_wp2_with fail
              refine (rLeft_c _ _ _ _ hr7).mono ?_
              rintro e w9 ⟨rfl, rfl⟩
              go_wp2_with fail
              go_ret
              exact ⟨ret_bool (by simp), chainO hbk2 ho7 hlo⟩
end Go.Proofs.YtlfpelmblpdbjaaDoor
