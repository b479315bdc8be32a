/-
  The reference's reader: numbers, ints, strings, and the small methods; the same plain functions as those of package wire.
-/
import Derived.Test.YtkmojcpiadpbaaaGreatDoorRefRead
namespace Go.Proofs.YtkmojcpiadpbaaaGreatDoor
open Go Go.RowKit Go.Sort Wire

/-- The reference's reader in block b: what is left, and whether it has failed. -/
def Qd (w : World) (b : Nat) (r : List UInt8) (f : Bool) : Prop := w.heap[b]? = some (.cells #[.string ⟨r.toArray⟩, .bool f] 84 (0, 0))
theorem Qd.lt {w : World} {b : Nat} {r : List UInt8} {f : Bool} (h : Qd w b r f) : b < w.heap.size := (Array.getElem?_eq_some_iff.1 h).1
theorem Qd.on {w w' : World} {b : Nat} {r : List UInt8} {f : Bool} (h : Qd w b r f) (hb : Below w.heap.size w w') : Qd w' b r f := (hb.block b h.lt).trans h
theorem Qd.c0 {w : World} {b : Nat} {r : List UInt8} {f : Bool} (h : Qd w b r f) : w.cell? ⟨b, 0, none⟩ = some (.string ⟨r.toArray⟩) := by rw [Lib.cell_of_heap h]; rfl
theorem Qd.c1 {w : World} {b : Nat} {r : List UInt8} {f : Bool} (h : Qd w b r f) : w.cell? ⟨b, 1, none⟩ = some (.bool f) := by rw [Lib.cell_of_heap h]; rfl
theorem Qd.z0 {w : World} {b : Nat} {r : List UInt8} {f : Bool} (h : Qd w b r f) : w.frozen? ⟨b, 0, none⟩ = false := Lib.frozen_of_heap h 0
theorem Qd.z1 {w : World} {b : Nat} {r : List UInt8} {f : Bool} (h : Qd w b r f) : w.frozen? ⟨b, 1, none⟩ = false := Lib.frozen_of_heap h 1
theorem Qd.set0 {w : World} {b : Nat} {r : List UInt8} {f : Bool} (h : Qd w b r f) (r' : List UInt8) : Qd (w.setCell ⟨b, 0, none⟩ (.string ⟨r'.toArray⟩)) b r' f := by
  unfold Qd at *
  simp [World.setCell, Array.getElem?_modify, h]
theorem Qd.set1 {w : World} {b : Nat} {r : List UInt8} {f : Bool} (h : Qd w b r f) (f' : Bool) : Qd (w.setCell ⟨b, 1, none⟩ (.bool f')) b r f' := by
  unfold Qd at *
  simp [World.setCell, Array.getElem?_modify, h]

theorem qfail_c (b : Nat) (r : List UInt8) (f : Bool) (w : World) (h : Qd w b r f) : Calls Tryz.prog 56 #[.pointer (some ⟨b, 0, none⟩)] w fun e w' => e = .returned (.int .i64 0) ∧ Qd w' b [] true ∧ Only b w w' := by
  have z0 := h.z0
  have z1 := h.z1
  have k0 := h.c0
  have k1 := h.c1
  go_enter Tryz.func56, Tryz.ntmps56
  go_wp2
  go_ret
  exact ⟨rfl, (h.set0 []).set1 true, (Only.set b 0 w _).trans (Only.set b 1 _ _)⟩
theorem qOpen_c (s : List UInt8) (w : World) : Calls Tryz.prog 31 #[.string ⟨s.toArray⟩] w fun v w' => v = .returned (.pointer (some ⟨w.heap.size, 0, none⟩)) ∧ Qd w' w.heap.size s false ∧ Below w.heap.size w w' := by
  go_enter Tryz.func31, Tryz.ntmps31
  go_wp2
  go_ret
  exact ⟨rfl, heap_alloc_new w _, (Below.refl _ _).alloc (Nat.le_refl _) _⟩
theorem qLeft_c (b : Nat) (r : List UInt8) (f : Bool) (w : World) (h : Qd w b r f) : Calls Tryz.prog 34 #[.pointer (some ⟨b, 0, none⟩)] w fun v w' => v = .returned (.int .i64 r.length) ∧ w = w' := by
  have k0 := h.c0
  go_enter Tryz.func34, Tryz.ntmps34
  go_wp2
  go_ret
  exact ⟨rfl, rfl⟩
theorem qDone_c (b : Nat) (r : List UInt8) (f : Bool) (w : World) (h : Qd w b r f) : Calls Tryz.prog 36 #[.pointer (some ⟨b, 0, none⟩)] w fun v w' => v = .returned (.bool (!f && r.isEmpty)) ∧ w = w' := by
  have k0 := h.c0
  have k1 := h.c1
  cases f
  · go_enter Tryz.func36, Tryz.ntmps36
    go_wp2
    go_ret
    exact ⟨by simp, rfl⟩
  · go_enter Tryz.func36, Tryz.ntmps36
    go_wp2
    go_ret
    exact ⟨by simp, rfl⟩
theorem byte_ne {x e : UInt8} {c : Int} (hc : (e.toNat : Int) = c) (h : x ≠ e) : ((x.toNat : Int) != c) = true := by
  simp only [bne_iff_ne, ne_eq]
  intro hh
  exact h (UInt8.toNat_inj.1 (by omega))
theorem byte_eq {x e : UInt8} {c : Int} (hc : (e.toNat : Int) = c) (h : x = e) : ((x.toNat : Int) != c) = false := by
  subst h
  simp [hc]

set_option maxHeartbeats 1000000 in
set_option maxRecDepth 100000 in
theorem ahead_ok (e : UInt8) (c : Int) (hc : (e.toNat : Int) = c) (b : Nat) (r : List UInt8) (f : Bool) (n : Int) (r' : List UInt8) (hr : rInt e r = some (n, r')) (_hlen : r.length < 4294967281) (w : World) (h : Qd w b r f) :
    Calls Tryz.prog 54 #[.pointer (some ⟨b, 0, none⟩), .int .u8 c] w fun v w' => v = .returned (.int .i64 n) ∧ Qd w' b r' f ∧ Only b w w' := by
  obtain ⟨d, hcut, hd⟩ : ∃ d, cutAt e r = some (d, r') ∧ readDig d = some n := by
    unfold rInt at hr
    cases hc : cutAt e r with
    | none => rw [hc] at hr; cases hr
    | some p =>
      obtain ⟨d, q⟩ := p
      rw [hc] at hr
      simp only [Option.bind_some, Option.map_eq_some_iff, Prod.mk.injEq] at hr
      obtain ⟨m, hm, rfl, rfl⟩ := hr
      exact ⟨d, rfl, hm⟩
  have hdl : d.length ≤ 20 := by
    obtain ⟨h1, h2⟩ := (readDig_iff d n).1 hd
    rw [h2]
    exact itoa_len n h1
  obtain ⟨hs, hnot⟩ := cutAt_some hcut
  have hrl : d.length < r.length := by rw [hs]; simp
  have hat : r[d.length]? = some e := by rw [hs]; simp
  have hbe : ∀ k, k < d.length → ∃ x, r[k]? = some x ∧ x ≠ e := by
    intro k hk
    refine ⟨d[k], by rw [hs, List.getElem?_append_left hk]; exact List.getElem?_eq_getElem hk, fun he => hnot (he ▸ List.getElem_mem hk)⟩
  have htake : r.take d.length = d := by rw [hs]; simp
  have hdrop : r.drop (d.length + 1) = r' := by rw [hs]; simp [List.drop_append]
  have hB := back_ok d n hd
  have k0 := h.c0
  have z0 := h.z0
  have HAT := Lib.hid hat
  have HBE := Lib.hid hbe
  have HT := Lib.hid htake
  have HD := Lib.hid hdrop
  have HB := Lib.hid hB
  clear hr hcut hd hs hnot hat hbe htake hdrop hB
  go_enter Tryz.func54, Tryz.ntmps54
  go_wp2_with fail
  go_loopw [5] (fun i wr => ∃ k : Nat, i = .int .i64 k ∧ k ≤ d.length ∧ w = wr) (fun i _ => d.length - (intOf i).toNat)
  case atStart => exact ⟨0, rfl, Nat.zero_le _, rfl⟩
  case round =>
    obtain ⟨k, rfl, hk, rfl⟩ := hrel
    have hkr : k < r.length := by omega
    have hkl : (k : Int) < 21 := by omega
    by_cases hlt : k < d.length
    · obtain ⟨x, hx, hxe⟩ := HBE.out k hlt
      have hby : ((((⟨r.toArray⟩ : ByteArray)[k]'(by rw [ba_size]; exact hkr)).toNat : Int) != c) = true := by rw [ba_get r k _ x hx]; exact byte_ne hc hxe
      clear hx hxe
      go_wp2_with fail
      go_roundw
      case rel => exact ⟨k + 1, by go_num, by omega, by first | rfl | trivial⟩
      case measure => simp [intOf]; omega
    · obtain rfl : k = d.length := by omega
      have hby : ((((⟨r.toArray⟩ : ByteArray)[d.length]'(by rw [ba_size]; exact hkr)).toNat : Int) != c) = false := by rw [ba_get r d.length _ e HAT.out]; exact byte_eq hc rfl
      go_wp2_with fail
      rw [ba_take, HT.out]
      refine (HB.out _).mono ?_
      rintro v w1 ⟨rfl, hb1⟩
      have h1 := h.on hb1
      clear k0 z0
      have k0 := h1.c0
      have z0 := h1.z0
      go_wp2_with fail
      go_ret
      rw [ba_drop, HD.out]
      exact ⟨rfl, h1.set0 _, (Only.of hb1).trans (Only.set b 0 w1 _)⟩
set_option maxHeartbeats 1000000 in
set_option maxRecDepth 100000 in
/-- The end byte is not among the bytes looked at: at most 21, or all there are. -/
theorem ahead_no1 (e : UInt8) (c : Int) (hc : (e.toNat : Int) = c) (b : Nat) (r : List UInt8) (f : Bool) (hno : ∀ k, k ≤ 21 → r[k]? ≠ some e) (_hlen : r.length < 4294967281) (w : World) (h : Qd w b r f) :
    Calls Tryz.prog 54 #[.pointer (some ⟨b, 0, none⟩), .int .u8 c] w fun v w' => v = .returned (.int .i64 0) ∧ Qd w' b [] true ∧ Only b w w' := by
  have k0 := h.c0
  have HNO := Lib.hid hno
  clear hno
  go_enter Tryz.func54, Tryz.ntmps54
  go_wp2_with fail
  go_loopw [5] (fun i wr => ∃ k : Nat, i = .int .i64 k ∧ k ≤ 21 ∧ k ≤ r.length ∧ w = wr) (fun i _ => 21 - (intOf i).toNat)
  case atStart => exact ⟨0, rfl, Nat.zero_le _, Nat.zero_le _, rfl⟩
  case round =>
    obtain ⟨k, rfl, hk, hkr, rfl⟩ := hrel
    by_cases hlt : k < r.length
    · obtain ⟨x, hx⟩ : ∃ x, r[k]? = some x := ⟨_, List.getElem?_eq_getElem hlt⟩
      have hxe : x ≠ e := fun he => HNO.out k hk (by rw [hx, he])
      have hby : ((((⟨r.toArray⟩ : ByteArray)[k]'(by rw [ba_size]; exact hlt)).toNat : Int) != c) = true := by rw [ba_get r k _ x hx]; exact byte_ne hc hxe
      clear hx hxe
      by_cases h21 : k < 21
      · go_wp2_with fail
        go_roundw
        case rel => exact ⟨k + 1, by go_num, by omega, by omega, by first | rfl | trivial⟩
        case measure => simp [intOf]; omega
      · go_wp2_with fail
        refine (qfail_c b r f _ h).mono ?_
        rintro v w1 ⟨rfl, h1, ho1⟩
        go_wp2_with fail
        go_ret
        exact ⟨rfl, h1, ho1⟩
    · obtain rfl : k = r.length := by omega
      go_wp2_with fail
      refine (qfail_c b r f _ h).mono ?_
      rintro v w1 ⟨rfl, h1, ho1⟩
      go_wp2_with fail
      go_ret
      exact ⟨rfl, h1, ho1⟩

set_option maxHeartbeats 1000000 in
set_option maxRecDepth 100000 in
theorem ahead_no2 (e : UInt8) (c : Int) (hc : (e.toNat : Int) = c) (b : Nat) (r : List UInt8) (f : Bool) (d r' : List UInt8) (hcut : cutAt e r = some (d, r')) (hd : readDig d = none) (hdl : d.length ≤ 21) (hlen : r.length < 4294967281) (w : World) (h : Qd w b r f) :
    Calls Tryz.prog 54 #[.pointer (some ⟨b, 0, none⟩), .int .u8 c] w fun v w' => v = .returned (.int .i64 0) ∧ Qd w' b [] true ∧ Only b w w' := by
  obtain ⟨hs, hnot⟩ := cutAt_some hcut
  have hrl : d.length < r.length := by rw [hs]; simp
  have hat : r[d.length]? = some e := by rw [hs]; simp
  have hbe : ∀ k, k < d.length → ∃ x, r[k]? = some x ∧ x ≠ e := by
    intro k hk
    refine ⟨d[k], by rw [hs, List.getElem?_append_left hk]; exact List.getElem?_eq_getElem hk, fun he => hnot (he ▸ List.getElem_mem hk)⟩
  have htake : r.take d.length = d := by rw [hs]; simp
  have hB := back_no d hd hdl
  have k0 := h.c0
  have HAT := Lib.hid hat
  have HBE := Lib.hid hbe
  have HT := Lib.hid htake
  have HB := Lib.hid hB
  clear hcut hd hs hnot hat hbe htake hB
  go_enter Tryz.func54, Tryz.ntmps54
  go_wp2_with fail
  go_loopw [5] (fun i wr => ∃ k : Nat, i = .int .i64 k ∧ k ≤ d.length ∧ w = wr) (fun i _ => d.length - (intOf i).toNat)
  case atStart => exact ⟨0, rfl, Nat.zero_le _, rfl⟩
  case round =>
    obtain ⟨k, rfl, hk, rfl⟩ := hrel
    have hkr : k < r.length := by omega
    by_cases hlt : k < d.length
    · obtain ⟨x, hx, hxe⟩ := HBE.out k hlt
      have hkl : (k : Int) < 21 := by omega
      have hby : ((((⟨r.toArray⟩ : ByteArray)[k]'(by rw [ba_size]; exact hkr)).toNat : Int) != c) = true := by rw [ba_get r k _ x hx]; exact byte_ne hc hxe
      clear hx hxe
      go_wp2_with fail
      go_roundw
      case rel => exact ⟨k + 1, by go_num, by omega, by first | rfl | trivial⟩
      case measure => simp [intOf]; omega
    · obtain rfl : k = d.length := by omega
      have hby : ((((⟨r.toArray⟩ : ByteArray)[d.length]'(by rw [ba_size]; exact hkr)).toNat : Int) != c) = false := by rw [ba_get r d.length _ e HAT.out]; exact byte_eq hc rfl
      by_cases h21 : d.length < 21
      · go_wp2_with fail
        rw [ba_take, HT.out]
        refine (HB.out _).mono ?_
        rintro v w1 ⟨⟨m, rfl⟩, hb1⟩
        have h1 := h.on hb1
        go_wp2_with fail
        refine (qfail_c b r f _ h1).mono ?_
        rintro v w2 ⟨rfl, h2, ho2⟩
        go_wp2_with fail
        go_ret
        exact ⟨rfl, h2, (Only.of hb1).trans ho2⟩
      · go_wp2_with fail
        rw [ba_take, HT.out]
        refine (HB.out _).mono ?_
        rintro v w1 ⟨⟨m, rfl⟩, hb1⟩
        have h1 := h.on hb1
        go_wp2_with fail
        refine (qfail_c b r f _ h1).mono ?_
        rintro v w2 ⟨rfl, h2, ho2⟩
        go_wp2_with fail
        go_ret
        exact ⟨rfl, h2, (Only.of hb1).trans ho2⟩

theorem cutAt_none {e : UInt8} {s : List UInt8} (h : cutAt e s = none) : e ∉ s := by
  induction s with
  | nil => simp
  | cons b l ih =>
    simp only [cutAt] at h
    by_cases hb : b = e
    · rw [if_pos hb] at h; cases h
    · rw [if_neg hb] at h
      simp only [List.mem_cons, not_or]
      exact ⟨fun hx => hb hx.symm, ih (by simpa using h)⟩
theorem ahead_no (e : UInt8) (c : Int) (hc : (e.toNat : Int) = c) (b : Nat) (r : List UInt8) (f : Bool) (hr : rInt e r = none) (hlen : r.length < 4294967281) (w : World) (h : Qd w b r f) :
    Calls Tryz.prog 54 #[.pointer (some ⟨b, 0, none⟩), .int .u8 c] w fun v w' => v = .returned (.int .i64 0) ∧ Qd w' b [] true ∧ Only b w w' := by
  cases hcut : cutAt e r with
  | none => exact ahead_no1 e c hc b r f (fun k _ hk => cutAt_none hcut (List.mem_of_getElem? hk)) hlen w h
  | some p =>
    obtain ⟨d, r'⟩ := p
    have hd : readDig d = none := by
      unfold rInt at hr
      rw [hcut] at hr
      simpa using hr
    by_cases hdl : d.length ≤ 21
    · exact ahead_no2 e c hc b r f d r' hcut hd hdl hlen w h
    · refine ahead_no1 e c hc b r f (fun k hk hk2 => ?_) hlen w h
      obtain ⟨hs, hnot⟩ := cutAt_some hcut
      rw [hs, List.getElem?_append_left (by omega)] at hk2
      exact hnot (List.mem_of_getElem? hk2)
end Go.Proofs.YtkmojcpiadpbaaaGreatDoor
