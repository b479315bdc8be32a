/-
  The messages that a replica sends to both others, in order.
-/
import Derived.Test.YtkmojcpiadpbaaaGreatDoorRAsk
namespace Go.Proofs.YtkmojcpiadpbaaaGreatDoor
set_option maxRecDepth 100000
open Go Go.RowKit Rp

set_option maxHeartbeats 1000000 in
theorem others_entries {w : World} {b : Nat} {lv : Value} {r : R} (h : RepAt w b lv r) (hr : r.role = 2) : Calls Tryz.prog 44 #[.pointer (some ⟨b, 0, none⟩), .func (.func 45) #[.pointer (some ⟨b, 0, none⟩)] #[]] w fun e w' => ∃ a c L ps, e = .returned (.slice a L c) ∧ Made w w' a c L ps ((others r.id).map (ents r)) := by
  have HR := Lib.hid h
  have QE := Lib.hid (fun (W : World) (hW : Below w.heap.size w W) (d : Nat) (hd : d < 3) => (entries_c (h.on hW) hr d hd).mono (R' := fun e w' => ∃ (m : Msg) (a : Option Addr) (c : Nat), e = .returned (.agg #[.int .i64 m.k, .int .i64 m.fr, .int .i64 m.dst, .int .i64 m.tm, .int .i64 m.ix, .int .i64 m.pv, .int .i64 m.cm, .bool m.yes, .slice a m.rs.length c]) ∧ Hid (m = ents r d ∧ PM.ok (fun k => W.heap.size ≤ k) w' ⟨m, a, c⟩ ∧ Below W.heap.size W w')) (fun e w' hh => by
    obtain ⟨a, c, h1, h2, h3⟩ := hh
    exact ⟨_, a, c, h1, Lib.hid ⟨rfl, h2, h3⟩⟩))
  have HID := Lib.hid h.fine.id
  clear h
  go_enter Tryz.func44, Tryz.ntmps44
  go_wp2_with fail
  go_loopw [5, 7] (fun v5 v7 wr => ∃ k : Nat, k ≤ 3 ∧ v7 = .int .i64 (k : Int) ∧ ∃ a c L ps, v5 = .slice a L c ∧ L ≤ k ∧ Made w wr a c L ps (((others r.id).filter (fun j => decide (j < (k : Int)))).map (ents r))) (fun _ v7 _ => 3 - (intOf v7).toNat)
  case atStart => exact ⟨0, by decide, rfl, none, 0, 0, [], rfl, Nat.le_refl _, by rw [others_none HID.out]; exact Made.none w⟩
  case round =>
    obtain ⟨k, hk, rfl, a, c, L, ps, rfl, hLk, hm⟩ := hrel
    have c0 := (HR.out.on hm.base).c.c0
    have HM := Lib.hid hm
    have HLK := Lib.hid hLk
    clear hm hLk
    by_cases hk3 : k < 3
    · have hk3' : (k : Int) < 3 := by omega
      have HT := Lib.hid (others_turn HID.out k hk3)
      by_cases hki : (k : Int) = r.id
      · have hne : ((k : Int) != r.id) = false := by simp [hki]
        have HT2 := Lib.hid (show (others r.id).filter (fun j => decide (j < ((k + 1 : Nat) : Int))) = (others r.id).filter (fun j => decide (j < (k : Int))) by rw [HT.out, if_pos hki, List.append_nil])
        clear hki
        go_wp2_with fail
        go_roundw
        case rel => exact ⟨k + 1, hk3, by go_num, a, c, L, ps, rfl, by have := HLK.out; omega, by rw [HT2.out]; exact HM.out⟩
        case measure => simp [intOf]; omega
      · have hne : ((k : Int) != r.id) = true := by simp [hki]
        have HT2 := Lib.hid (show (others r.id).filter (fun j => decide (j < ((k + 1 : Nat) : Int))) = (others r.id).filter (fun j => decide (j < (k : Int))) ++ [(k : Int)] by rw [HT.out, if_neg hki])
        have PUSH := Lib.hid (fun (m : Msg) (pa : Option Addr) (pc : Nat) (w1 : World) (hh : m = ents r k ∧ PM.ok (fun k => wr.heap.size ≤ k) w1 ⟨m, pa, pc⟩ ∧ Below wr.heap.size wr w1) => (HM.out.on hh.2.2).push m pa pc (ok_above hh.2.1 (fun k e => HM.out.row.lt e) HM.out.base.size) (by have := HLK.out; omega))
        clear hki
        go_wp2_with (first | (refine (QE.out _ HM.out.base k hk3).mono ?_; rintro e w1 ⟨m, pa, pc, rfl, HH⟩; obtain ⟨a', c', w2, hr2, hm2⟩ := PUSH.out m pa pc w1 HH.out; have HR2 := Lib.hid hr2; have HM2 := Lib.hid hm2; clear hr2 hm2) | (at_builtin; refine Lib.wpList_append_run _ rfl _ _ _ _ rfl _ _ rfl rfl _ w2 HR2.out ?_))
        go_roundw
        case rel =>
          have e : m = ents r k := HH.out.1
          refine ⟨k + 1, hk3, by go_num, a', c', L + 1, ps ++ [⟨m, pa, pc⟩], rfl, by have := HLK.out; omega, ?_⟩
          rw [HT2.out, List.map_append, List.map_singleton, ← e]
          exact HM2.out
        case measure => simp [intOf]; omega
    · have hk3' : ¬ (k : Int) < 3 := by omega
      obtain rfl : k = 3 := by omega
      go_wp2_with fail
      go_ret
      refine ⟨a, c, L, rfl, ps, ?_⟩
      have := HM.out
      rw [others_end HID.out] at this
      exact this

set_option maxHeartbeats 1000000 in
theorem others_request {w : World} {b : Nat} {lv : Value} {r : R} (h : RepAt w b lv r) : Calls Tryz.prog 44 #[.pointer (some ⟨b, 0, none⟩), .func (.func 46) #[.pointer (some ⟨b, 0, none⟩)] #[]] w fun e w' => ∃ a c L ps, e = .returned (.slice a L c) ∧ Made w w' a c L ps ((others r.id).map (ask r)) := by
  have HR := Lib.hid h
  have QE := Lib.hid (fun (W : World) (hW : Below w.heap.size w W) (d : Nat) (hd : d < 3) => (request_c (h.on hW) (d : Int)).mono (R' := fun e w' => ∃ (m : Msg) (a : Option Addr) (c : Nat), e = .returned (.agg #[.int .i64 m.k, .int .i64 m.fr, .int .i64 m.dst, .int .i64 m.tm, .int .i64 m.ix, .int .i64 m.pv, .int .i64 m.cm, .bool m.yes, .slice a m.rs.length c]) ∧ Hid (m = ask r d ∧ PM.ok (fun k => W.heap.size ≤ k) w' ⟨m, a, c⟩ ∧ Below W.heap.size W w')) (fun e w' hh => by
    obtain ⟨a, c, h1, h2, h3⟩ := hh
    exact ⟨_, a, c, h1, Lib.hid ⟨rfl, h2, h3⟩⟩))
  have HID := Lib.hid h.fine.id
  clear h
  go_enter Tryz.func44, Tryz.ntmps44
  go_wp2_with fail
  go_loopw [5, 7] (fun v5 v7 wr => ∃ k : Nat, k ≤ 3 ∧ v7 = .int .i64 (k : Int) ∧ ∃ a c L ps, v5 = .slice a L c ∧ L ≤ k ∧ Made w wr a c L ps (((others r.id).filter (fun j => decide (j < (k : Int)))).map (ask r))) (fun _ v7 _ => 3 - (intOf v7).toNat)
  case atStart => exact ⟨0, by decide, rfl, none, 0, 0, [], rfl, Nat.le_refl _, by rw [others_none HID.out]; exact Made.none w⟩
  case round =>
    obtain ⟨k, hk, rfl, a, c, L, ps, rfl, hLk, hm⟩ := hrel
    have c0 := (HR.out.on hm.base).c.c0
    have HM := Lib.hid hm
    have HLK := Lib.hid hLk
    clear hm hLk
    by_cases hk3 : k < 3
    · have hk3' : (k : Int) < 3 := by omega
      have HT := Lib.hid (others_turn HID.out k hk3)
      by_cases hki : (k : Int) = r.id
      · have hne : ((k : Int) != r.id) = false := by simp [hki]
        have HT2 := Lib.hid (show (others r.id).filter (fun j => decide (j < ((k + 1 : Nat) : Int))) = (others r.id).filter (fun j => decide (j < (k : Int))) by rw [HT.out, if_pos hki, List.append_nil])
        clear hki
        go_wp2_with fail
        go_roundw
        case rel => exact ⟨k + 1, hk3, by go_num, a, c, L, ps, rfl, by have := HLK.out; omega, by rw [HT2.out]; exact HM.out⟩
        case measure => simp [intOf]; omega
      · have hne : ((k : Int) != r.id) = true := by simp [hki]
        have HT2 := Lib.hid (show (others r.id).filter (fun j => decide (j < ((k + 1 : Nat) : Int))) = (others r.id).filter (fun j => decide (j < (k : Int))) ++ [(k : Int)] by rw [HT.out, if_neg hki])
        have PUSH := Lib.hid (fun (m : Msg) (pa : Option Addr) (pc : Nat) (w1 : World) (hh : m = ask r k ∧ PM.ok (fun k => wr.heap.size ≤ k) w1 ⟨m, pa, pc⟩ ∧ Below wr.heap.size wr w1) => (HM.out.on hh.2.2).push m pa pc (ok_above hh.2.1 (fun k e => HM.out.row.lt e) HM.out.base.size) (by have := HLK.out; omega))
        clear hki
        go_wp2_with (first | (refine (QE.out _ HM.out.base k hk3).mono ?_; rintro e w1 ⟨m, pa, pc, rfl, HH⟩; obtain ⟨a', c', w2, hr2, hm2⟩ := PUSH.out m pa pc w1 HH.out; have HR2 := Lib.hid hr2; have HM2 := Lib.hid hm2; clear hr2 hm2) | (at_builtin; refine Lib.wpList_append_run _ rfl _ _ _ _ rfl _ _ rfl rfl _ w2 HR2.out ?_))
        go_roundw
        case rel =>
          have e : m = ask r k := HH.out.1
          refine ⟨k + 1, hk3, by go_num, a', c', L + 1, ps ++ [⟨m, pa, pc⟩], rfl, by have := HLK.out; omega, ?_⟩
          rw [HT2.out, List.map_append, List.map_singleton, ← e]
          exact HM2.out
        case measure => simp [intOf]; omega
    · have hk3' : ¬ (k : Int) < 3 := by omega
      obtain rfl : k = 3 := by omega
      go_wp2_with fail
      go_ret
      refine ⟨a, c, L, rfl, ps, ?_⟩
      have := HM.out
      rw [others_end HID.out] at this
      exact this
end Go.Proofs.YtkmojcpiadpbaaaGreatDoor
