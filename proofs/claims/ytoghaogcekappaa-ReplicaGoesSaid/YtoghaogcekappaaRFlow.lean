/-
  All messages arrive.
-/
import Derived.Test.YtoghaogcekappaaRLaw
namespace Go.Proofs.Ytoghaogcekappaa
set_option maxRecDepth 100000
open Go Go.RowKit Rp

theorem pickN_zero (l : List Msg) : pickN 0 l = 0 := by unfold pickN; split <;> simp
theorem flowC_cons {n : Nat} {x x' : Cl} (h : 0 < x.sent.length) (e : flowC (n + 1) x = some x') {x1 : Cl} (e1 : arriveC x 0 false = some x1) : flowC n x1 = some x' := by
  obtain ⟨m, Q, hq⟩ : ∃ m Q, x.sent = m :: Q := by
    cases hs : x.sent with
    | nil => rw [hs] at h; exact absurd h (by simp)
    | cons m Q => exact ⟨m, Q, rfl⟩
  rw [← flow_one n hq e1]
  exact e
theorem flowC_nil {n : Nat} {x x' : Cl} (h : x.sent.length = 0) (e : flowC n x = some x') : x' = x := by
  have hs := List.eq_nil_of_length_eq_zero h
  cases n with
  | zero => exact (Option.some.inj e).symm
  | succ n =>
    have e0 : flowC (n + 1) x = (match x.sent with | [] => some x | _ :: _ => (arriveC x 0 false).bind (flowC n)) := rfl
    rw [e0, hs] at e
    exact (Option.some.inj e).symm
/-- The state of the loop. -/
structure Fw (w0 w : World) (b : Nat) (s : St) (x x' : Cl) (n : Nat) (t : Nat → Nat) (m : CM) : Prop where
  cz : Cz w0 w b x t m
  sim : Sim s x
  len : x.sent.length ≤ 300
  go : flowC (2000 - n) x = some x'
set_option maxHeartbeats 1000000 in
theorem flow_c {w0 w : World} {b : Nat} {s : St} {x x' : Cl} {t : Nat → Nat} {m : CM} (h : Cz w0 w b x t m) (hs : Sim s x) (hl : x.sent.length ≤ 300) (hf : flowC 2000 x = some x') :
    Calls Try.prog 29 #[.pointer (some ⟨b, 0, none⟩)] w fun e w' => e = .returned (.bool true) ∧ Hid (∃ s' t' m', Fw w0 w' b s' x' x' 2000 t' m') := by
  have HF := Lib.hid (show ∃ s x t m, Fw w0 w b s x x' 0 t m from ⟨s, x, t, m, h, hs, hl, hf⟩)
  clear h hs hl hf
  go_enter Try.func29, Try.ntmps29
  go_wp2_with fail
  go_loopw [3] (fun v3 wr => ∃ n : Nat, n ≤ 2000 ∧ v3 = .int .i64 (n : Int) ∧ Hid (∃ s x t m, Fw w0 wr b s x x' n t m)) (fun v3 _ => 2000 - (intOf v3).toNat)
  case atStart => exact ⟨0, Nat.zero_le _, rfl, HF⟩
  case round =>
    obtain ⟨n, hn, rfl, HR⟩ := hrel
    clear HF
    obtain ⟨s, x, t, m, hv⟩ := HR.out
    clear HR
    have hc := hv.cz.clu.c (k := 0) (by decide)
    have y2 := hc.x2
    obtain ⟨SN, hSN⟩ : ∃ SN, m.ps.length = SN := ⟨_, rfl⟩
    have hsx : x.sent.length = SN := by rw [← hSN, ← hv.cz.clu.ms, List.length_map]
    rw [hSN] at y2
    have hS3 : SN ≤ 300 := by have := hv.len; omega
    clear hc hSN
    by_cases hn2 : n < 2000
    · have hn2' : (n : Int) < 2000 := by omega
      by_cases h0 : 0 < SN
      · have h0' : (0 : Int) < (SN : Int) := by omega
        obtain ⟨x1, s1, e1, hS1, _⟩ := arrive_next hv.sim 0 false
        have hgo : flowC (2000 - (n + 1)) x1 = some x' := by
          have e2 := hv.go
          rw [show 2000 - n = (2000 - (n + 1)) + 1 by omega] at e2
          exact flowC_cons (by omega) e2 e1
        have QA := Lib.hid ((arrive_c hv.cz.clu (hv.sim.nice hv.len) 0 (by unfold In64; omega) false (by rw [pickN_zero]; exact e1)).mono (R' := fun e w1 => e = .returned (.bool true) ∧ Hid (∃ s x t m, Fw w0 w1 b s x x' (n + 1) t m)) (fun e w1 hh => ⟨hh.1, Lib.hid (by
          obtain ⟨t', m', c, _, _⟩ := hv.cz.moved hh.2.out
          exact ⟨s1, x1, t', m', c, hS1, len_arrive hv.len e1, hgo⟩)⟩))
        clear hv e1 hS1 hgo hsx
        go_wp2_with ((with_reducible refine QA.out.mono ?_); rintro e w1 ⟨rfl, HN⟩)
        go_roundw
        case rel => exact ⟨n + 1, hn2, by go_num, HN⟩
        case measure => simp [intOf]; omega
      · have h0' : ¬ (0 : Int) < (SN : Int) := by omega
        have HE := Lib.hid (show ∃ s' t' m', Fw w0 wr b s' x' x' 2000 t' m' by rw [flowC_nil (by omega) hv.go]; exact ⟨s, t, m, hv.cz, hv.sim, hv.len, rfl⟩)
        clear hv hsx
        go_wp2_with fail
        go_ret
        exact ⟨rfl, HE⟩
    · have hn2' : ¬ (n : Int) < 2000 := by omega
      have HE := Lib.hid (show ∃ s' t' m', Fw w0 wr b s' x' x' 2000 t' m' by
        have e := hv.go
        rw [show 2000 - n = 0 by omega] at e
        rw [← Option.some.inj e]
        exact ⟨s, t, m, hv.cz, hv.sim, hv.len, rfl⟩)
      clear hv hsx
      go_wp2_with fail
      go_ret
      exact ⟨rfl, HE⟩
end Go.Proofs.Ytoghaogcekappaa
