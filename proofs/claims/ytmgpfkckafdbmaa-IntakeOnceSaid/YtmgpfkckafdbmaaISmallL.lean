/-
  The examples of layer 11.
-/
import Derived.Test.YtmgpfkckafdbmaaIFew
namespace Go.Proofs.Ytmgpfkckafdbmaa
set_option maxRecDepth 100000
open Go Go.RowKit Vl

/-- A new partition with the known columns of the examples. -/
theorem new_hold (x : Cfg) {w0 w : World} {a : Option Addr} {kc0 : Nat} {B : Nat} (hc : ∃ K : List KP, K.map KP.core = core0 ∧ Kns (fun k => B ≤ k) w a kc0 K) (hr : x.c.right) (hw : Below w0.heap.size w0 w) :
    Calls Try.prog 6 #[x.val, .slice a 2 kc0] w fun e w' => ∃ b p, e = .returned (.pointer (some ⟨b, 0, none⟩)) ∧ Hid (HoldI (fun k => k = b ∨ k = p.mb) w0 w' b x.c p In.new ks0 ∧ Below w.heap.size w w' ∧ w.heap.size ≤ b ∧ w.heap.size ≤ p.mb) := by
  obtain ⟨K, hK, hk⟩ := hc
  obtain ⟨h1, h2, h3⟩ := core_ks0 hK
  have hq := new_cI x (hk.mono (fun k _ => trivial)) h2.n h2.cols
  rw [h3] at hq
  refine hq.mono fun e w' ⟨hn, hb⟩ => ?_
  rcases hn with ⟨f, _⟩ | ⟨_, b, p, h4, h5, h6, h7, h8⟩
  · exact absurd hr f
  · have hpc := h5.trans hK
    obtain ⟨g1, g2, _⟩ := core_ks0 hpc
    have s0 := hw.size
    refine ⟨b, p, h4, Lib.hid ⟨⟨h6.monoW (fun k hk f g => by rcases g with g | g; exact f.2.1 g; exact f.2.2 g) (fun f => f (Or.inl rfl)) (fun f => f (Or.inr rfl)), fun k hk => ?_, g1, g2, by omega, by omega⟩, hb, h7, h8⟩⟩
    rcases hk with rfl | rfl
    · exact h6.lt (Or.inl rfl)
    · exact h6.lt (Or.inr rfl)
theorem new_not (x : Cfg) {w : World} {a : Option Addr} {kc0 : Nat} {B : Nat} (hc : ∃ K : List KP, K.map KP.core = core0 ∧ Kns (fun k => B ≤ k) w a kc0 K) (hr : ¬ x.c.right) :
    Calls Try.prog 6 #[x.val, .slice a 2 kc0] w fun e w' => e = .returned (.pointer none) ∧ Below w.heap.size w w' := by
  obtain ⟨K, hK, hk⟩ := hc
  obtain ⟨h1, h2, h3⟩ := core_ks0 hK
  have hq := new_cI x (hk.mono (fun k _ => trivial)) h2.n h2.cols
  rw [h3] at hq
  refine hq.mono fun e w' ⟨hn, hb⟩ => ?_
  rcases hn with ⟨_, f⟩ | ⟨f, _⟩
  · exact ⟨f, hb⟩
  · exact absurd f hr
def cfg0 : Cfg := ⟨0, ⟨2, 5, 100, 1⟩, 0⟩
theorem right0 : cfg0.c.right := by decide
def st0 : In.St := In.new
def st1 : In.St := ⟨0, 10, 1, 0, [⟨7, 0, 1, [0]⟩], [(10, 1)]⟩
def st2 : In.St := ⟨0, 10, 1, 0, [⟨7, 0, 1, [0]⟩], [(10, 1)]⟩
def st3 : In.St := ⟨0, 10, 1, 1, [⟨7, 0, 1, [0]⟩], [(10, 1)]⟩
def st4 : In.St := ⟨0, 10, 1, 2, [⟨7, 0, 1, [0]⟩], [(10, 1)]⟩
def st5 : In.St := ⟨0, 10, 2, 2, [⟨7, 0, 2, [0, 1]⟩], [(5, 1), (10, 1)]⟩
def st6 : In.St := ⟨0, 10, 2, 3, [⟨7, 0, 2, [0, 1]⟩], [(5, 1), (10, 1)]⟩
theorem ap0 (A : Option Addr) : In.apply cfg0.c st0 (enOf ks0 (entE 0 10 A) [⟨0, 1, []⟩]) = (st1, (0, 0)) := by rfl
theorem ap1 (A : Option Addr) : In.apply cfg0.c st1 (enOf ks0 (entE 0 10 A) [⟨0, 1, []⟩]) = (st2, (0, 5)) := by rfl
theorem ap2 (A : Option Addr) : In.apply cfg0.c st2 (enOf ks0 (entE 1 10 A) [⟨0, 2, []⟩]) = (st3, (0, 22)) := by rfl
theorem ap3 (A : Option Addr) : In.apply cfg0.c st3 (enOf ks0 (entE 1 4 A) [⟨0, 2, []⟩]) = (st4, (0, 20)) := by rfl
theorem ap4 (A : Option Addr) : In.apply cfg0.c st4 (enOf ks0 (entE 1 5 A) [⟨0, 2, []⟩]) = (st5, (1, 0)) := by rfl
theorem ap5 (A : Option Addr) : In.apply cfg0.c st5 (enOf ks0 (entE 2 101 A) [⟨0, 1, []⟩]) = (st6, (0, 21)) := by rfl
theorem iv0 : Iv cfg0.c st0 := iv_new right0
theorem iv1 : Iv cfg0.c st1 := by
  have h := (iv0.apply (enOf ks0 (entE 0 10 none) [⟨0, 1, []⟩]) (by decide) (by decide)).1
  rw [ap0] at h
  exact h
theorem iv2 : Iv cfg0.c st2 := by
  have h := (iv1.apply (enOf ks0 (entE 0 10 none) [⟨0, 1, []⟩]) (by decide) (by decide)).1
  rw [ap1] at h
  exact h
theorem iv3 : Iv cfg0.c st3 := by
  have h := (iv2.apply (enOf ks0 (entE 1 10 none) [⟨0, 2, []⟩]) (by decide) (by decide)).1
  rw [ap2] at h
  exact h
theorem iv4 : Iv cfg0.c st4 := by
  have h := (iv3.apply (enOf ks0 (entE 1 4 none) [⟨0, 2, []⟩]) (by decide) (by decide)).1
  rw [ap3] at h
  exact h
theorem iv5 : Iv cfg0.c st5 := by
  have h := (iv4.apply (enOf ks0 (entE 1 5 none) [⟨0, 2, []⟩]) (by decide) (by decide)).1
  rw [ap4] at h
  exact h
theorem iv6 : Iv cfg0.c st6 := by
  have h := (iv5.apply (enOf ks0 (entE 2 101 none) [⟨0, 1, []⟩]) (by decide) (by decide)).1
  rw [ap5] at h
  exact h
/-- An entry of the examples, in a partition. -/
theorem hold_ent {F : Nat → Prop} {w0 w : World} {b : Nat} {p : IP} {s s' : In.St} (h : HoldI F w0 w b cfg0.c p s ks0) (hv : Iv cfg0.c s) {seq time n a z : Int} {A : Option Addr} (he : RowV w (.slice A 1 1) [⟨0, n, []⟩]) (ht : I64 time) (ha : In.apply cfg0.c s (enOf ks0 (entE seq time A) [⟨0, n, []⟩]) = (s', (a, z))) :
    Calls Try.prog 13 #[.pointer (some ⟨b, 0, none⟩), (entE seq time A).val] w fun r w' => r = .returned (.tuple #[.int .i64 a, .int .i64 z]) ∧ Hid (∃ p', HoldI F w0 w' b cfg0.c p' s' ks0 ∧ p'.mb = p.mb ∧ Kept (InI b p) w w') := by
  have hq := h.apply hv (e := entE seq time A) (row := [⟨0, n, []⟩]) ⟨he, rfl, ht⟩
  rw [ha] at hq
  exact hq
theorem hold_step {F : Nat → Prop} {w0 w w' : World} {b : Nat} {c : In.C} {p p' : IP} {s s' : In.St} {ks : List In.Kn} (h : HoldI F w0 w b c p s ks) (hb : Below w0.heap.size w0 w) (h2 : HoldI F w0 w' b c p' s' ks ∧ p'.mb = p.mb ∧ Kept (InI b p) w w') : HoldI F w0 w' b c p' s' ks ∧ Below w0.heap.size w0 w' :=
  ⟨h2.1, hb.trans (h2.2.2.toBelow hb.size (fun k hk => by
    have := h.b0
    have := h.m0
    rcases hk with rfl | rfl <;> omega))⟩
set_option maxHeartbeats 8000000 in
theorem small_cI (w : World) : Calls Try.prog 5 #[] w fun r w' => r = .returned (.bool true) ∧ Below w.heap.size w w' := by
  have QK := Lib.hid (known_c w)
  go_enter Try.func5, Try.ntmps5
  go_upto_region 2 with (first
    | (go_at_call 7; refine QK.out.mono ?_; rintro r u0 ⟨ka, kc, rfl, HK, hb0⟩
       have HB0 := Lib.hid hb0
       have qn := new_hold cfg0 (w0 := w) HK.out right0 hb0
       unfold Cfg.val cfg0 at qn
       dsimp only at qn
       have QN := Lib.hid qn
       clear hb0 qn)
    | (go_at_call 6; (with_reducible refine QN.out.mono ?_); rintro r v0 ⟨b, p0, rfl, HH⟩
       have H0 := Lib.hid (show HoldI (fun k => k = b ∨ k = p0.mb) w v0 b cfg0.c p0 st0 ks0 from HH.out.1)
       have HV0 := Lib.hid (HB0.out.trans (HH.out.2.1.mono HB0.out.size))
       clear HH))
  have q0 := entry_c 0 10 1 v0
  unfold entE EE.val at q0
  dsimp only at q0
  have QE0 := Lib.hid q0
  clear q0
  go_upto_region 5 with (first
    | (go_at_call 17; (with_reducible refine QE0.out.mono ?_); rintro r u1 ⟨A0, rfl, HR0, hb⟩
       have HU1 := Lib.hid (HV0.out.trans (hb.mono HV0.out.size))
       have H0u := Lib.hid (H0.out.on hb)
       have q := hold_ent H0u.out iv0 HR0.out (by unfold I64; omega) (ap0 A0)
       unfold entE EE.val at q
       dsimp only at q
       have QA0 := Lib.hid q
       clear hb q)
    | (go_at_call 13; (with_reducible refine QA0.out.mono ?_); rintro r v1 ⟨rfl, HH⟩
       obtain ⟨p1, hp1⟩ := HH.out
       have H1 := Lib.hid (hold_step H0u.out HU1.out hp1).1
       have HV1 := Lib.hid (hold_step H0u.out HU1.out hp1).2
       clear HH hp1))
  have q1 := entry_c 0 10 1 v1
  unfold entE EE.val at q1
  dsimp only at q1
  have QE1 := Lib.hid q1
  clear q1
  go_upto_region 6 with (first
    | (go_at_call 17; (with_reducible refine QE1.out.mono ?_); rintro r u2 ⟨A1, rfl, HR1, hb⟩
       have HU2 := Lib.hid (HV1.out.trans (hb.mono HV1.out.size))
       have H1u := Lib.hid (H1.out.on hb)
       have q := hold_ent H1u.out iv1 HR1.out (by unfold I64; omega) (ap1 A1)
       unfold entE EE.val at q
       dsimp only at q
       have QA1 := Lib.hid q
       clear hb q)
    | (go_at_call 13; (with_reducible refine QA1.out.mono ?_); rintro r v2 ⟨rfl, HH⟩
       obtain ⟨p2, hp2⟩ := HH.out
       have H2 := Lib.hid (hold_step H1u.out HU2.out hp2).1
       have HV2 := Lib.hid (hold_step H1u.out HU2.out hp2).2
       clear HH hp2))
  have q2 := entry_c 1 10 2 v2
  unfold entE EE.val at q2
  dsimp only at q2
  have QE2 := Lib.hid q2
  clear q2
  go_upto_region 7 with (first
    | (go_at_call 17; (with_reducible refine QE2.out.mono ?_); rintro r u3 ⟨A2, rfl, HR2, hb⟩
       have HU3 := Lib.hid (HV2.out.trans (hb.mono HV2.out.size))
       have H2u := Lib.hid (H2.out.on hb)
       have q := hold_ent H2u.out iv2 HR2.out (by unfold I64; omega) (ap2 A2)
       unfold entE EE.val at q
       dsimp only at q
       have QA2 := Lib.hid q
       clear hb q)
    | (go_at_call 13; (with_reducible refine QA2.out.mono ?_); rintro r v3 ⟨rfl, HH⟩
       obtain ⟨p3, hp3⟩ := HH.out
       have H3 := Lib.hid (hold_step H2u.out HU3.out hp3).1
       have HV3 := Lib.hid (hold_step H2u.out HU3.out hp3).2
       clear HH hp3))
  have q3 := entry_c 1 4 2 v3
  unfold entE EE.val at q3
  dsimp only at q3
  have QE3 := Lib.hid q3
  clear q3
  go_upto_region 8 with (first
    | (go_at_call 17; (with_reducible refine QE3.out.mono ?_); rintro r u4 ⟨A3, rfl, HR3, hb⟩
       have HU4 := Lib.hid (HV3.out.trans (hb.mono HV3.out.size))
       have H3u := Lib.hid (H3.out.on hb)
       have q := hold_ent H3u.out iv3 HR3.out (by unfold I64; omega) (ap3 A3)
       unfold entE EE.val at q
       dsimp only at q
       have QA3 := Lib.hid q
       clear hb q)
    | (go_at_call 13; (with_reducible refine QA3.out.mono ?_); rintro r v4 ⟨rfl, HH⟩
       obtain ⟨p4, hp4⟩ := HH.out
       have H4 := Lib.hid (hold_step H3u.out HU4.out hp4).1
       have HV4 := Lib.hid (hold_step H3u.out HU4.out hp4).2
       clear HH hp4))
  have q4 := entry_c 1 5 2 v4
  unfold entE EE.val at q4
  dsimp only at q4
  have QE4 := Lib.hid q4
  clear q4
  go_upto_region 9 with (first
    | (go_at_call 17; (with_reducible refine QE4.out.mono ?_); rintro r u5 ⟨A4, rfl, HR4, hb⟩
       have HU5 := Lib.hid (HV4.out.trans (hb.mono HV4.out.size))
       have H4u := Lib.hid (H4.out.on hb)
       have q := hold_ent H4u.out iv4 HR4.out (by unfold I64; omega) (ap4 A4)
       unfold entE EE.val at q
       dsimp only at q
       have QA4 := Lib.hid q
       clear hb q)
    | (go_at_call 13; (with_reducible refine QA4.out.mono ?_); rintro r v5 ⟨rfl, HH⟩
       obtain ⟨p5, hp5⟩ := HH.out
       have H5 := Lib.hid (hold_step H4u.out HU5.out hp5).1
       have HV5 := Lib.hid (hold_step H4u.out HU5.out hp5).2
       clear HH hp5))
  have q5 := entry_c 2 101 1 v5
  unfold entE EE.val at q5
  dsimp only at q5
  have QE5 := Lib.hid q5
  clear q5
  go_upto_region 10 with (first
    | (go_at_call 17; (with_reducible refine QE5.out.mono ?_); rintro r u6 ⟨A5, rfl, HR5, hb⟩
       have HU6 := Lib.hid (HV5.out.trans (hb.mono HV5.out.size))
       have H5u := Lib.hid (H5.out.on hb)
       have q := hold_ent H5u.out iv5 HR5.out (by unfold I64; omega) (ap5 A5)
       unfold entE EE.val at q
       dsimp only at q
       have QA5 := Lib.hid q
       clear hb q)
    | (go_at_call 13; (with_reducible refine QA5.out.mono ?_); rintro r v6 ⟨rfl, HH⟩
       obtain ⟨p6, hp6⟩ := HH.out
       have H6 := Lib.hid (hold_step H5u.out HU6.out hp6).1
       have HV6 := Lib.hid (hold_step H5u.out HU6.out hp6).2
       clear HH hp6))
  have QC := Lib.hid (fun m => closed_cI (H6.out.at'.drewN m) iv6.sm)
  have QM := Lib.hid (fun m => mark_cI (H6.out.at'.drewN m) iv6.sm)
  have QR := Lib.hid (fun m => refused_cI (H6.out.at'.drewN m))
  rw [show In.closed cfg0.c st6 = 4 by decide] at QC
  rw [show In.mark cfg0.c st6 = 7 by decide] at QM
  rw [show st6.refused = 3 by rfl] at QR
  go_wp2_with (first
    | (go_at_call 10; refine (QC.out 0).mono ?_; rintro r v7 ⟨rfl, m, hv7⟩; rw [hv7]; clear hv7)
    | (go_at_call 11; refine (QM.out _).mono ?_; rintro r v8 ⟨rfl, m2, hv8⟩; rw [hv8]; clear hv8)
    | (go_at_call 18; refine (QR.out _).mono ?_; rintro r v9 ⟨rfl, hv9⟩; rw [hv9]; clear hv9))
  go_ret
  exact ⟨rfl, HV6.out.trans ((drew_below _ _).mono HV6.out.size)⟩
end Go.Proofs.Ytmgpfkckafdbmaa
