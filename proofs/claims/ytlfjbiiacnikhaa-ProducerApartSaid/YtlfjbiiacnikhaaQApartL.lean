/-
  ProducerApart: what one producer does changes nothing for others.
-/
import Derived.Test.YtlfjbiiacnikhaaQOpen
import Derived.Test.YtlfjbiiacnikhaaQApart
namespace Go.Proofs.Ytlfjbiiacnikhaa
set_option maxRecDepth 100000
open Go Go.RowKit Pq

set_option maxHeartbeats 8000000 in
theorem apart_law {w : World} {v : Value} {l : List PP} (h : TabIn w v l) (a b : EE) (pos : Int) :
    Calls Try.prog 4 #[v, a.val, b.val, .int .i64 pos] w fun r w' => r = .returned (.bool true) ∧ Below w.heap.size w w' := by
  obtain ⟨⟨sa, sc, rfl, htb⟩, hlen, hlens⟩ := h
  obtain ⟨W2, hW2⟩ : ∃ W2, W2 = (w.alloc a.obj).alloc b.obj := ⟨_, rfl⟩
  have HB0 := Lib.hid (show Below w.heap.size w W2 by rw [hW2]; exact ((Below.refl _ _).alloc (Nat.le_refl _) _).alloc (by simp) _)
  have HA := Lib.hid (show W2.heap[w.heap.size]? = some a.obj by rw [hW2]; exact box_on (box_new w _) (below_new _ _))
  have HBb := Lib.hid (show W2.heap[w.heap.size + 1]? = some b.obj by
    have h0 := box_new (w.alloc a.obj) b.obj
    rw [← hW2] at h0
    simpa using h0)
  have HT := Lib.hid (htb.on HB0.out)
  have QF := Lib.hid (few_c (HT.out.row) hlen hlens)
  obtain ⟨L, hL⟩ : ∃ L, L = l.length := ⟨_, rfl⟩
  have HL := Lib.hid hL
  rw [← hL] at hlen ⊢
  have HLens := Lib.hid hlens
  clear htb hlens hL QF
  obtain ⟨akd, apr, aep, asq, asrc, asc, atm, ara, arn, arc⟩ := a
  obtain ⟨bkd, bpr, bep, bsq, bsrc, bsc, btm, bra, brn, brc⟩ := b
  unfold EE.obj at hW2
  unfold EE.val
  dsimp only at *
  obtain ⟨ca0, ca1, ca2, ca3, ca4, ca5, ca6, ca7⟩ := EE.cells HA.out; obtain ⟨cb0, cb1, cb2, cb3, cb4, cb5, cb6, cb7⟩ := EE.cells HBb.out; dsimp only at ca0 ca1 ca2 ca3 ca4 ca5 ca6 ca7 cb0 cb1 cb2 cb3 cb4 cb5 cb6 cb7
  have q1 := small_c W2
  have Q1 := Lib.hid q1
  clear q1
  go_enter Try.func4, Try.ntmps4
  go_upto_region 1 with fail
  rw [← hW2]
  clear hW2
  go_upto_region 2 with (go_at_call 5; refine Q1.out.mono ?_; rintro r w1 ⟨rfl, hb1⟩; have HB0 := Lib.hid (HB0.out.trans (hb1.mono HB0.out.size)); have HA := Lib.hid (box_on HA.out hb1); have HBb := Lib.hid (box_on HBb.out hb1); have HT := Lib.hid (HT.out.on hb1); clear hb1 ca0 ca1 ca2 ca3 ca4 ca5 ca6 ca7 cb0 cb1 cb2 cb3 cb4 cb5 cb6 cb7; obtain ⟨ca0, ca1, ca2, ca3, ca4, ca5, ca6, ca7⟩ := EE.cells HA.out; obtain ⟨cb0, cb1, cb2, cb3, cb4, cb5, cb6, cb7⟩ := EE.cells HBb.out; dsimp only at ca0 ca1 ca2 ca3 ca4 ca5 ca6 ca7 cb0 cb1 cb2 cb3 cb4 cb5 cb6 cb7)
  have q2 := few_c HT.out.row (by rw [← HL.out]; exact hlen) HLens.out
  rw [← HL.out] at q2
  have Q2 := Lib.hid q2
  clear q2
  by_cases hF : Few l
  case neg =>
    have D1 := Lib.hid (decide_eq_false hF)
    go_wp2_with (go_at_call 11; refine Q2.out.mono ?_; rintro r w2 ⟨rfl, hw2⟩; rw [hw2]; clear hw2; rw [D1.out])
    go_ret
    exact ⟨rfl, HB0.out⟩
  have D1 := Lib.hid (decide_eq_true hF)
  have q3 := refRight_c HT.out hF.1 hF.2
  rw [← HL.out] at q3
  have Q3 := Lib.hid q3
  clear q3 hF
  by_cases hR : Right (tab l)
  case neg =>
    have D2 := Lib.hid (decide_eq_false hR)
    clear hR
    go_wp2_with (first | (go_at_call 11; refine Q2.out.mono ?_; rintro r w2 ⟨rfl, hw2⟩; rw [hw2]; clear hw2; rw [D1.out]) | (go_at_call 12; refine Q3.out.mono ?_; rintro r w3 ⟨rfl, hb3⟩; rw [D2.out]))
    go_ret
    exact ⟨rfl, HB0.out.trans (hb3.mono HB0.out.size)⟩
  have D2 := Lib.hid (decide_eq_true hR)
  have HR := Lib.hid hR
  clear hR
  by_cases hp : apr = bpr
  case pos =>
    have hpp : (apr == bpr) = true := by simpa using hp
    clear hp
    go_wp2_with (first | (go_at_call 11; refine Q2.out.mono ?_; rintro r w2 ⟨rfl, hw2⟩; rw [hw2]; clear hw2; rw [D1.out]) | (go_at_call 12; refine Q3.out.mono ?_; rintro r w3 ⟨rfl, hb3⟩; rw [D2.out]; have HB0 := Lib.hid (HB0.out.trans (hb3.mono HB0.out.size)); have HA := Lib.hid (box_on HA.out hb3); have HBb := Lib.hid (box_on HBb.out hb3); have HT := Lib.hid (HT.out.on hb3); clear hb3 ca0 ca1 ca2 ca3 ca4 ca5 ca6 ca7 cb0 cb1 cb2 cb3 cb4 cb5 cb6 cb7; obtain ⟨ca0, ca1, ca2, ca3, ca4, ca5, ca6, ca7⟩ := EE.cells HA.out; obtain ⟨cb0, cb1, cb2, cb3, cb4, cb5, cb6, cb7⟩ := EE.cells HBb.out; dsimp only at ca0 ca1 ca2 ca3 ca4 ca5 ca6 ca7 cb0 cb1 cb2 cb3 cb4 cb5 cb6 cb7))
    go_ret
    exact ⟨rfl, HB0.out⟩
  have hpp : (apr == bpr) = false := by simpa using hp
  have HP := Lib.hid hp
  clear hp
  by_cases h49 : 49 ≤ L
  case pos =>
    have h49' : (49 : Int) ≤ (L : Int) := by omega
    go_wp2_with (first | (go_at_call 11; refine Q2.out.mono ?_; rintro r w2 ⟨rfl, hw2⟩; rw [hw2]; clear hw2; rw [D1.out]) | (go_at_call 12; refine Q3.out.mono ?_; rintro r w3 ⟨rfl, hb3⟩; rw [D2.out]; have HB0 := Lib.hid (HB0.out.trans (hb3.mono HB0.out.size)); have HA := Lib.hid (box_on HA.out hb3); have HBb := Lib.hid (box_on HBb.out hb3); have HT := Lib.hid (HT.out.on hb3); clear hb3 ca0 ca1 ca2 ca3 ca4 ca5 ca6 ca7 cb0 cb1 cb2 cb3 cb4 cb5 cb6 cb7; obtain ⟨ca0, ca1, ca2, ca3, ca4, ca5, ca6, ca7⟩ := EE.cells HA.out; obtain ⟨cb0, cb1, cb2, cb3, cb4, cb5, cb6, cb7⟩ := EE.cells HBb.out; dsimp only at ca0 ca1 ca2 ca3 ca4 ca5 ca6 ca7 cb0 cb1 cb2 cb3 cb4 cb5 cb6 cb7))
    go_ret
    exact ⟨rfl, HB0.out⟩
  have h49' : ¬ (49 : Int) ≤ (L : Int) := by omega
  have h48 : (tab l).length ≤ 48 := by rw [tab_length, ← HL.out]; omega
  obtain ⟨ap1, ap2, ap3⟩ := apart_put HR.out h48 HP.out bep bsq aep asq pos
  have AP1 := Lib.hid ap1
  have AP2 := Lib.hid ap2
  have AF := Lib.hid (fun u ep z (hf : fence (Pq.put (tab l) bpr bep bsq pos) bpr = (some (u, ep), z)) => apart_fence HR.out h48 HP.out hf aep asq bep bsq)
  clear h49 h48 ap1 ap2 ap3
  go_upto_region 4 with (first | (go_at_call 11; refine Q2.out.mono ?_; rintro r w2 ⟨rfl, hw2⟩; rw [hw2]; clear hw2; rw [D1.out]) | (go_at_call 12; refine Q3.out.mono ?_; rintro r w3 ⟨rfl, hb3⟩; rw [D2.out]; have HB0 := Lib.hid (HB0.out.trans (hb3.mono HB0.out.size)); have HA := Lib.hid (box_on HA.out hb3); have HBb := Lib.hid (box_on HBb.out hb3); have HT := Lib.hid (HT.out.on hb3); clear hb3 ca0 ca1 ca2 ca3 ca4 ca5 ca6 ca7 cb0 cb1 cb2 cb3 cb4 cb5 cb6 cb7; obtain ⟨ca0, ca1, ca2, ca3, ca4, ca5, ca6, ca7⟩ := EE.cells HA.out; obtain ⟨cb0, cb1, cb2, cb3, cb4, cb5, cb6, cb7⟩ := EE.cells HBb.out; dsimp only at ca0 ca1 ca2 ca3 ca4 ca5 ca6 ca7 cb0 cb1 cb2 cb3 cb4 cb5 cb6 cb7))
  obtain ⟨n0, hn0⟩ : ∃ n0, n0 = (Pq.look (tab l) apr aep asq).1 := ⟨_, rfl⟩
  obtain ⟨e0, he0⟩ : ∃ e0, e0 = (Pq.look (tab l) apr aep asq).2 := ⟨_, rfl⟩
  have N0 := Lib.hid hn0
  have E0 := Lib.hid he0
  clear hn0 he0
  have q4 := look_c HT.out HR.out (⟨akd, apr, aep, asq, asrc, asc, atm, ara, arn, arc⟩ : EE)
  unfold EE.val at q4
  dsimp only at q4
  rw [← HL.out, ← N0.out, ← E0.out] at q4
  have Q4 := Lib.hid q4
  clear q4
  go_upto_region 5 with (go_at_call 7; (with_reducible refine Q4.out.mono ?_); rintro r w4 ⟨rfl, hb4⟩; have HB0 := Lib.hid (HB0.out.trans (hb4.mono HB0.out.size)); have HA := Lib.hid (box_on HA.out hb4); have HBb := Lib.hid (box_on HBb.out hb4); have HT := Lib.hid (HT.out.on hb4); clear hb4 ca0 ca1 ca2 ca3 ca4 ca5 ca6 ca7 cb0 cb1 cb2 cb3 cb4 cb5 cb6 cb7; obtain ⟨ca0, ca1, ca2, ca3, ca4, ca5, ca6, ca7⟩ := EE.cells HA.out; obtain ⟨cb0, cb1, cb2, cb3, cb4, cb5, cb6, cb7⟩ := EE.cells HBb.out; dsimp only at ca0 ca1 ca2 ca3 ca4 ca5 ca6 ca7 cb0 cb1 cb2 cb3 cb4 cb5 cb6 cb7)
  have q5 := put_c HT.out HR.out (⟨bkd, bpr, bep, bsq, bsrc, bsc, btm, bra, brn, brc⟩ : EE) pos
  unfold EE.val at q5
  dsimp only at q5
  rw [← HL.out] at q5
  have Q5 := Lib.hid q5
  clear q5
  go_upto_region 6 with (go_at_call 9; (with_reducible refine Q5.out.mono ?_); rintro r w5 ⟨⟨a1, c1, l1, rfl, e1, t1⟩, hb5⟩; have HB0 := Lib.hid (HB0.out.trans (hb5.mono HB0.out.size)); have HA := Lib.hid (box_on HA.out hb5); have HBb := Lib.hid (box_on HBb.out hb5); have HT := Lib.hid (HT.out.on hb5); clear hb5 ca0 ca1 ca2 ca3 ca4 ca5 ca6 ca7 cb0 cb1 cb2 cb3 cb4 cb5 cb6 cb7; obtain ⟨ca0, ca1, ca2, ca3, ca4, ca5, ca6, ca7⟩ := EE.cells HA.out; obtain ⟨cb0, cb1, cb2, cb3, cb4, cb5, cb6, cb7⟩ := EE.cells HBb.out; dsimp only at ca0 ca1 ca2 ca3 ca4 ca5 ca6 ca7 cb0 cb1 cb2 cb3 cb4 cb5 cb6 cb7; have E1 := Lib.hid e1; have H1 := Lib.hid t1; clear e1 t1)
  have q6 := look_c H1.out (by rw [E1.out]; exact AP2.out) (⟨akd, apr, aep, asq, asrc, asc, atm, ara, arn, arc⟩ : EE)
  unfold EE.val at q6
  dsimp only at q6
  rw [E1.out, AP1.out, ← N0.out, ← E0.out] at q6
  have Q6 := Lib.hid q6
  clear q6
  go_upto_region 7 with (go_at_call 7; (with_reducible refine Q6.out.mono ?_); rintro r w6 ⟨rfl, hb6⟩; have HB0 := Lib.hid (HB0.out.trans (hb6.mono HB0.out.size)); have HA := Lib.hid (box_on HA.out hb6); have HBb := Lib.hid (box_on HBb.out hb6); have HT := Lib.hid (HT.out.on hb6); have H1 := Lib.hid (H1.out.on hb6); clear hb6 ca0 ca1 ca2 ca3 ca4 ca5 ca6 ca7 cb0 cb1 cb2 cb3 cb4 cb5 cb6 cb7; obtain ⟨ca0, ca1, ca2, ca3, ca4, ca5, ca6, ca7⟩ := EE.cells HA.out; obtain ⟨cb0, cb1, cb2, cb3, cb4, cb5, cb6, cb7⟩ := EE.cells HBb.out; dsimp only at ca0 ca1 ca2 ca3 ca4 ca5 ca6 ca7 cb0 cb1 cb2 cb3 cb4 cb5 cb6 cb7)
  have hn : (n0 != n0) = false := by simp
  have he : (e0 != e0) = false := by simp
  have hl1 : l1.length ≤ 50 := by have := AP2.out.1; rw [← E1.out, tab_length] at this; exact this
  have hls1 : ∀ x ∈ l1, x.p.last.length ≤ 9223372036854775807 := fun x hx => by
    have hm : x.p ∈ tab l1 := List.mem_map_of_mem hx
    rw [E1.out] at hm
    have := (Tab.mem AP2.out.2 hm).2.2.len
    omega
  have q7 := rightT_c H1.out (by omega) hls1
  rw [E1.out, decide_eq_true AP2.out] at q7
  have Q7 := Lib.hid q7
  clear q7 hls1 hl1
  go_upto_region 9 with (go_at_call 10; (with_reducible refine Q7.out.mono ?_); rintro r w7 ⟨rfl, hb7⟩; have HB0 := Lib.hid (HB0.out.trans (hb7.mono HB0.out.size)); have HA := Lib.hid (box_on HA.out hb7); have HBb := Lib.hid (box_on HBb.out hb7); have HT := Lib.hid (HT.out.on hb7); have H1 := Lib.hid (H1.out.on hb7); clear hb7 ca0 ca1 ca2 ca3 ca4 ca5 ca6 ca7 cb0 cb1 cb2 cb3 cb4 cb5 cb6 cb7; obtain ⟨ca0, ca1, ca2, ca3, ca4, ca5, ca6, ca7⟩ := EE.cells HA.out; obtain ⟨cb0, cb1, cb2, cb3, cb4, cb5, cb6, cb7⟩ := EE.cells HBb.out; dsimp only at ca0 ca1 ca2 ca3 ca4 ca5 ca6 ca7 cb0 cb1 cb2 cb3 cb4 cb5 cb6 cb7)
  have q8 := fence_c H1.out (by rw [E1.out]; exact AP2.out) bpr
  rw [E1.out] at q8
  have Q8 := Lib.hid q8
  clear q8
  go_upto_region 10 with (go_at_call 6; (with_reducible refine Q8.out.mono ?_); rintro r w8 ⟨⟨a2, c2, l2, ep2, z2, rfl, t2, hf⟩, hb8⟩; have HB0 := Lib.hid (HB0.out.trans (hb8.mono HB0.out.size)); have HA := Lib.hid (box_on HA.out hb8); have HBb := Lib.hid (box_on HBb.out hb8); have HT := Lib.hid (HT.out.on hb8); have H1 := Lib.hid (H1.out.on hb8); clear hb8 ca0 ca1 ca2 ca3 ca4 ca5 ca6 ca7 cb0 cb1 cb2 cb3 cb4 cb5 cb6 cb7; obtain ⟨ca0, ca1, ca2, ca3, ca4, ca5, ca6, ca7⟩ := EE.cells HA.out; obtain ⟨cb0, cb1, cb2, cb3, cb4, cb5, cb6, cb7⟩ := EE.cells HBb.out; dsimp only at ca0 ca1 ca2 ca3 ca4 ca5 ca6 ca7 cb0 cb1 cb2 cb3 cb4 cb5 cb6 cb7; have H2 := Lib.hid t2; have HF2 := Lib.hid hf; clear hf t2)
  by_cases hz : z2 = 0
  case neg =>
    have hz' : (z2 != 0) = true := by simpa using hz
    clear hz
    go_wp2_with fail
    go_ret
    exact ⟨rfl, HB0.out⟩
  have hz' : (z2 != 0) = false := by simpa using hz
  have hfe : fence (Pq.put (tab l) bpr bep bsq pos) bpr = (some (tab l2, ep2), z2) := HF2.out.elim (fun f => absurd hz f.2.2.2) (fun f => f.1)
  obtain ⟨k1, k2, k3⟩ := AF.out _ _ _ hfe
  have K1 := Lib.hid k1
  have K2 := Lib.hid k2
  have K3 := Lib.hid k3
  clear hz hfe k1 k2 k3
  have q9 := look_c H2.out K2.out (⟨akd, apr, aep, asq, asrc, asc, atm, ara, arn, arc⟩ : EE)
  unfold EE.val at q9
  dsimp only at q9
  rw [K1.out, ← N0.out, ← E0.out] at q9
  have Q9 := Lib.hid q9
  clear q9
  go_upto_region 13 with (go_at_call 7; (with_reducible refine Q9.out.mono ?_); rintro r w9 ⟨rfl, hb9⟩; have HB0 := Lib.hid (HB0.out.trans (hb9.mono HB0.out.size)); have HA := Lib.hid (box_on HA.out hb9); have HBb := Lib.hid (box_on HBb.out hb9); have HT := Lib.hid (HT.out.on hb9); have H1 := Lib.hid (H1.out.on hb9); have H2 := Lib.hid (H2.out.on hb9); clear hb9 ca0 ca1 ca2 ca3 ca4 ca5 ca6 ca7 cb0 cb1 cb2 cb3 cb4 cb5 cb6 cb7; obtain ⟨ca0, ca1, ca2, ca3, ca4, ca5, ca6, ca7⟩ := EE.cells HA.out; obtain ⟨cb0, cb1, cb2, cb3, cb4, cb5, cb6, cb7⟩ := EE.cells HBb.out; dsimp only at ca0 ca1 ca2 ca3 ca4 ca5 ca6 ca7 cb0 cb1 cb2 cb3 cb4 cb5 cb6 cb7)
  obtain ⟨z3, hz3⟩ : ∃ z3, z3 = (Pq.look (Pq.put (tab l) bpr bep bsq pos) bpr bep bsq).2 := ⟨_, rfl⟩
  obtain ⟨z4, hz4⟩ : ∃ z4, z4 = (Pq.look (tab l2) bpr bep bsq).2 := ⟨_, rfl⟩
  have h34 : z4 = 0 → z3 = 25 := by rw [hz3, hz4]; exact K3.out
  have Z3 := Lib.hid hz3
  have Z4 := Lib.hid hz4
  clear hz3 hz4
  have q10 := look_c H1.out (by rw [E1.out]; exact AP2.out) (⟨bkd, bpr, bep, bsq, bsrc, bsc, btm, bra, brn, brc⟩ : EE)
  unfold EE.val at q10
  dsimp only at q10
  rw [E1.out, ← Z3.out] at q10
  have Q10 := Lib.hid q10
  clear q10
  go_upto_region 14 with (go_at_call 7; (with_reducible refine Q10.out.mono ?_); rintro r w10 ⟨rfl, hb10⟩; have HB0 := Lib.hid (HB0.out.trans (hb10.mono HB0.out.size)); have HA := Lib.hid (box_on HA.out hb10); have HBb := Lib.hid (box_on HBb.out hb10); have HT := Lib.hid (HT.out.on hb10); have H1 := Lib.hid (H1.out.on hb10); have H2 := Lib.hid (H2.out.on hb10); clear hb10 ca0 ca1 ca2 ca3 ca4 ca5 ca6 ca7 cb0 cb1 cb2 cb3 cb4 cb5 cb6 cb7; obtain ⟨ca0, ca1, ca2, ca3, ca4, ca5, ca6, ca7⟩ := EE.cells HA.out; obtain ⟨cb0, cb1, cb2, cb3, cb4, cb5, cb6, cb7⟩ := EE.cells HBb.out; dsimp only at ca0 ca1 ca2 ca3 ca4 ca5 ca6 ca7 cb0 cb1 cb2 cb3 cb4 cb5 cb6 cb7)
  have q11 := look_c H2.out K2.out (⟨bkd, bpr, bep, bsq, bsrc, bsc, btm, bra, brn, brc⟩ : EE)
  unfold EE.val at q11
  dsimp only at q11
  rw [← Z4.out] at q11
  have Q11 := Lib.hid q11
  clear q11
  go_upto_region 15 with (go_at_call 7; (with_reducible refine Q11.out.mono ?_); rintro r w11 ⟨rfl, hb11⟩; have HB0 := Lib.hid (HB0.out.trans (hb11.mono HB0.out.size)); have HA := Lib.hid (box_on HA.out hb11); have HBb := Lib.hid (box_on HBb.out hb11); have HT := Lib.hid (HT.out.on hb11); have H1 := Lib.hid (H1.out.on hb11); have H2 := Lib.hid (H2.out.on hb11); clear hb11 ca0 ca1 ca2 ca3 ca4 ca5 ca6 ca7 cb0 cb1 cb2 cb3 cb4 cb5 cb6 cb7; obtain ⟨ca0, ca1, ca2, ca3, ca4, ca5, ca6, ca7⟩ := EE.cells HA.out; obtain ⟨cb0, cb1, cb2, cb3, cb4, cb5, cb6, cb7⟩ := EE.cells HBb.out; dsimp only at ca0 ca1 ca2 ca3 ca4 ca5 ca6 ca7 cb0 cb1 cb2 cb3 cb4 cb5 cb6 cb7)
  have hl2 : l2.length ≤ 50 := by have := K2.out.1; rwa [tab_length] at this
  have hls2 : ∀ x ∈ l2, x.p.last.length ≤ 9223372036854775807 := fun x hx => by
    have := (Tab.mem K2.out.2 (show x.p ∈ tab l2 from List.mem_map_of_mem hx)).2.2.len
    omega
  have q12 := rightT_c H2.out (by omega) hls2
  rw [decide_eq_true K2.out] at q12
  have Q12 := Lib.hid q12
  clear q12 hls2 hl2
  have hnn : (n0 == n0) = true := by simp
  have hee : (e0 == e0) = true := by simp
  by_cases g4 : z4 = 0
  · have g3 : (z3 == 25) = true := by simpa using h34 g4
    clear h34 g4
    go_wp2_with (go_at_call 10; (with_reducible refine Q12.out.mono ?_); rintro r w12 ⟨rfl, hb12⟩)
    go_ret
    exact ⟨rfl, HB0.out.trans (hb12.mono HB0.out.size)⟩
  · have g4' : (z4 != 0) = true := by simpa using g4
    clear h34 g4
    cases g3 : (z3 == 25) with
    | true =>
      go_wp2_with (go_at_call 10; (with_reducible refine Q12.out.mono ?_); rintro r w12 ⟨rfl, hb12⟩)
      go_ret
      exact ⟨rfl, HB0.out.trans (hb12.mono HB0.out.size)⟩
    | false =>
      go_wp2_with (go_at_call 10; (with_reducible refine Q12.out.mono ?_); rintro r w12 ⟨rfl, hb12⟩)
      go_ret
      exact ⟨rfl, HB0.out.trans (hb12.mono HB0.out.size)⟩
end Go.Proofs.Ytlfjbiiacnikhaa
