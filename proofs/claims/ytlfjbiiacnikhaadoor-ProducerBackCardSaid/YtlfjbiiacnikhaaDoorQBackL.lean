/-
  ProducerBack: a table is read from its encoding as it was; what is read of a string is right, and has this encoding.
-/
import Derived.Test.YtlfjbiiacnikhaaDoorQRd
import Derived.Test.YtlfjbiiacnikhaaDoorQSame
namespace Go.Proofs.YtlfjbiiacnikhaaDoor
set_option maxRecDepth 100000
open Go Go.RowKit Go.Sort Wire Pq

theorem eInt_len {n : Int} (h : InR n) : (eInt n).length ≤ 21 := by
  unfold eInt
  rw [List.length_append]
  have := itoa_len n h
  simp
  omega
theorem flat_le {α : Type} (f : α → List UInt8) (m : Nat) : ∀ (l : List α), (∀ x ∈ l, (f x).length ≤ m) → (l.flatMap f).length ≤ l.length * m
  | [], _ => by simp
  | x :: l, h => by
    rw [List.flatMap_cons, List.length_append, List.length_cons, Nat.add_mul]
    have h1 := h x (List.mem_cons_self ..)
    have h2 := flat_le f m l (fun y hy => h y (List.mem_cons_of_mem _ hy))
    omega
theorem eP_len {p : P} (h : OkP p) (hi : inB p.id) : (eP p).length ≤ 600 := by
  obtain ⟨w0, w1, w2, w3, w4⟩ := h.wr hi
  have hl : p.last.length ≤ 20 := by have := h.len; omega
  have a0 := eInt_len w0
  have a1 := eInt_len w1
  have a2 := eInt_len w2
  have a3 := flat_le eInt 21 p.last (fun x hx => eInt_len (w4 x hx))
  have a4 := itoa_len (p.last.length : Int) w3
  have e : (eP p).length = (eInt p.id).length + (eInt p.ep).length + (eInt p.nx).length + ((Lib.itoa (p.last.length : Int)).length + 1 + (p.last.flatMap eInt).length + 1) := by
    unfold eP eNums eList
    simp only [List.length_append, List.length_cons, List.length_nil]
  have : p.last.length * 21 ≤ 420 := by omega
  omega
theorem eT_len {s : List P} (h : Right s) : (eT s).length ≤ 100000 := by
  unfold eT
  rw [List.length_append]
  have h1 := h.1
  have a1 : (eNum (s.length : Int)).length ≤ 21 := by
    unfold eNum
    rw [if_neg (by omega)]
    exact eInt_len (by unfold InR; omega)
  have a2 := flat_le eP 600 s (fun p hp => by
    obtain ⟨_, q1, q2⟩ := Tab.mem h.2 hp
    exact eP_len q2 q1)
  have : s.length * 600 ≤ 30000 := by omega
  omega
/-- What a right table allows. -/
theorem right_all {l : List PP} (h : Right (tab l)) : l.length ≤ 50 ∧ (∀ x ∈ l, x.p.last.length ≤ 20) ∧ ∀ x ∈ l, WrP x.p := by
  refine ⟨by have := h.1; rwa [tab_length] at this, fun x hx => ?_, fun x hx => h.wr x.p (List.mem_map_of_mem hx)⟩
  have := (Tab.mem h.2 (show x.p ∈ tab l from List.mem_map_of_mem hx)).2.2.len
  omega
theorem bytes_r {w : World} {a : Option Addr} {c : Nat} {l : List PP} (h : Tb (fun _ => True) w a c l) (hr : Right (tab l)) (hg : Good w) : Calls Tryd.prog 7 #[.slice a l.length c] w fun e w' => e = .returned (.string ⟨(eT (tab l)).toArray⟩) ∧ Below w.heap.size w w' := by
  obtain ⟨h1, h2, h3⟩ := right_all hr
  exact bytes_c h h3 (by have := eT_len hr; omega) (by omega) (fun x hx => by have := h2 x hx; omega) hg
theorem right_r {w : World} {a : Option Addr} {c : Nat} {l : List PP} (h : Tb (fun _ => True) w a c l) (hr : Right (tab l)) : Calls Tryd.prog 8 #[.slice a l.length c] w fun e w' => e = .returned (.bool true) ∧ Below w.heap.size w w' := by
  obtain ⟨h1, h2, _⟩ := right_all hr
  have q := rightT_c h (by omega) (fun x hx => by have := h2 x hx; omega)
  rwa [decide_eq_true hr] at q
theorem same_r {w : World} {xa ya : Option Addr} {xc yc : Nat} {l m : List PP} (h1 : Tb (fun _ => True) w xa xc l) (h2 : Tb (fun _ => True) w ya yc m) (hlm : tab l = tab m) (hr : Right (tab m)) : Calls Tryd.prog 12 #[.slice xa l.length xc, .slice ya m.length yc] w fun e w' => e = .returned (.bool true) ∧ Below w.heap.size w w' := by
  obtain ⟨g1, g2, _⟩ := right_all (l := l) (by rw [hlm]; exact hr)
  exact same_c h1 h2 hlm (by omega) (fun x hx => by have := g2 x hx; omega)
theorem read_some {w' : World} {S : List UInt8} {r : Ending} {t : List P} (h : ReadIs w' S r) (ht : readT S = some t) : ∃ a c l, r = .returned (.tuple #[.slice a (List.length l) c, .bool true]) ∧ tab l = t ∧ Tb (fun _ => True) w' a c l := by
  rcases h with ⟨a, c, l, h1, h2, h3⟩ | ⟨_, h2⟩
  · rw [ht] at h2
    injection h2 with h2
    exact ⟨a, c, l, h1, h2.symm, h3⟩
  · rw [ht] at h2
    cases h2
theorem read_none {w' : World} {S : List UInt8} {r : Ending} (h : ReadIs w' S r) (ht : readT S = none) : r = .returned (.tuple #[.slice none 0 0, .bool false]) := by
  rcases h with ⟨a, c, l, h1, h2, h3⟩ | ⟨h1, _⟩
  · rw [ht] at h2
    cases h2
  · exact h1
set_option maxHeartbeats 16000000 in
theorem back_law {w : World} {v : Value} {l : List PP} (h : TabIn w v l) (S : List UInt8) (hS : S.length ≤ 9223372036854775807) (e : EE) (pos : Int) (hg : Good w) :
    Calls Tryd.prog 3 #[v, .string ⟨S.toArray⟩, e.val, .int .i64 pos] w fun r w' => r = .returned (.bool true) ∧ Below w.heap.size w w' := by
  obtain ⟨⟨sa, sc, rfl, htb⟩, hlen, hlens⟩ := h
  obtain ⟨W1, hW1⟩ : ∃ W1, W1 = w.alloc e.obj := ⟨_, rfl⟩
  have HB0 := Lib.hid (show Below w.heap.size w W1 by rw [hW1]; exact below_new w _)
  have HA := Lib.hid (show W1.heap[w.heap.size]? = some e.obj by rw [hW1]; exact box_new w _)
  have HT := Lib.hid (htb.on HB0.out)
  have HG := Lib.hid (hg.on HB0.out)
  obtain ⟨L, hL⟩ : ∃ L, L = l.length := ⟨_, rfl⟩
  have HL := Lib.hid hL
  rw [← hL] at hlen ⊢
  have HLens := Lib.hid hlens
  obtain ⟨ES, hES⟩ : ∃ E : ByteArray, E = ⟨S.toArray⟩ := ⟨_, rfl⟩
  have hsz : ES.size = S.length := by rw [hES]; show S.toArray.size = _; simp
  have HES := Lib.hid hES
  rw [← hES]
  clear htb hlens hL hg hES
  obtain ⟨kd, pr, ep, sq, src, sc', tm, ra, rn, rc⟩ := e
  unfold EE.obj at hW1
  unfold EE.val
  dsimp only at *
  obtain ⟨ca0, ca1, ca2, ca3, ca4, ca5, ca6, ca7⟩ := EE.cells HA.out; dsimp only at ca0 ca1 ca2 ca3 ca4 ca5 ca6 ca7
  have Q1 := Lib.hid (small_c W1)
  go_enter Tryd.func3, Tryd.ntmps3
  go_upto_region 1 with fail
  rw [← hW1]
  clear hW1
  go_upto_region 2 with (go_at_call 4; refine Q1.out.mono ?_; rintro r w1 ⟨rfl, hb1⟩; have HB0 := Lib.hid (HB0.out.trans (hb1.mono HB0.out.size)); have HA := Lib.hid (box_on HA.out hb1); have HG := Lib.hid (HG.out.on hb1); have HT := Lib.hid (HT.out.on hb1); clear hb1 ca0 ca1 ca2 ca3 ca4 ca5 ca6 ca7; obtain ⟨ca0, ca1, ca2, ca3, ca4, ca5, ca6, ca7⟩ := EE.cells HA.out; dsimp only at ca0 ca1 ca2 ca3 ca4 ca5 ca6 ca7)
  have q2 := few_c HT.out.row (by rw [← HL.out]; exact hlen) HLens.out
  rw [← HL.out] at q2
  have Q2 := Lib.hid q2
  clear q2
  by_cases hF : Few l
  case neg =>
    have D1 := Lib.hid (decide_eq_false hF)
    go_wp2_with (go_at_call 5; refine Q2.out.mono ?_; rintro r w2 ⟨rfl, hw2⟩; rw [hw2]; clear hw2; rw [D1.out])
    go_ret
    exact ⟨rfl, HB0.out⟩
  have D1 := Lib.hid (decide_eq_true hF)
  by_cases h1000 : 1000 < S.length
  case pos =>
    have h1000' : (1000 : Int) < (S.length : Int) := by omega
    clear hF
    go_wp2_with (go_at_call 5; refine Q2.out.mono ?_; rintro r w2 ⟨rfl, hw2⟩; rw [hw2]; clear hw2; rw [D1.out])
    go_ret
    exact ⟨rfl, HB0.out⟩
  have h1000' : ¬ (1000 : Int) < (S.length : Int) := by omega
  have HF := Lib.hid hF
  have hE1 : (ES.toList == ES.toList) = true := by simp
  have q4 := read_c S (by omega) _ HG.out HG.out.big
  rw [← HES.out] at q4
  have Q4 := Lib.hid q4
  clear hF q4
  go_upto_region 4 with (go_at_call 5; refine Q2.out.mono ?_; rintro r w2 ⟨rfl, hw2⟩; rw [hw2]; clear hw2; rw [D1.out])
  cases hrt : readT S with
  | none =>
    have HRT := Lib.hid hrt
    clear hrt
    go_upto_region 5 with (go_at_call 6; (with_reducible refine Q4.out.mono ?_); rintro r w4 ⟨hrd, hb4⟩; obtain rfl := read_none hrd HRT.out; clear hrd; have HB0 := Lib.hid (HB0.out.trans (hb4.mono HB0.out.size)); have HA := Lib.hid (box_on HA.out hb4); have HG := Lib.hid (HG.out.on hb4); have HT := Lib.hid (HT.out.on hb4); clear hb4 ca0 ca1 ca2 ca3 ca4 ca5 ca6 ca7; obtain ⟨ca0, ca1, ca2, ca3, ca4, ca5, ca6, ca7⟩ := EE.cells HA.out; dsimp only at ca0 ca1 ca2 ca3 ca4 ca5 ca6 ca7)
    go_upto_region 7 with fail
    as_aux_lemma =>
      have q5 := refRight_c HT.out HF.out.1 HF.out.2
      rw [← HL.out] at q5
      have Q5 := Lib.hid q5
      clear q5
      by_cases hR : Right (tab l)
      case neg =>
        have D2 := Lib.hid (decide_eq_false hR)
        clear hR
        go_wp2_with (go_at_call 9; refine Q5.out.mono ?_; rintro r w5 ⟨rfl, hb5⟩; rw [D2.out]; have HB0 := Lib.hid (HB0.out.trans (hb5.mono HB0.out.size)); have HA := Lib.hid (box_on HA.out hb5); have HG := Lib.hid (HG.out.on hb5); have HT := Lib.hid (HT.out.on hb5); clear hb5 ca0 ca1 ca2 ca3 ca4 ca5 ca6 ca7; obtain ⟨ca0, ca1, ca2, ca3, ca4, ca5, ca6, ca7⟩ := EE.cells HA.out; dsimp only at ca0 ca1 ca2 ca3 ca4 ca5 ca6 ca7)
        go_ret
        exact ⟨rfl, HB0.out⟩
      have D2 := Lib.hid (decide_eq_true hR)
      have HR := Lib.hid hR
      clear hR
      go_upto_region 9 with (go_at_call 9; refine Q5.out.mono ?_; rintro r w5 ⟨rfl, hb5⟩; rw [D2.out]; have HB0 := Lib.hid (HB0.out.trans (hb5.mono HB0.out.size)); have HA := Lib.hid (box_on HA.out hb5); have HG := Lib.hid (HG.out.on hb5); have HT := Lib.hid (HT.out.on hb5); clear hb5 ca0 ca1 ca2 ca3 ca4 ca5 ca6 ca7; obtain ⟨ca0, ca1, ca2, ca3, ca4, ca5, ca6, ca7⟩ := EE.cells HA.out; dsimp only at ca0 ca1 ca2 ca3 ca4 ca5 ca6 ca7)
      obtain ⟨EF, hEF⟩ : ∃ E : ByteArray, E = ⟨(eT (tab l)).toArray⟩ := ⟨_, rfl⟩
      have HEF := Lib.hid hEF
      have hF1 : (EF.toList == EF.toList) = true := by simp
      clear hEF
      have q6 := bytes_r HT.out HR.out HG.out
      rw [← HEF.out, ← HL.out] at q6
      have Q6 := Lib.hid q6
      clear q6
      go_upto_region 10 with (go_at_call 7; (with_reducible refine Q6.out.mono ?_); rintro r w6 ⟨rfl, hb6⟩; have HB0 := Lib.hid (HB0.out.trans (hb6.mono HB0.out.size)); have HA := Lib.hid (box_on HA.out hb6); have HG := Lib.hid (HG.out.on hb6); have HT := Lib.hid (HT.out.on hb6); clear hb6 ca0 ca1 ca2 ca3 ca4 ca5 ca6 ca7; obtain ⟨ca0, ca1, ca2, ca3, ca4, ca5, ca6, ca7⟩ := EE.cells HA.out; dsimp only at ca0 ca1 ca2 ca3 ca4 ca5 ca6 ca7)
      have q7 := put_c HT.out HR.out (⟨kd, pr, ep, sq, src, sc', tm, ra, rn, rc⟩ : EE) pos
      unfold EE.val at q7
      dsimp only at q7
      rw [← HL.out] at q7
      have Q7 := Lib.hid q7
      clear q7
      go_upto_region 11 with (go_at_call 10; (with_reducible refine Q7.out.mono ?_); rintro r w7 ⟨⟨a7, c7, l7, rfl, e7, t7⟩, hb7⟩; have HB0 := Lib.hid (HB0.out.trans (hb7.mono HB0.out.size)); have HA := Lib.hid (box_on HA.out hb7); have HG := Lib.hid (HG.out.on hb7); have HT := Lib.hid (HT.out.on hb7); clear hb7 ca0 ca1 ca2 ca3 ca4 ca5 ca6 ca7; obtain ⟨ca0, ca1, ca2, ca3, ca4, ca5, ca6, ca7⟩ := EE.cells HA.out; dsimp only at ca0 ca1 ca2 ca3 ca4 ca5 ca6 ca7; have H7 := Lib.hid t7.any; have E7 := Lib.hid e7; clear t7 e7)
      have q8 := read_c (eT (tab l)) (by have := eT_len HR.out; omega) _ HG.out HG.out.big
      rw [← HEF.out] at q8
      have Q8 := Lib.hid q8
      clear q8
      go_upto_region 12 with (go_at_call 6; (with_reducible refine Q8.out.mono ?_); rintro r w8 ⟨hrd8, hb8⟩; obtain ⟨a8, c8, l8, rfl, e8, t8⟩ := read_some hrd8 (readT_eT HR.out); clear hrd8; have HB0 := Lib.hid (HB0.out.trans (hb8.mono HB0.out.size)); have HA := Lib.hid (box_on HA.out hb8); have HG := Lib.hid (HG.out.on hb8); have HT := Lib.hid (HT.out.on hb8); have H7 := Lib.hid (H7.out.on hb8); clear hb8 ca0 ca1 ca2 ca3 ca4 ca5 ca6 ca7; obtain ⟨ca0, ca1, ca2, ca3, ca4, ca5, ca6, ca7⟩ := EE.cells HA.out; dsimp only at ca0 ca1 ca2 ca3 ca4 ca5 ca6 ca7; have H8 := Lib.hid t8; have E8 := Lib.hid e8; clear t8 e8)
      obtain ⟨z, hz⟩ : ∃ z, z = (Pq.look (tab l) pr ep sq).2 := ⟨_, rfl⟩
      have HZ := Lib.hid hz
      have q9 := look_c HT.out HR.out (⟨kd, pr, ep, sq, src, sc', tm, ra, rn, rc⟩ : EE)
      unfold EE.val at q9
      dsimp only at q9
      rw [← HL.out, ← hz] at q9
      have Q9 := Lib.hid q9
      clear q9 hz
      go_upto_region 13 with (go_at_call 11; (with_reducible refine Q9.out.mono ?_); rintro r w9 ⟨rfl, hb9⟩; have HB0 := Lib.hid (HB0.out.trans (hb9.mono HB0.out.size)); have HA := Lib.hid (box_on HA.out hb9); have HG := Lib.hid (HG.out.on hb9); have HT := Lib.hid (HT.out.on hb9); have H7 := Lib.hid (H7.out.on hb9); have H8 := Lib.hid (H8.out.on hb9); clear hb9 ca0 ca1 ca2 ca3 ca4 ca5 ca6 ca7; obtain ⟨ca0, ca1, ca2, ca3, ca4, ca5, ca6, ca7⟩ := EE.cells HA.out; dsimp only at ca0 ca1 ca2 ca3 ca4 ca5 ca6 ca7)
      have q10 := same_r H8.out HT.out E8.out HR.out
      rw [← HL.out] at q10
      have Q10 := Lib.hid q10
      clear q10
      go_upto_region 15 with (first
        | (go_at_call 12; (with_reducible refine Q10.out.mono ?_); rintro r w10 ⟨rfl, hb10⟩; have HB0 := Lib.hid (HB0.out.trans (hb10.mono HB0.out.size)); have HA := Lib.hid (box_on HA.out hb10); have HG := Lib.hid (HG.out.on hb10); have HT := Lib.hid (HT.out.on hb10); have H7 := Lib.hid (H7.out.on hb10); have H8 := Lib.hid (H8.out.on hb10); clear hb10 ca0 ca1 ca2 ca3 ca4 ca5 ca6 ca7; obtain ⟨ca0, ca1, ca2, ca3, ca4, ca5, ca6, ca7⟩ := EE.cells HA.out; dsimp only at ca0 ca1 ca2 ca3 ca4 ca5 ca6 ca7; have q11 := bytes_r HT.out HR.out HG.out; rw [← HEF.out, ← HL.out] at q11; have Q11 := Lib.hid q11; clear q11)
        | (go_at_call 7; (with_reducible refine Q11.out.mono ?_); rintro r w11 ⟨rfl, hb11⟩; have HB0 := Lib.hid (HB0.out.trans (hb11.mono HB0.out.size)); have HA := Lib.hid (box_on HA.out hb11); have HG := Lib.hid (HG.out.on hb11); have HT := Lib.hid (HT.out.on hb11); have H7 := Lib.hid (H7.out.on hb11); have H8 := Lib.hid (H8.out.on hb11); clear hb11 ca0 ca1 ca2 ca3 ca4 ca5 ca6 ca7; obtain ⟨ca0, ca1, ca2, ca3, ca4, ca5, ca6, ca7⟩ := EE.cells HA.out; dsimp only at ca0 ca1 ca2 ca3 ca4 ca5 ca6 ca7))
      by_cases hz : z = 0
      · have hz' : (z == 0) = true := by simpa using hz
        clear hz
        go_wp2_with fail
        go_ret
        exact ⟨rfl, HB0.out⟩
      · have hz' : (z == 0) = false := by simpa using hz
        have hput : Pq.put (tab l) pr ep sq pos = tab l := by
          unfold Pq.put
          rw [if_neg (fun f => hz (by rw [HZ.out]; exact f.1))]
        have q12 := same_r H7.out HT.out (by rw [E7.out]; exact hput) HR.out
        rw [← HL.out] at q12
        have Q12 := Lib.hid q12
        clear q12 hput hz
        go_wp2_with (go_at_call 12; (with_reducible refine Q12.out.mono ?_); rintro r w12 ⟨rfl, hb12⟩)
        go_ret
        exact ⟨rfl, HB0.out.trans (hb12.mono HB0.out.size)⟩
  | some t =>
    have HRT := Lib.hid hrt
    obtain ⟨hR0, hE0⟩ := readT_some hrt
    have HR0 := Lib.hid hR0
    have HE0 := Lib.hid hE0
    clear hrt hR0 hE0
    go_upto_region 5 with (go_at_call 6; (with_reducible refine Q4.out.mono ?_); rintro r w4 ⟨hrd, hb4⟩; obtain ⟨a4, c4, l4, rfl, e4, t4⟩ := read_some hrd HRT.out; clear hrd; have HB0 := Lib.hid (HB0.out.trans (hb4.mono HB0.out.size)); have HA := Lib.hid (box_on HA.out hb4); have HG := Lib.hid (HG.out.on hb4); have HT := Lib.hid (HT.out.on hb4); clear hb4 ca0 ca1 ca2 ca3 ca4 ca5 ca6 ca7; obtain ⟨ca0, ca1, ca2, ca3, ca4, ca5, ca6, ca7⟩ := EE.cells HA.out; dsimp only at ca0 ca1 ca2 ca3 ca4 ca5 ca6 ca7; have H4 := Lib.hid t4; have E4 := Lib.hid e4; clear t4 e4)
    have qa := bytes_r H4.out (by rw [E4.out]; exact HR0.out) HG.out
    rw [E4.out, HE0.out, ← HES.out] at qa
    have QA := Lib.hid qa
    clear qa
    go_upto_region 7 with (first
      | (go_at_call 7; (with_reducible refine QA.out.mono ?_); rintro r w45 ⟨rfl, hb45⟩; have HB0 := Lib.hid (HB0.out.trans (hb45.mono HB0.out.size)); have HA := Lib.hid (box_on HA.out hb45); have HG := Lib.hid (HG.out.on hb45); have HT := Lib.hid (HT.out.on hb45); have H4 := Lib.hid (H4.out.on hb45); clear hb45 ca0 ca1 ca2 ca3 ca4 ca5 ca6 ca7; obtain ⟨ca0, ca1, ca2, ca3, ca4, ca5, ca6, ca7⟩ := EE.cells HA.out; dsimp only at ca0 ca1 ca2 ca3 ca4 ca5 ca6 ca7; have QB := Lib.hid (right_r H4.out (by rw [E4.out]; exact HR0.out)))
      | (go_at_call 8; (with_reducible refine QB.out.mono ?_); rintro r w46 ⟨rfl, hb46⟩; have HB0 := Lib.hid (HB0.out.trans (hb46.mono HB0.out.size)); have HA := Lib.hid (box_on HA.out hb46); have HG := Lib.hid (HG.out.on hb46); have HT := Lib.hid (HT.out.on hb46); clear hb46 ca0 ca1 ca2 ca3 ca4 ca5 ca6 ca7; obtain ⟨ca0, ca1, ca2, ca3, ca4, ca5, ca6, ca7⟩ := EE.cells HA.out; dsimp only at ca0 ca1 ca2 ca3 ca4 ca5 ca6 ca7))
    as_aux_lemma =>
      have q5 := refRight_c HT.out HF.out.1 HF.out.2
      rw [← HL.out] at q5
      have Q5 := Lib.hid q5
      clear q5
      by_cases hR : Right (tab l)
      case neg =>
        have D2 := Lib.hid (decide_eq_false hR)
        clear hR
        go_wp2_with (go_at_call 9; refine Q5.out.mono ?_; rintro r w5 ⟨rfl, hb5⟩; rw [D2.out]; have HB0 := Lib.hid (HB0.out.trans (hb5.mono HB0.out.size)); have HA := Lib.hid (box_on HA.out hb5); have HG := Lib.hid (HG.out.on hb5); have HT := Lib.hid (HT.out.on hb5); clear hb5 ca0 ca1 ca2 ca3 ca4 ca5 ca6 ca7; obtain ⟨ca0, ca1, ca2, ca3, ca4, ca5, ca6, ca7⟩ := EE.cells HA.out; dsimp only at ca0 ca1 ca2 ca3 ca4 ca5 ca6 ca7)
        go_ret
        exact ⟨rfl, HB0.out⟩
      have D2 := Lib.hid (decide_eq_true hR)
      have HR := Lib.hid hR
      clear hR
      go_upto_region 9 with (go_at_call 9; refine Q5.out.mono ?_; rintro r w5 ⟨rfl, hb5⟩; rw [D2.out]; have HB0 := Lib.hid (HB0.out.trans (hb5.mono HB0.out.size)); have HA := Lib.hid (box_on HA.out hb5); have HG := Lib.hid (HG.out.on hb5); have HT := Lib.hid (HT.out.on hb5); clear hb5 ca0 ca1 ca2 ca3 ca4 ca5 ca6 ca7; obtain ⟨ca0, ca1, ca2, ca3, ca4, ca5, ca6, ca7⟩ := EE.cells HA.out; dsimp only at ca0 ca1 ca2 ca3 ca4 ca5 ca6 ca7)
      obtain ⟨EF, hEF⟩ : ∃ E : ByteArray, E = ⟨(eT (tab l)).toArray⟩ := ⟨_, rfl⟩
      have HEF := Lib.hid hEF
      have hF1 : (EF.toList == EF.toList) = true := by simp
      clear hEF
      have q6 := bytes_r HT.out HR.out HG.out
      rw [← HEF.out, ← HL.out] at q6
      have Q6 := Lib.hid q6
      clear q6
      go_upto_region 10 with (go_at_call 7; (with_reducible refine Q6.out.mono ?_); rintro r w6 ⟨rfl, hb6⟩; have HB0 := Lib.hid (HB0.out.trans (hb6.mono HB0.out.size)); have HA := Lib.hid (box_on HA.out hb6); have HG := Lib.hid (HG.out.on hb6); have HT := Lib.hid (HT.out.on hb6); clear hb6 ca0 ca1 ca2 ca3 ca4 ca5 ca6 ca7; obtain ⟨ca0, ca1, ca2, ca3, ca4, ca5, ca6, ca7⟩ := EE.cells HA.out; dsimp only at ca0 ca1 ca2 ca3 ca4 ca5 ca6 ca7)
      have q7 := put_c HT.out HR.out (⟨kd, pr, ep, sq, src, sc', tm, ra, rn, rc⟩ : EE) pos
      unfold EE.val at q7
      dsimp only at q7
      rw [← HL.out] at q7
      have Q7 := Lib.hid q7
      clear q7
      go_upto_region 11 with (go_at_call 10; (with_reducible refine Q7.out.mono ?_); rintro r w7 ⟨⟨a7, c7, l7, rfl, e7, t7⟩, hb7⟩; have HB0 := Lib.hid (HB0.out.trans (hb7.mono HB0.out.size)); have HA := Lib.hid (box_on HA.out hb7); have HG := Lib.hid (HG.out.on hb7); have HT := Lib.hid (HT.out.on hb7); clear hb7 ca0 ca1 ca2 ca3 ca4 ca5 ca6 ca7; obtain ⟨ca0, ca1, ca2, ca3, ca4, ca5, ca6, ca7⟩ := EE.cells HA.out; dsimp only at ca0 ca1 ca2 ca3 ca4 ca5 ca6 ca7; have H7 := Lib.hid t7.any; have E7 := Lib.hid e7; clear t7 e7)
      have q8 := read_c (eT (tab l)) (by have := eT_len HR.out; omega) _ HG.out HG.out.big
      rw [← HEF.out] at q8
      have Q8 := Lib.hid q8
      clear q8
      go_upto_region 12 with (go_at_call 6; (with_reducible refine Q8.out.mono ?_); rintro r w8 ⟨hrd8, hb8⟩; obtain ⟨a8, c8, l8, rfl, e8, t8⟩ := read_some hrd8 (readT_eT HR.out); clear hrd8; have HB0 := Lib.hid (HB0.out.trans (hb8.mono HB0.out.size)); have HA := Lib.hid (box_on HA.out hb8); have HG := Lib.hid (HG.out.on hb8); have HT := Lib.hid (HT.out.on hb8); have H7 := Lib.hid (H7.out.on hb8); clear hb8 ca0 ca1 ca2 ca3 ca4 ca5 ca6 ca7; obtain ⟨ca0, ca1, ca2, ca3, ca4, ca5, ca6, ca7⟩ := EE.cells HA.out; dsimp only at ca0 ca1 ca2 ca3 ca4 ca5 ca6 ca7; have H8 := Lib.hid t8; have E8 := Lib.hid e8; clear t8 e8)
      obtain ⟨z, hz⟩ : ∃ z, z = (Pq.look (tab l) pr ep sq).2 := ⟨_, rfl⟩
      have HZ := Lib.hid hz
      have q9 := look_c HT.out HR.out (⟨kd, pr, ep, sq, src, sc', tm, ra, rn, rc⟩ : EE)
      unfold EE.val at q9
      dsimp only at q9
      rw [← HL.out, ← hz] at q9
      have Q9 := Lib.hid q9
      clear q9 hz
      go_upto_region 13 with (go_at_call 11; (with_reducible refine Q9.out.mono ?_); rintro r w9 ⟨rfl, hb9⟩; have HB0 := Lib.hid (HB0.out.trans (hb9.mono HB0.out.size)); have HA := Lib.hid (box_on HA.out hb9); have HG := Lib.hid (HG.out.on hb9); have HT := Lib.hid (HT.out.on hb9); have H7 := Lib.hid (H7.out.on hb9); have H8 := Lib.hid (H8.out.on hb9); clear hb9 ca0 ca1 ca2 ca3 ca4 ca5 ca6 ca7; obtain ⟨ca0, ca1, ca2, ca3, ca4, ca5, ca6, ca7⟩ := EE.cells HA.out; dsimp only at ca0 ca1 ca2 ca3 ca4 ca5 ca6 ca7)
      have q10 := same_r H8.out HT.out E8.out HR.out
      rw [← HL.out] at q10
      have Q10 := Lib.hid q10
      clear q10
      go_upto_region 15 with (first
        | (go_at_call 12; (with_reducible refine Q10.out.mono ?_); rintro r w10 ⟨rfl, hb10⟩; have HB0 := Lib.hid (HB0.out.trans (hb10.mono HB0.out.size)); have HA := Lib.hid (box_on HA.out hb10); have HG := Lib.hid (HG.out.on hb10); have HT := Lib.hid (HT.out.on hb10); have H7 := Lib.hid (H7.out.on hb10); have H8 := Lib.hid (H8.out.on hb10); clear hb10 ca0 ca1 ca2 ca3 ca4 ca5 ca6 ca7; obtain ⟨ca0, ca1, ca2, ca3, ca4, ca5, ca6, ca7⟩ := EE.cells HA.out; dsimp only at ca0 ca1 ca2 ca3 ca4 ca5 ca6 ca7; have q11 := bytes_r HT.out HR.out HG.out; rw [← HEF.out, ← HL.out] at q11; have Q11 := Lib.hid q11; clear q11)
        | (go_at_call 7; (with_reducible refine Q11.out.mono ?_); rintro r w11 ⟨rfl, hb11⟩; have HB0 := Lib.hid (HB0.out.trans (hb11.mono HB0.out.size)); have HA := Lib.hid (box_on HA.out hb11); have HG := Lib.hid (HG.out.on hb11); have HT := Lib.hid (HT.out.on hb11); have H7 := Lib.hid (H7.out.on hb11); have H8 := Lib.hid (H8.out.on hb11); clear hb11 ca0 ca1 ca2 ca3 ca4 ca5 ca6 ca7; obtain ⟨ca0, ca1, ca2, ca3, ca4, ca5, ca6, ca7⟩ := EE.cells HA.out; dsimp only at ca0 ca1 ca2 ca3 ca4 ca5 ca6 ca7))
      by_cases hz : z = 0
      · have hz' : (z == 0) = true := by simpa using hz
        clear hz
        go_wp2_with fail
        go_ret
        exact ⟨rfl, HB0.out⟩
      · have hz' : (z == 0) = false := by simpa using hz
        have hput : Pq.put (tab l) pr ep sq pos = tab l := by
          unfold Pq.put
          rw [if_neg (fun f => hz (by rw [HZ.out]; exact f.1))]
        have q12 := same_r H7.out HT.out (by rw [E7.out]; exact hput) HR.out
        rw [← HL.out] at q12
        have Q12 := Lib.hid q12
        clear q12 hput hz
        go_wp2_with (go_at_call 12; (with_reducible refine Q12.out.mono ?_); rintro r w12 ⟨rfl, hb12⟩)
        go_ret
        exact ⟨rfl, HB0.out.trans (hb12.mono HB0.out.size)⟩
end Go.Proofs.YtlfjbiiacnikhaaDoor
