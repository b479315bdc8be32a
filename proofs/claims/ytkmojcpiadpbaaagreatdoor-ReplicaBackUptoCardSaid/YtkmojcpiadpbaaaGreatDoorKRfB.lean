/-
  The reference reads a message. Written by gen/krfb.py.
-/
import Derived.Test.YtkmojcpiadpbaaaGreatDoorKRfA
import Derived.Test.YtkmojcpiadpbaaaGreatDoorKRdM
import Derived.Test.YtkmojcpiadpbaaaGreatDoorRefReadC
namespace Go.Proofs.YtkmojcpiadpbaaaGreatDoor
set_option maxRecDepth 100000
open Go Go.RowKit Go.Sort Wire Rp

/-- A reader of the reference beside a world of old. -/
structure QA (w0 w : World) (b : Nat) (s : RS) : Prop where
  low : Below w0.heap.size w0 w
  hb : w0.heap.size ≤ b
  rd : Qd w b s.r s.f
  ok : s.ok
section
variable {w0 w w' : World} {b : Nat} {s s' : RS}
theorem QA.on (h : QA w0 w b s) (hb : Below w.heap.size w w') : QA w0 w' b s := ⟨h.low.trans (hb.mono h.low.size), h.hb, h.rd.on hb, h.ok⟩
theorem QA.far (h : QA w0 w b s) {S : Nat → Prop} (hk : Kept S w w') (h1 : ∀ k, S k → w0.heap.size ≤ k) (h2 : ¬ S b) : QA w0 w' b s := ⟨h.low.trans (hk.toBelow h.low.size h1), h.hb, hk.heap h.rd h2, h.ok⟩
theorem QA.only (h : QA w0 w b s) (ho : Only b w w') (hr : Qd w' b s'.r s'.f) (hs : s'.ok) : QA w0 w' b s' := ⟨h.low.trans ((only_kept ho).toBelow h.low.size (fun k e => by rw [e]; exact h.hb)), h.hb, hr, hs⟩
theorem qa_int (h : QA w0 w b s) (hl : s.r.length ≤ 4000000) : Calls Tryz.prog 32 #[.pointer (some ⟨b, 0, none⟩)] w fun e w' => e = .returned (.int .i64 (rdI s).1) ∧ QA w0 w' b (rdI s).2 ∧ Only b w w' := by
  have hok := rdI_ok h.ok
  cases hr : rInt 59 s.r with
  | some p =>
    obtain ⟨n, r'⟩ := p
    have e : rdI s = (n, ⟨r', s.f⟩) := by unfold rdI; rw [hr]
    rw [e] at hok ⊢
    exact (qIntM_ok b s.r s.f n r' hr (by omega) w h.rd).mono fun e w' ⟨he, h1, h2⟩ => ⟨he, h.only h2 h1 hok, h2⟩
  | none =>
    have e : rdI s = (0, ⟨[], true⟩) := by unfold rdI; rw [hr]
    rw [e] at hok ⊢
    exact (qIntM_no b s.r s.f hr (by omega) w h.rd).mono fun e w' ⟨he, h1, h2⟩ => ⟨he, h.only h2 h1 hok, h2⟩
theorem qa_num (h : QA w0 w b s) (hl : s.r.length ≤ 4000000) : Calls Tryz.prog 33 #[.pointer (some ⟨b, 0, none⟩)] w fun e w' => e = .returned (.int .i64 (rdN s).1) ∧ QA w0 w' b (rdN s).2 ∧ Only b w w' := by
  have hok := rdN_ok h.ok
  cases hr : rNum 59 s.r with
  | some p =>
    obtain ⟨n, r'⟩ := p
    have e : rdN s = (n, ⟨r', s.f⟩) := by unfold rdN; rw [hr]
    rw [e] at hok ⊢
    exact (qNumM_ok b s.r s.f n r' hr (by omega) w h.rd).mono fun e w' ⟨he, h1, h2⟩ => ⟨he, h.only h2 h1 hok, h2⟩
  | none =>
    have e : rdN s = (0, ⟨[], true⟩) := by unfold rdN; rw [hr]
    rw [e] at hok ⊢
    exact (qNumM_no b s.r s.f hr (by omega) w h.rd).mono fun e w' ⟨he, h1, h2⟩ => ⟨he, h.only h2 h1 hok, h2⟩
theorem qa_text (h : QA w0 w b s) (hl : s.r.length ≤ 4000000) : Calls Tryz.prog 35 #[.pointer (some ⟨b, 0, none⟩)] w fun e w' => e = .returned (.string ⟨(rdT s).1.toArray⟩) ∧ QA w0 w' b (rdT s).2 ∧ Only b w w' := by
  have hok := rdT_ok h.ok
  cases hr : rText s.r with
  | some p =>
    obtain ⟨n, r'⟩ := p
    have e : rdT s = (n, ⟨r', s.f⟩) := by unfold rdT; rw [hr]
    have hf : s.f = false := by
      cases q : s.f with
      | false => rfl
      | true =>
        have := rText_shorter hr
        rw [h.ok q] at this
        exact absurd this (Nat.not_lt_zero _)
    have hrd := h.rd
    rw [hf] at hrd e
    rw [e] at hok ⊢
    exact (qTextM_ok b s.r n r' hr (by omega) w hrd).mono fun e w' ⟨he, h1, h2⟩ => ⟨he, h.only h2 h1 hok, h2⟩
  | none =>
    have e : rdT s = ([], ⟨[], true⟩) := by unfold rdT; rw [hr]
    rw [e] at hok ⊢
    exact (qTextM_no b s.r s.f h.ok hr (by omega) w h.rd).mono fun e w' ⟨he, h1, h2⟩ => ⟨he, h.only h2 h1 hok, h2⟩
end
/-- While the numbers are read: the message's box. -/
def KQ (w W1 : World) (br B : Nat) (cs : Array Value) (s : RS) (u : World) : Prop := QA w u br s ∧ Below W1.heap.size W1 u ∧ u.heap[B]? = some (.cells cs 24 (0, 0))
section
variable {w W1 u : World} {br B : Nat} {cs cs' : Array Value} {s s' : RS} {n : Int}
theorem KQ.set (h : KQ w W1 br B cs s u) (hbr : br < B) (hbW : W1.heap.size ≤ br) (i : Nat) (v : Value) (e : cs.setIfInBounds i v = cs') : KQ w W1 br B cs' s (u.setCell ⟨B, i, none⟩ v) := by
  have hk : Kept (fun k => k = B) u (u.setCell ⟨B, i, none⟩ v) := Kept.set _ _ _ _
  have hlow := h.1.hb
  exact ⟨h.1.far hk (fun k q => by rw [q]; omega) (fun q => by have q : br = B := q; omega), h.2.1.trans (hk.toBelow h.2.1.size (fun k q => by rw [q]; omega)), by rw [← e]; exact box_set h.2.2 i v⟩
theorem KQ.only {u' : World} (h : KQ w W1 br B cs s u) (hbr : br < B) (hbW : W1.heap.size ≤ br) (hq : QA w u' br s') (ho : Only br u u') : KQ w W1 br B cs s' u' :=
  ⟨hq, h.2.1.trans (only_below ho h.2.1.size hbW), (only_kept ho).heap h.2.2 (fun e => by have e : B = br := e; omega)⟩
theorem KQ.int (h : KQ w W1 br B cs s u) (hbr : br < B) (hbW : W1.heap.size ≤ br) (e : rdI s = (n, s')) (hl : s.r.length ≤ 4000000) (i : Nat) (x : Value) (hc : cs[i]? = some x) :
    Calls Tryz.prog 32 #[.pointer (some ⟨br, 0, none⟩)] u fun e w' => e = .returned (.int .i64 n) ∧ (w'.cell? ⟨B, i, none⟩ = some x ∧ ∀ o, w'.frozen? ⟨B, o, none⟩ = false) ∧ Hid (KQ w W1 br B cs s' w') :=
  (qa_int h.1 hl).mono (fun e' w' hq => by
    rw [e] at hq
    have hk := h.only hbr hbW hq.2.1 hq.2.2
    exact ⟨hq.1, ⟨by rw [Lib.cell_of_heap hk.2.2]; exact hc, fun o => Lib.frozen_of_heap hk.2.2 o⟩, Lib.hid hk⟩)
theorem KQ.num (h : KQ w W1 br B cs s u) (hbr : br < B) (hbW : W1.heap.size ≤ br) (e : rdN s = (n, s')) (hl : s.r.length ≤ 4000000) :
    Calls Tryz.prog 33 #[.pointer (some ⟨br, 0, none⟩)] u fun e w' => e = .returned (.int .i64 n) ∧ Hid (KQ w W1 br B cs s' w') :=
  (qa_num h.1 hl).mono (fun e' w' hq => by rw [e] at hq; exact ⟨hq.1, Lib.hid (h.only hbr hbW hq.2.1 hq.2.2)⟩)
end
structure RdQ (w W1 wr : World) (br B : Nat) (n0 n1 n2 n3 n4 n5 n6 n7 : Int) (a : Option Addr) (c : Nat) (rs : List Rec) (s : RS) : Prop where
  ra : QA w wr br s
  bel : Below W1.heap.size W1 wr
  box : wr.heap[B]? = some (.cells #[.int .i64 n0, .int .i64 n1, .int .i64 n2, .int .i64 n3, .int .i64 n4, .int .i64 n5, .int .i64 n6, .bool (n7 == 1), .slice a rs.length c] 24 (0, 0))
  row : RecRow wr (B + 1) (.slice a rs.length c) rs
theorem RdQ.on {w W1 wr wr' : World} {br B : Nat} {n0 n1 n2 n3 n4 n5 n6 n7 : Int} {a : Option Addr} {c : Nat} {rs : List Rec} {s : RS} (h : RdQ w W1 wr br B n0 n1 n2 n3 n4 n5 n6 n7 a c rs s) (hb : Below wr.heap.size wr wr') : RdQ w W1 wr' br B n0 n1 n2 n3 n4 n5 n6 n7 a c rs s :=
  ⟨h.ra.on hb, h.bel.trans (hb.mono h.bel.size), box_on h.box hb, h.row.on hb⟩
theorem RdQ.push {w W1 w3 : World} {br B : Nat} {n0 n1 n2 n3 n4 n5 n6 n7 : Int} {a : Option Addr} {c : Nat} {rs : List Rec} {z : RS} (h : RdQ w W1 w3 br B n0 n1 n2 n3 n4 n5 n6 n7 a c rs z) (hbr : br < B) (hbW : W1.heap.size ≤ br) (x : Rec) (hl : rs.length + 1 ≤ 100000) :
    (w3.alloc (.cells #[.int .i64 x.t, .string ⟨x.d.toArray⟩] 27)).heap[B]? = some (.cells #[.int .i64 n0, .int .i64 n1, .int .i64 n2, .int .i64 n3, .int .i64 n4, .int .i64 n5, .int .i64 n6, .bool (n7 == 1), .slice a rs.length c] 24 (0, 0)) ∧ ∃ a1 c1 w5, (Builtin.append_ #[22, 22] 22 #[.slice a rs.length c, .slice (some ⟨w3.heap.size, 0, none⟩) 1 1]).run Tryz.prog (w3.alloc (.cells #[.int .i64 x.t, .string ⟨x.d.toArray⟩] 27)) = .ok (.slice a1 (rs.length + 1) c1) w5 ∧
      w5.heap[B]? = some (.cells #[.int .i64 n0, .int .i64 n1, .int .i64 n2, .int .i64 n3, .int .i64 n4, .int .i64 n5, .int .i64 n6, .bool (n7 == 1), .slice a rs.length c] 24 (0, 0)) ∧ RdQ w W1 (w5.setCell ⟨B, 8, none⟩ (.slice a1 (rs.length + 1) c1)) br B n0 n1 n2 n3 n4 n5 n6 n7 a1 c1 (rs ++ [x]) z := by
  have hb := below_new w3 (.cells #[.int .i64 x.t, .string ⟨x.d.toArray⟩] 27)
  have h1 := h.on hb
  have hBl : B < w3.heap.size := box_lt h.box
  refine ⟨h1.box, ?_⟩
  obtain ⟨a1, c1, w5, hr, hrow, _, hk⟩ := app_recs _ (B + 1) _ rs h1.row (G := fun _ => True) (some ⟨w3.heap.size, 0, none⟩) 1 [x] (rec_src (box_new w3 _) trivial) hl (Nat.le_trans hBl hb.size)
  have e1 : ([x] : List Rec).length = 1 := rfl
  rw [e1] at hr hrow
  have hown : ∀ k, (Value.slice a rs.length c).ownBlock = some k → B + 1 ≤ k := fun k e => h1.row.above e
  have hbox := hk.heap h1.box (fun e => by have := hown B e; omega)
  have hkB : Kept (fun k => k = B) w5 (w5.setCell ⟨B, 8, none⟩ (.slice a1 (rs.length + 1) c1)) := Kept.set _ _ _ _
  have hlow := h.ra.hb
  have h5 := h1.ra.far hk (fun k e => by have := hown k e; omega) (fun e => by have := hown br e; omega)
  refine ⟨a1, c1, w5, hr, hbox, h5.far hkB (fun k e => by rw [e]; omega) (fun e => by have e : br = B := e; omega), ?_, ?_, ?_⟩
  · exact (h1.bel.trans (hk.toBelow h1.bel.size (fun k e => by have := hown k e; omega))).trans (hkB.toBelow (Nat.le_trans h1.bel.size hk.size) (fun k e => by rw [e]; omega))
  · have := box_set hbox 8 (.slice a1 (rs.length + 1) c1)
    rw [this, List.length_append]
    rfl
  · rw [List.length_append, e1]
    exact hrow.kept hkB (fun k e e' => by have := hrow.above e; omega)
theorem RdQ.only {w W1 wr wr' : World} {br B : Nat} {n0 n1 n2 n3 n4 n5 n6 n7 : Int} {a : Option Addr} {c : Nat} {rs : List Rec} {z z' : RS} (h : RdQ w W1 wr br B n0 n1 n2 n3 n4 n5 n6 n7 a c rs z) (hbr : br < B) (hbW : W1.heap.size ≤ br) (h1 : QA w wr' br z') (h2 : Only br wr wr') : RdQ w W1 wr' br B n0 n1 n2 n3 n4 n5 n6 n7 a c rs z' :=
  ⟨h1, h.bel.trans (only_below h2 h.bel.size hbW), (only_kept h2).heap h.box (fun e => by have e : B = br := e; omega), h.row.kept (only_kept h2) (fun k e e' => by have := h.row.above e; have e' : k = br := e'; omega)⟩
theorem RdQ.far {w W1 wr wr' : World} {br B : Nat} {n0 n1 n2 n3 n4 n5 n6 n7 : Int} {a : Option Addr} {c : Nat} {rs : List Rec} {z : RS} (h : RdQ w W1 wr br B n0 n1 n2 n3 n4 n5 n6 n7 a c rs z) {S : Nat → Prop} (hk : Kept S wr wr') (h0 : w.heap.size ≤ W1.heap.size) (h1 : ∀ k, S k → W1.heap.size ≤ k ∧ k ≠ br ∧ k ≠ B ∧ (Value.slice a rs.length c).ownBlock ≠ some k) : RdQ w W1 wr' br B n0 n1 n2 n3 n4 n5 n6 n7 a c rs z :=
  ⟨h.ra.far hk (fun k q => Nat.le_trans h0 (h1 k q).1) (fun q => (h1 _ q).2.1 rfl), h.bel.trans (hk.toBelow h.bel.size (fun k q => (h1 k q).1)), hk.heap h.box (fun q => (h1 _ q).2.2.1 rfl), h.row.kept hk (fun k e q => (h1 k q).2.2.2 e)⟩
theorem rdN_pos (s : RS) : 0 ≤ (rdN s).1 ∧ InR (rdN s).1 := by
  unfold rdN
  split
  · next n r' e =>
    obtain ⟨h1, h2, _⟩ := (rNum_iff 59 (by decide) s.r n r').1 e
    exact ⟨h1, h2⟩
  · exact ⟨Int.le_refl _, by unfold InR; omega⟩
/-- How many are still to be read. -/
def FuelQ (N : Nat) (sc : RS) (rs : List Rec) (z : RS) : Prop := rs.length ≤ N ∧ rdMany N sc = (rs ++ (rdMany (N - rs.length) z).1, (rdMany (N - rs.length) z).2)
theorem FuelQ.more {N : Nat} {sc z : RS} {rs : List Rec} (h : FuelQ N sc rs z) (hN : rs.length < N) (h0 : ¬ z.r.length = 0) : FuelQ N sc (rs ++ [(rdRec z).1]) (rdRec z).2 := by
  obtain ⟨h1, h2⟩ := h
  obtain ⟨G, hG⟩ : ∃ G, N - rs.length = G + 1 := ⟨N - rs.length - 1, by omega⟩
  have e : (rs ++ [(rdRec z).1]).length = rs.length + 1 := by rw [List.length_append]; rfl
  have e2 : N - (rs.length + 1) = G := by omega
  refine ⟨by omega, ?_⟩
  rw [h2, hG, rdMany_more h0, e, e2]
  simp
theorem FuelQ.done {N : Nat} {sc z : RS} {rs : List Rec} (h : FuelQ N sc rs z) (h0 : z.r.length = 0 ∨ rs.length = N) : rdMany N sc = (rs, z) := by
  obtain ⟨h1, h2⟩ := h
  rcases h0 with h0 | h0
  · rw [h2, rdMany_end h0, List.append_nil]
  · rw [h2, h0, Nat.sub_self]
    show (rs ++ [], z) = _
    rw [List.append_nil]
theorem readQ_at {s : List UInt8} {s8 sc z : RS} {n0 n1 n2 n3 n4 n5 n6 n7 n8 : Int} {rs : List Rec} (e1 : rdInts 8 ⟨s, false⟩ = ([n0, n1, n2, n3, n4, n5, n6, n7], s8)) (e2 : rdN s8 = (n8, sc)) (e3 : rdMany n8.toNat sc = (rs, z)) :
    readQ s = if z.f = false ∧ z.r = [] ∧ eMsg ⟨n0, n1, n2, n3, n4, n5, n6, (n7 == 1), rs⟩ = s then some ⟨n0, n1, n2, n3, n4, n5, n6, (n7 == 1), rs⟩ else none := by
  unfold readQ
  simp only [e1, e2, e3]
  rw [mkMsg8]
theorem mem_short {l : List Rec} {x : Rec} (h : x ∈ l) : x.d.length ≤ (l.flatMap eRec).length := by
  induction l with
  | nil => cases h
  | cons y l ih =>
    rw [List.flatMap_cons, List.length_append]
    rcases List.mem_cons.1 h with q | q
    · rw [q]
      unfold eRec eText
      simp only [List.length_append]
      omega
    · have := ih q
      omega
theorem low_of_read {s : List UInt8} {s8 sc z : RS} {n0 n1 n2 n3 n4 n5 n6 n7 n8 : Int} {rs : List Rec} {N : Nat} (e1 : rdInts 8 ⟨s, false⟩ = ([n0, n1, n2, n3, n4, n5, n6, n7], s8)) (e2 : rdN s8 = (n8, sc)) (e3 : rdMany N sc = (rs, z)) (h1 : z.f = false) (h2 : z.r = []) (hs : s.length ≤ 300) :
    LowM ⟨n0, n1, n2, n3, n4, n5, n6, (n7 == 1), rs⟩ := by
  obtain ⟨p1, _, _, _, p5, _, p7⟩ := read_parts e1 e2 e3 h1 h2
  have hl : (rs.flatMap eRec).length ≤ 300 := by
    have := congrArg List.length p7
    simp only [List.length_append] at this
    omega
  refine ⟨fun x hx => ?_, by have := flat_len rs; show rs.length ≤ 1000; omega, fun x hx => ⟨(p5 x hx).1, by have h : x.d.length ≤ (rs.flatMap eRec).length := mem_short hx; omega⟩⟩
  have hy := yesN_in ⟨n0, n1, n2, n3, n4, n5, n6, (n7 == 1), rs⟩
  unfold eHead at hx
  simp only [List.mem_cons, List.not_mem_nil, or_false] at hx p1
  rcases hx with q | q | q | q | q | q | q | q
  · exact p1 x (Or.inl q)
  · exact p1 x (Or.inr (Or.inl q))
  · exact p1 x (Or.inr (Or.inr (Or.inl q)))
  · exact p1 x (Or.inr (Or.inr (Or.inr (Or.inl q))))
  · exact p1 x (Or.inr (Or.inr (Or.inr (Or.inr (Or.inl q)))))
  · exact p1 x (Or.inr (Or.inr (Or.inr (Or.inr (Or.inr (Or.inl q))))))
  · exact p1 x (Or.inr (Or.inr (Or.inr (Or.inr (Or.inr (Or.inr (Or.inl q)))))))
  · rw [q]
    unfold InR
    omega
theorem str_ne {a b : List UInt8} (h : a ≠ b) : (⟨a.toArray⟩ : ByteArray) ≠ ⟨b.toArray⟩ := fun e => h (by injection e with e; simpa using e)
def RdDoneQ (w w' : World) (s : List UInt8) (e : Ending) : Prop := ∃ p : PM, p.m = (readQ s).getD zeroM ∧ e = .returned (.tuple #[p.val, .bool (readQ s).isSome]) ∧ p.ok (fun j => w.heap.size ≤ j) w' ∧ Below w.heap.size w w'
set_option maxHeartbeats 40000000 in
set_option linter.unusedSimpArgs false in
theorem readQ_c (s : List UInt8) (hs : s.length ≤ 300) (w : World) : Calls Tryz.prog 9 #[.string ⟨s.toArray⟩] w fun e w' => RdDoneQ w w' s e := by
  obtain ⟨W1, hW1⟩ : ∃ W1, W1 = w.alloc (.cells #[.int .i64 0, .int .i64 0, .int .i64 0, .int .i64 0, .int .i64 0, .int .i64 0, .int .i64 0, .bool false, .slice none 0 0] 24) := ⟨_, rfl⟩
  have hb1 : Below w.heap.size w W1 := by rw [hW1]; exact below_new w _
  have hx1 : W1.heap[w.heap.size]? = some (.cells #[.int .i64 0, .int .i64 0, .int .i64 0, .int .i64 0, .int .i64 0, .int .i64 0, .int .i64 0, .bool false, .slice none 0 0] 24 (0, 0)) := by rw [hW1]; exact box_new w _
  have hs1 : w.heap.size < W1.heap.size := box_lt hx1
  obtain ⟨s0, hs0⟩ : ∃ s0 : RS, s0 = ⟨s, false⟩ := ⟨_, rfl⟩
  have QO := Lib.hid ((qOpen_c s W1).mono (R' := fun e w' => e = .returned (.pointer (some ⟨W1.heap.size, 0, none⟩)) ∧ Hid (W1.heap.size < w'.heap.size ∧ ∀ B, B = w'.heap.size → KQ w W1 W1.heap.size B #[.int .i64 0, .int .i64 0, .int .i64 0, .int .i64 0, .int .i64 0, .int .i64 0, .int .i64 0, .bool false, .slice none 0 0] s0 (w'.alloc (.cells #[.int .i64 0, .int .i64 0, .int .i64 0, .int .i64 0, .int .i64 0, .int .i64 0, .int .i64 0, .bool false, .slice none 0 0] 24)))) (fun e w' hh => ⟨hh.1, Lib.hid ⟨hh.2.1.lt, fun B hB => by
    have hn := below_new w' (.cells #[.int .i64 0, .int .i64 0, .int .i64 0, .int .i64 0, .int .i64 0, .int .i64 0, .int .i64 0, .bool false, .slice none 0 0] 24)
    have hq : QA w w' W1.heap.size s0 := ⟨hb1.trans (hh.2.2.mono hb1.size), hb1.size, by rw [hs0]; exact hh.2.1, fun e => by rw [hs0] at e; cases e⟩
    exact ⟨hq.on hn, hh.2.2.trans (hn.mono hh.2.2.size), by rw [hB]; exact box_new w' _⟩⟩⟩))
  have l0 : s0.r.length ≤ 40000 := by rw [hs0]; exact Nat.le_trans hs (by decide)
  have HSL := Lib.hid hs
  obtain ⟨n0, s1, e0⟩ : ∃ n s', rdI s0 = (n, s') := ⟨_, _, rfl⟩
  have l1 : s1.r.length ≤ 40000 := by have := rdI_le s0; rw [e0] at this; exact Nat.le_trans this l0
  obtain ⟨n1, s2, e1⟩ : ∃ n s', rdI s1 = (n, s') := ⟨_, _, rfl⟩
  have l2 : s2.r.length ≤ 40000 := by have := rdI_le s1; rw [e1] at this; exact Nat.le_trans this l1
  obtain ⟨n2, s3, e2⟩ : ∃ n s', rdI s2 = (n, s') := ⟨_, _, rfl⟩
  have l3 : s3.r.length ≤ 40000 := by have := rdI_le s2; rw [e2] at this; exact Nat.le_trans this l2
  obtain ⟨n3, s4, e3⟩ : ∃ n s', rdI s3 = (n, s') := ⟨_, _, rfl⟩
  have l4 : s4.r.length ≤ 40000 := by have := rdI_le s3; rw [e3] at this; exact Nat.le_trans this l3
  obtain ⟨n4, s5, e4⟩ : ∃ n s', rdI s4 = (n, s') := ⟨_, _, rfl⟩
  have l5 : s5.r.length ≤ 40000 := by have := rdI_le s4; rw [e4] at this; exact Nat.le_trans this l4
  obtain ⟨n5, s6, e5⟩ : ∃ n s', rdI s5 = (n, s') := ⟨_, _, rfl⟩
  have l6 : s6.r.length ≤ 40000 := by have := rdI_le s5; rw [e5] at this; exact Nat.le_trans this l5
  obtain ⟨n6, s7, e6⟩ : ∃ n s', rdI s6 = (n, s') := ⟨_, _, rfl⟩
  have l7 : s7.r.length ≤ 40000 := by have := rdI_le s6; rw [e6] at this; exact Nat.le_trans this l6
  obtain ⟨n7, s8, e7⟩ : ∃ n s', rdI s7 = (n, s') := ⟨_, _, rfl⟩
  have l8 : s8.r.length ≤ 40000 := by have := rdI_le s7; rw [e7] at this; exact Nat.le_trans this l7
  obtain ⟨n8, sc, e8⟩ : ∃ n s', rdN s8 = (n, s') := ⟨_, _, rfl⟩
  have l9 : sc.r.length ≤ 40000 := by have := rdN_le s8; rw [e8] at this; exact Nat.le_trans this l8
  have hn8 := rdN_pos s8
  rw [e8] at hn8
  obtain ⟨N, hN⟩ : ∃ N : Nat, n8 = (N : Int) := ⟨n8.toNat, by have := hn8.1; omega⟩
  subst hN
  have Q0 := Lib.hid (fun (B : Nat) (hB : W1.heap.size < B) (u : World) (hh : KQ w W1 W1.heap.size B #[.int .i64 0, .int .i64 0, .int .i64 0, .int .i64 0, .int .i64 0, .int .i64 0, .int .i64 0, .bool false, .slice none 0 0] s0 u) => hh.int hB (Nat.le_refl _) e0 (Nat.le_trans l0 (by decide)) 0 (.int .i64 0) rfl)
  have Q1 := Lib.hid (fun (B : Nat) (hB : W1.heap.size < B) (u : World) (hh : KQ w W1 W1.heap.size B #[.int .i64 n0, .int .i64 0, .int .i64 0, .int .i64 0, .int .i64 0, .int .i64 0, .int .i64 0, .bool false, .slice none 0 0] s1 u) => hh.int hB (Nat.le_refl _) e1 (Nat.le_trans l1 (by decide)) 1 (.int .i64 0) rfl)
  have Q2 := Lib.hid (fun (B : Nat) (hB : W1.heap.size < B) (u : World) (hh : KQ w W1 W1.heap.size B #[.int .i64 n0, .int .i64 n1, .int .i64 0, .int .i64 0, .int .i64 0, .int .i64 0, .int .i64 0, .bool false, .slice none 0 0] s2 u) => hh.int hB (Nat.le_refl _) e2 (Nat.le_trans l2 (by decide)) 2 (.int .i64 0) rfl)
  have Q3 := Lib.hid (fun (B : Nat) (hB : W1.heap.size < B) (u : World) (hh : KQ w W1 W1.heap.size B #[.int .i64 n0, .int .i64 n1, .int .i64 n2, .int .i64 0, .int .i64 0, .int .i64 0, .int .i64 0, .bool false, .slice none 0 0] s3 u) => hh.int hB (Nat.le_refl _) e3 (Nat.le_trans l3 (by decide)) 3 (.int .i64 0) rfl)
  have Q4 := Lib.hid (fun (B : Nat) (hB : W1.heap.size < B) (u : World) (hh : KQ w W1 W1.heap.size B #[.int .i64 n0, .int .i64 n1, .int .i64 n2, .int .i64 n3, .int .i64 0, .int .i64 0, .int .i64 0, .bool false, .slice none 0 0] s4 u) => hh.int hB (Nat.le_refl _) e4 (Nat.le_trans l4 (by decide)) 4 (.int .i64 0) rfl)
  have Q5 := Lib.hid (fun (B : Nat) (hB : W1.heap.size < B) (u : World) (hh : KQ w W1 W1.heap.size B #[.int .i64 n0, .int .i64 n1, .int .i64 n2, .int .i64 n3, .int .i64 n4, .int .i64 0, .int .i64 0, .bool false, .slice none 0 0] s5 u) => hh.int hB (Nat.le_refl _) e5 (Nat.le_trans l5 (by decide)) 5 (.int .i64 0) rfl)
  have Q6 := Lib.hid (fun (B : Nat) (hB : W1.heap.size < B) (u : World) (hh : KQ w W1 W1.heap.size B #[.int .i64 n0, .int .i64 n1, .int .i64 n2, .int .i64 n3, .int .i64 n4, .int .i64 n5, .int .i64 0, .bool false, .slice none 0 0] s6 u) => hh.int hB (Nat.le_refl _) e6 (Nat.le_trans l6 (by decide)) 6 (.int .i64 0) rfl)
  have Q7 := Lib.hid (fun (B : Nat) (hB : W1.heap.size < B) (u : World) (hh : KQ w W1 W1.heap.size B #[.int .i64 n0, .int .i64 n1, .int .i64 n2, .int .i64 n3, .int .i64 n4, .int .i64 n5, .int .i64 n6, .bool false, .slice none 0 0] s7 u) => hh.int hB (Nat.le_refl _) e7 (Nat.le_trans l7 (by decide)) 7 (.bool false) rfl)
  have Q8 := Lib.hid (fun (B : Nat) (hB : W1.heap.size < B) (u : World) (hh : KQ w W1 W1.heap.size B #[.int .i64 n0, .int .i64 n1, .int .i64 n2, .int .i64 n3, .int .i64 n4, .int .i64 n5, .int .i64 n6, .bool (n7 == 1), .slice none 0 0] s8 u) => hh.num hB (Nat.le_refl _) e8 (Nat.le_trans l8 (by decide)))
  have HE := Lib.hid (show rdInts 8 ⟨s, false⟩ = ([n0, n1, n2, n3, n4, n5, n6, n7], s8) from by rw [← hs0]; exact rdInts8 e0 e1 e2 e3 e4 e5 e6 e7)
  have HE8 := Lib.hid e8
  have HN8 := Lib.hid hn8.2
  have HL9 := Lib.hid l9
  have HB1 := Lib.hid hb1
  have HX1 := Lib.hid hx1
  have HS1 := Lib.hid hs1
  clear hb1 hx1 hs1 hs hs0 hn8 e0 e1 e2 e3 e4 e5 e6 e7 e8 l0 l1 l2 l3 l4 l5 l6 l7 l8 l9
  go_enter Tryz.func9, Tryz.ntmps9
  go_upto_region 1 with fail
  rw [← hW1]
  clear hW1
  go_upto_region 3 with ((with_reducible refine QO.out.mono ?_); rintro e w2 ⟨rfl, HO⟩)
  obtain ⟨B, hB⟩ : ∃ B, B = w2.heap.size := ⟨_, rfl⟩
  have HBL := Lib.hid (show W1.heap.size < B from by rw [hB]; exact HO.out.1)
  have H0 := Lib.hid (HO.out.2 B hB)
  obtain ⟨W2, hW2⟩ : ∃ W2, W2 = w2.alloc (.cells #[.int .i64 0, .int .i64 0, .int .i64 0, .int .i64 0, .int .i64 0, .int .i64 0, .int .i64 0, .bool false, .slice none 0 0] 24) := ⟨_, rfl⟩
  rw [← hW2] at H0 ⊢
  rw [← hB]
  clear hW2 hB HO
  go_upto_region 13 with (first | ((with_reducible refine (Q0.out B HBL.out _ H0.out).mono ?_); rintro e w3 ⟨rfl, ⟨c0, f0⟩, T0⟩; have H1 := Lib.hid (T0.out.set HBL.out (Nat.le_refl _) 0 (.int .i64 n0) (cs' := #[.int .i64 n0, .int .i64 0, .int .i64 0, .int .i64 0, .int .i64 0, .int .i64 0, .int .i64 0, .bool false, .slice none 0 0]) rfl)) | ((with_reducible refine (Q1.out B HBL.out _ H1.out).mono ?_); rintro e w4 ⟨rfl, ⟨c1, f1⟩, T1⟩; have H2 := Lib.hid (T1.out.set HBL.out (Nat.le_refl _) 1 (.int .i64 n1) (cs' := #[.int .i64 n0, .int .i64 n1, .int .i64 0, .int .i64 0, .int .i64 0, .int .i64 0, .int .i64 0, .bool false, .slice none 0 0]) rfl)) | ((with_reducible refine (Q2.out B HBL.out _ H2.out).mono ?_); rintro e w5 ⟨rfl, ⟨c2, f2⟩, T2⟩; have H3 := Lib.hid (T2.out.set HBL.out (Nat.le_refl _) 2 (.int .i64 n2) (cs' := #[.int .i64 n0, .int .i64 n1, .int .i64 n2, .int .i64 0, .int .i64 0, .int .i64 0, .int .i64 0, .bool false, .slice none 0 0]) rfl)) | ((with_reducible refine (Q3.out B HBL.out _ H3.out).mono ?_); rintro e w6 ⟨rfl, ⟨c3, f3⟩, T3⟩; have H4 := Lib.hid (T3.out.set HBL.out (Nat.le_refl _) 3 (.int .i64 n3) (cs' := #[.int .i64 n0, .int .i64 n1, .int .i64 n2, .int .i64 n3, .int .i64 0, .int .i64 0, .int .i64 0, .bool false, .slice none 0 0]) rfl)) | ((with_reducible refine (Q4.out B HBL.out _ H4.out).mono ?_); rintro e w7 ⟨rfl, ⟨c4, f4⟩, T4⟩; have H5 := Lib.hid (T4.out.set HBL.out (Nat.le_refl _) 4 (.int .i64 n4) (cs' := #[.int .i64 n0, .int .i64 n1, .int .i64 n2, .int .i64 n3, .int .i64 n4, .int .i64 0, .int .i64 0, .bool false, .slice none 0 0]) rfl)) | ((with_reducible refine (Q5.out B HBL.out _ H5.out).mono ?_); rintro e w8 ⟨rfl, ⟨c5, f5⟩, T5⟩; have H6 := Lib.hid (T5.out.set HBL.out (Nat.le_refl _) 5 (.int .i64 n5) (cs' := #[.int .i64 n0, .int .i64 n1, .int .i64 n2, .int .i64 n3, .int .i64 n4, .int .i64 n5, .int .i64 0, .bool false, .slice none 0 0]) rfl)) | ((with_reducible refine (Q6.out B HBL.out _ H6.out).mono ?_); rintro e w9 ⟨rfl, ⟨c6, f6⟩, T6⟩; have H7 := Lib.hid (T6.out.set HBL.out (Nat.le_refl _) 6 (.int .i64 n6) (cs' := #[.int .i64 n0, .int .i64 n1, .int .i64 n2, .int .i64 n3, .int .i64 n4, .int .i64 n5, .int .i64 n6, .bool false, .slice none 0 0]) rfl)) | ((with_reducible refine (Q7.out B HBL.out _ H7.out).mono ?_); rintro e w10 ⟨rfl, ⟨c7, f7⟩, T7⟩; have H8 := Lib.hid (T7.out.set HBL.out (Nat.le_refl _) 7 (.bool (n7 == 1)) (cs' := #[.int .i64 n0, .int .i64 n1, .int .i64 n2, .int .i64 n3, .int .i64 n4, .int .i64 n5, .int .i64 n6, .bool (n7 == 1), .slice none 0 0]) rfl)) | ((with_reducible refine (Q8.out B HBL.out _ H8.out).mono ?_); rintro e w11 ⟨rfl, H9⟩))
  have HJ := Lib.hid (show RdQ w W1 w11 W1.heap.size B n0 n1 n2 n3 n4 n5 n6 n7 none 0 [] sc from ⟨H9.out.1, H9.out.2.1, H9.out.2.2, recRow_nil _ _⟩)
  have d8 : w11.cell? ⟨B, 8, none⟩ = some (.slice none 0 0) := by rw [Lib.cell_of_heap H9.out.2.2]; rfl
  have df := Lib.frozen_of_heap H9.out.2.2
  clear c0 f0 T0 H0 c1 f1 T1 H1 c2 f2 T2 H2 c3 f3 T3 H3 c4 f4 T4 H4 c5 f5 T5 H5 c6 f6 T6 H6 c7 f7 T7 H7 Q0 Q1 Q2 Q3 Q4 Q5 Q6 Q7 Q8 QO H8
  go_loopw [7] (fun v7 wr => ∃ (a : Option Addr) (c n : Nat) (rs : List Rec) (z : RS), v7 = .int .i64 (n : Int) ∧ wr.cell? ⟨B, 8, none⟩ = some (.slice a n c) ∧ (∀ o, wr.frozen? ⟨B, o, none⟩ = false) ∧ Hid (rs.length = n ∧ n + z.r.length ≤ 40000 ∧ FuelQ N sc rs z ∧ RdQ w W1 wr W1.heap.size B n0 n1 n2 n3 n4 n5 n6 n7 a c rs z)) (fun v7 _ => N - (intOf v7).toNat)
  case atStart => exact ⟨none, 0, 0, [], sc, rfl, d8, df, Lib.hid ⟨rfl, by have := HL9.out; omega, ⟨Nat.zero_le _, rfl⟩, HJ.out⟩⟩
  case round =>
    obtain ⟨a, c, n, rs, z, rfl, x8, xf, HR⟩ := hrel
    clear d8 df HJ
    obtain ⟨LN, hLN⟩ : ∃ LN, LN = z.r.length := ⟨_, rfl⟩
    have QL := Lib.hid ((qLeft_c W1.heap.size z.r z.f wr HR.out.2.2.2.ra.rd).mono (R' := fun e w' => e = .returned (.int .i64 (LN : Int)) ∧ w' = wr) (fun e w' hq => ⟨by rw [hLN]; exact hq.1, hq.2.symm⟩))
    have HLN := Lib.hid hLN
    have hn40 : n ≤ 40000 := by have := HR.out.2.1; omega
    clear hLN
    by_cases hc : n < N ∧ ¬ LN = 0
    · have h0' : (0 : Int) < (LN : Int) := by omega
      have hnN : (n : Int) < (N : Int) := by omega
      have hn : rs.length = n := HR.out.1
      obtain ⟨xt, z1, h1⟩ : ∃ xt z1, rdI z = (xt, z1) := ⟨_, _, rfl⟩
      obtain ⟨xd, z2, h2⟩ : ∃ xd z2, rdT z1 = (xd, z2) := ⟨_, _, rfl⟩
      have hrec : rdRec z = (⟨xt, xd⟩, z2) := by unfold rdRec; rw [h1]; show ((⟨xt, (rdT z1).1⟩ : Rec), (rdT z1).2) = _; rw [h2]
      have hz40 : z.r.length ≤ 4000000 := by have := HR.out.2.1; omega
      have hz1 : z1.r.length ≤ 4000000 := by have := rdI_le z; rw [h1] at this; exact Nat.le_trans this hz40
      have QI := Lib.hid ((qa_int HR.out.2.2.2.ra hz40).mono (R' := fun e w' => e = .returned (.int .i64 xt) ∧ Hid (RdQ w W1 w' W1.heap.size B n0 n1 n2 n3 n4 n5 n6 n7 a c rs z1)) (fun e w' hq => by rw [h1] at hq; exact ⟨hq.1, Lib.hid (HR.out.2.2.2.only HBL.out (Nat.le_refl _) hq.2.1 hq.2.2)⟩))
      have QT := Lib.hid (fun (wx : World) (hh : RdQ w W1 wx W1.heap.size B n0 n1 n2 n3 n4 n5 n6 n7 a c rs z1) => (qa_text (hh.on (below_new wx (.cells #[.int .i64 xt, .string ⟨#[]⟩] 27))).ra hz1).mono (R' := fun e w' => e = .returned (.string ⟨xd.toArray⟩) ∧ (w'.cell? ⟨wx.heap.size, 1, none⟩ = some (.string ⟨#[]⟩) ∧ ∀ o, w'.frozen? ⟨wx.heap.size, o, none⟩ = false) ∧ Hid (RdQ w W1 (w'.setCell ⟨wx.heap.size, 1, none⟩ (.string ⟨xd.toArray⟩)) W1.heap.size B n0 n1 n2 n3 n4 n5 n6 n7 a c rs z2 ∧ (w'.setCell ⟨wx.heap.size, 1, none⟩ (.string ⟨xd.toArray⟩)).heap[wx.heap.size]? = some (.cells #[.int .i64 xt, .string ⟨xd.toArray⟩] 27 (0, 0)))) (fun e w' hq => by
        rw [h2] at hq
        have hl : W1.heap.size < wx.heap.size := hh.ra.rd.lt
        have hBx : B < wx.heap.size := box_lt hh.box
        have hx := (only_kept hq.2.2).heap (box_new wx _) (fun e => by have e : wx.heap.size = W1.heap.size := e; omega)
        have hr := (hh.on (below_new wx _)).only HBL.out (Nat.le_refl _) hq.2.1 hq.2.2
        refine ⟨hq.1, ⟨by rw [Lib.cell_of_heap hx]; rfl, fun o => Lib.frozen_of_heap hx o⟩, Lib.hid ⟨hr.far (Kept.set wx.heap.size 1 w' _) (Nat.le_of_lt HS1.out) (fun k e => ?_), box_set hx 1 _⟩⟩
        have e : k = wx.heap.size := e
        rw [e]
        exact ⟨by omega, by omega, by omega, fun e => by have := hh.row.lt e; omega⟩))
      clear h1 h2 hz40 hz1
      go_upto_region 17 with (first | ((with_reducible refine QL.out.mono ?_); rintro e w2 ⟨rfl, hw⟩; rw [hw]; clear hw) | ((with_reducible refine QI.out.mono ?_); rintro e w3 ⟨rfl, HI⟩) | ((with_reducible refine (QT.out _ HI.out).mono ?_); rintro e w4 ⟨rfl, ⟨g1, gf⟩, HT⟩))
      obtain ⟨X, hX⟩ : ∃ X, w3.heap.size = X := ⟨_, rfl⟩
      rw [hX] at HT ⊢
      obtain ⟨W7, hW7⟩ : ∃ W7, W7 = w4.setCell ⟨X, 1, none⟩ (.string ⟨xd.toArray⟩) := ⟨_, rfl⟩
      rw [← hW7] at HT ⊢
      clear hW7 hX g1 gf
      obtain ⟨q1, a1, c1, w5, hrA, q5, HR5⟩ := HT.out.1.push HBL.out (Nat.le_refl _) ⟨xt, xd⟩ (by omega)
      rw [hn] at hrA HR5
      have HR5 := Lib.hid HR5
      have HRA := Lib.hid hrA
      have HREC := Lib.hid hrec
      have y7 : W7.cell? ⟨B, 8, none⟩ = some (.slice a n c) := by rw [Lib.cell_of_heap HT.out.1.box, ← hn]; rfl
      have x70 : W7.cell? ⟨X, 0, none⟩ = some (.int .i64 xt) := by rw [Lib.cell_of_heap HT.out.2]; rfl
      have x71 : W7.cell? ⟨X, 1, none⟩ = some (.string ⟨xd.toArray⟩) := by rw [Lib.cell_of_heap HT.out.2]; rfl
      have y5 : w5.cell? ⟨B, 8, none⟩ = some (.slice a n c) := by rw [Lib.cell_of_heap q5, ← hn]; rfl
      have yf5 := Lib.frozen_of_heap q5
      clear q1 q5 hrA hrec
      go_wp2_with (at_builtin; refine Lib.wpList_append_run _ rfl _ _ _ _ rfl _ _ rfl rfl _ w5 HRA.out ?_)
      go_roundw
      case rel =>
        have e1 : (rs ++ [(⟨xt, xd⟩ : Rec)]).length = n + 1 := by rw [List.length_append, hn]; rfl
        have hLN := HLN.out
        have h40 := HR.out.2.1
        have hr := HREC.out
        refine ⟨a1, c1, n + 1, rs ++ [⟨xt, xd⟩], z2, by go_num, ?_, Lib.frozen_of_heap HR5.out.box, Lib.hid ⟨e1, ?_, ?_, HR5.out⟩⟩
        · rw [Lib.cell_of_heap HR5.out.box, ← e1]
          rfl
        · have := rdRec_lt (s := z) (by omega)
          rw [hr] at this
          have this : z2.r.length < z.r.length := this
          omega
        · have := HR.out.2.2.1.more (by rw [hn]; exact hc.1) (by omega)
          rw [hr] at this
          exact this
      case measure => simp [intOf]; omega
    · have hz : z.r.length = 0 ∨ rs.length = N := by
        have := HR.out.1
        have := HR.out.2.2.1.1
        have := HLN.out
        omega
      have HZ := Lib.hid (HR.out.2.2.1.done hz)
      have hn : rs.length = n := HR.out.1
      have hP := readQ_at (rs := rs) (z := z) HE.out HE8.out (by rw [Int.toNat_natCast]; exact HZ.out)
      have hxr := box_on HX1.out HR.out.2.2.2.bel
      have HBR := Lib.hid (HB1.out.trans (HR.out.2.2.2.bel.mono HB1.out.size))
      have hyr := HR.out.2.2.2.box
      rw [hn] at hyr
      obtain ⟨ok, hok⟩ : ∃ ok, ok = (!z.f && z.r.isEmpty) := ⟨_, rfl⟩
      have QD := Lib.hid ((qDone_c W1.heap.size z.r z.f wr HR.out.2.2.2.ra.rd).mono (R' := fun e w' => e = .returned (.bool ok) ∧ w' = wr) (fun e w' hq => ⟨by rw [hok]; exact hq.1, hq.2.symm⟩))
      obtain ⟨E, hE⟩ : ∃ E, E = eMsg ⟨n0, n1, n2, n3, n4, n5, n6, (n7 == 1), rs⟩ := ⟨_, rfl⟩
      have r0 : wr.cell? ⟨w.heap.size, 0, none⟩ = some (.int .i64 0) := by rw [Lib.cell_of_heap hxr]; rfl
      have r1 : wr.cell? ⟨w.heap.size, 1, none⟩ = some (.int .i64 0) := by rw [Lib.cell_of_heap hxr]; rfl
      have r2 : wr.cell? ⟨w.heap.size, 2, none⟩ = some (.int .i64 0) := by rw [Lib.cell_of_heap hxr]; rfl
      have r3 : wr.cell? ⟨w.heap.size, 3, none⟩ = some (.int .i64 0) := by rw [Lib.cell_of_heap hxr]; rfl
      have r4 : wr.cell? ⟨w.heap.size, 4, none⟩ = some (.int .i64 0) := by rw [Lib.cell_of_heap hxr]; rfl
      have r5 : wr.cell? ⟨w.heap.size, 5, none⟩ = some (.int .i64 0) := by rw [Lib.cell_of_heap hxr]; rfl
      have r6 : wr.cell? ⟨w.heap.size, 6, none⟩ = some (.int .i64 0) := by rw [Lib.cell_of_heap hxr]; rfl
      have r7 : wr.cell? ⟨w.heap.size, 7, none⟩ = some (.bool false) := by rw [Lib.cell_of_heap hxr]; rfl
      have r8 : wr.cell? ⟨w.heap.size, 8, none⟩ = some (.slice none 0 0) := by rw [Lib.cell_of_heap hxr]; rfl
      have rf := Lib.frozen_of_heap hxr
      have d0 : wr.cell? ⟨B, 0, none⟩ = some (.int .i64 n0) := by rw [Lib.cell_of_heap hyr]; rfl
      have d1 : wr.cell? ⟨B, 1, none⟩ = some (.int .i64 n1) := by rw [Lib.cell_of_heap hyr]; rfl
      have d2 : wr.cell? ⟨B, 2, none⟩ = some (.int .i64 n2) := by rw [Lib.cell_of_heap hyr]; rfl
      have d3 : wr.cell? ⟨B, 3, none⟩ = some (.int .i64 n3) := by rw [Lib.cell_of_heap hyr]; rfl
      have d4 : wr.cell? ⟨B, 4, none⟩ = some (.int .i64 n4) := by rw [Lib.cell_of_heap hyr]; rfl
      have d5 : wr.cell? ⟨B, 5, none⟩ = some (.int .i64 n5) := by rw [Lib.cell_of_heap hyr]; rfl
      have d6 : wr.cell? ⟨B, 6, none⟩ = some (.int .i64 n6) := by rw [Lib.cell_of_heap hyr]; rfl
      have d7 : wr.cell? ⟨B, 7, none⟩ = some (.bool (n7 == 1)) := by rw [Lib.cell_of_heap hyr]; rfl
      have d8 : wr.cell? ⟨B, 8, none⟩ = some (.slice a n c) := by rw [Lib.cell_of_heap hyr]; rfl
      cases ok with
      | false =>
        have HNO := Lib.hid (show readQ s = none from by rw [hP]; exact if_neg (fun q => by rw [q.1, q.2.1] at hok; simp at hok))
        clear hP hok hE
        by_cases hnN : n < N
        · have hnI : (n : Int) < (N : Int) := by omega
          have hl0 : ¬ (0 : Int) < (LN : Int) := by omega
          go_wp2_with (first | ((with_reducible refine QL.out.mono ?_); rintro e w2 ⟨rfl, hw⟩; rw [hw]; clear hw) | ((with_reducible refine QD.out.mono ?_); rintro e w3 ⟨rfl, hw⟩; rw [hw]; clear hw))
          (try simp only [Exit.inBlock, Exit.then])
          refine bodyPost_ret (ret_msg2 rfl _ _ w.heap.size ⟨zeroM, none, 0⟩ rfl (box9 hxr _ _ _ _ _ _ _ _ _)) rfl ?_
          exact ⟨⟨zeroM, none, 0⟩, by rw [HNO.out]; rfl, by rw [HNO.out]; rfl, Src.nil _ _, HBR.out.trans ((set9 _ _ _ _ _ _ _ _ _ _ _).toBelow HBR.out.size (fun k e => by rw [e]; exact Nat.le_refl _))⟩
        · have hnI : ¬ (n : Int) < (N : Int) := by omega
          go_wp2_with (first | ((with_reducible refine QL.out.mono ?_); rintro e w2 ⟨rfl, hw⟩; rw [hw]; clear hw) | ((with_reducible refine QD.out.mono ?_); rintro e w3 ⟨rfl, hw⟩; rw [hw]; clear hw))
          (try simp only [Exit.inBlock, Exit.then])
          refine bodyPost_ret (ret_msg2 rfl _ _ w.heap.size ⟨zeroM, none, 0⟩ rfl (box9 hxr _ _ _ _ _ _ _ _ _)) rfl ?_
          exact ⟨⟨zeroM, none, 0⟩, by rw [HNO.out]; rfl, by rw [HNO.out]; rfl, Src.nil _ _, HBR.out.trans ((set9 _ _ _ _ _ _ _ _ _ _ _).toBelow HBR.out.size (fun k e => by rw [e]; exact Nat.le_refl _))⟩
      | true =>
        have HOK := Lib.hid (show z.f = false ∧ z.r = [] from by simpa using hok.symm)
        have QB := Lib.hid ((bytesQ_c (G := fun _ => True) ⟨⟨n0, n1, n2, n3, n4, n5, n6, (n7 == 1), rs⟩, a, c⟩ (low_of_read HE.out HE8.out HZ.out HOK.out.1 HOK.out.2 HSL.out) wr (HR.out.2.2.2.row.src (fun _ _ => trivial))).mono (R' := fun e w' => e = .returned (.string ⟨E.toArray⟩) ∧ (w'.cell? ⟨w.heap.size, 0, none⟩ = some (.int .i64 0) ∧ w'.cell? ⟨w.heap.size, 1, none⟩ = some (.int .i64 0) ∧ w'.cell? ⟨w.heap.size, 2, none⟩ = some (.int .i64 0) ∧ w'.cell? ⟨w.heap.size, 3, none⟩ = some (.int .i64 0) ∧ w'.cell? ⟨w.heap.size, 4, none⟩ = some (.int .i64 0) ∧ w'.cell? ⟨w.heap.size, 5, none⟩ = some (.int .i64 0) ∧ w'.cell? ⟨w.heap.size, 6, none⟩ = some (.int .i64 0) ∧ w'.cell? ⟨w.heap.size, 7, none⟩ = some (.bool false) ∧ w'.cell? ⟨w.heap.size, 8, none⟩ = some (.slice none 0 0)) ∧ (∀ o, w'.frozen? ⟨w.heap.size, o, none⟩ = false) ∧ (w'.cell? ⟨B, 0, none⟩ = some (.int .i64 n0) ∧ w'.cell? ⟨B, 1, none⟩ = some (.int .i64 n1) ∧ w'.cell? ⟨B, 2, none⟩ = some (.int .i64 n2) ∧ w'.cell? ⟨B, 3, none⟩ = some (.int .i64 n3) ∧ w'.cell? ⟨B, 4, none⟩ = some (.int .i64 n4) ∧ w'.cell? ⟨B, 5, none⟩ = some (.int .i64 n5) ∧ w'.cell? ⟨B, 6, none⟩ = some (.int .i64 n6) ∧ w'.cell? ⟨B, 7, none⟩ = some (.bool (n7 == 1)) ∧ w'.cell? ⟨B, 8, none⟩ = some (.slice a n c)) ∧ Hid (Below wr.heap.size wr w' ∧ Below w.heap.size w w' ∧ w'.heap[w.heap.size]? = some (.cells #[.int .i64 0, .int .i64 0, .int .i64 0, .int .i64 0, .int .i64 0, .int .i64 0, .int .i64 0, .bool false, .slice none 0 0] 24 (0, 0)))) (fun e w' hh => by
          have hx := box_on hxr hh.2
          have hy := box_on hyr hh.2
          refine ⟨by rw [hE]; exact hh.1, ⟨?_, ?_, ?_, ?_, ?_, ?_, ?_, ?_, ?_⟩, fun o => Lib.frozen_of_heap hx o, ⟨?_, ?_, ?_, ?_, ?_, ?_, ?_, ?_, ?_⟩, Lib.hid ⟨hh.2, HBR.out.trans (hh.2.mono HBR.out.size), hx⟩⟩ <;> first | (rw [Lib.cell_of_heap hx]; rfl) | (rw [Lib.cell_of_heap hy]; rfl)))
        have QB' := QB
        change Hid (Calls _ _ #[.agg #[.int .i64 n0, .int .i64 n1, .int .i64 n2, .int .i64 n3, .int .i64 n4, .int .i64 n5, .int .i64 n6, .bool (n7 == 1), .slice a rs.length c]] _ _) at QB
        rw [hn] at QB
        clear QB'
        by_cases hq : E = s
        · have HYES := Lib.hid (show readQ s = some ⟨n0, n1, n2, n3, n4, n5, n6, (n7 == 1), rs⟩ from by rw [hP]; exact if_pos ⟨HOK.out.1, HOK.out.2, by rw [← hE]; exact hq⟩)
          clear hP hok hE
          rw [hq] at QB
          clear hq
          by_cases hnN : n < N
          · have hnI : (n : Int) < (N : Int) := by omega
            have hl0 : ¬ (0 : Int) < (LN : Int) := by omega
            go_wp2_with (first | ((with_reducible refine QL.out.mono ?_); rintro e w2 ⟨rfl, hw⟩; rw [hw]; clear hw) | ((with_reducible refine QD.out.mono ?_); rintro e w3 ⟨rfl, hw⟩; rw [hw]; clear hw) | ((with_reducible refine QB.out.mono ?_); clear r0 r1 r2 r3 r4 r5 r6 r7 r8 rf d0 d1 d2 d3 d4 d5 d6 d7 d8; rintro e w9 ⟨rfl, ⟨r0, r1, r2, r3, r4, r5, r6, r7, r8⟩, rf, ⟨d0, d1, d2, d3, d4, d5, d6, d7, d8⟩, HW9⟩))
            (try simp only [Exit.inBlock, Exit.then])
            all_goals
              refine bodyPost_ret (ret_msg2 rfl _ _ w.heap.size ⟨⟨n0, n1, n2, n3, n4, n5, n6, (n7 == 1), rs⟩, a, c⟩ rfl ?_) rfl ?_
              · have hq := box9 HW9.out.2.2 (.int .i64 n0) (.int .i64 n1) (.int .i64 n2) (.int .i64 n3) (.int .i64 n4) (.int .i64 n5) (.int .i64 n6) (.bool (n7 == 1)) (.slice a n c)
                rw [← hn] at hq ⊢
                exact hq
              · have hk := set9 w9 w.heap.size (.int .i64 n0) (.int .i64 n1) (.int .i64 n2) (.int .i64 n3) (.int .i64 n4) (.int .i64 n5) (.int .i64 n6) (.bool (n7 == 1)) (.slice a n c)
                have hsr := (HR.out.2.2.2.row.src (G := fun k => w.heap.size < k) (fun k e => by have := HR.out.2.2.2.row.above e; have := HBL.out; have := HS1.out; omega)).on HW9.out.1
                exact ⟨⟨⟨n0, n1, n2, n3, n4, n5, n6, (n7 == 1), rs⟩, a, c⟩, by rw [HYES.out]; rfl, by rw [HYES.out]; rfl, Src.mono' (Src.kept hsr hk (fun k _ e e' => by omega)) (fun k e => Nat.le_of_lt e), HW9.out.2.1.trans (hk.toBelow HW9.out.2.1.size (fun k e => by rw [e]; exact Nat.le_refl _))⟩
          · have hnI : ¬ (n : Int) < (N : Int) := by omega
            go_wp2_with (first | ((with_reducible refine QL.out.mono ?_); rintro e w2 ⟨rfl, hw⟩; rw [hw]; clear hw) | ((with_reducible refine QD.out.mono ?_); rintro e w3 ⟨rfl, hw⟩; rw [hw]; clear hw) | ((with_reducible refine QB.out.mono ?_); clear r0 r1 r2 r3 r4 r5 r6 r7 r8 rf d0 d1 d2 d3 d4 d5 d6 d7 d8; rintro e w9 ⟨rfl, ⟨r0, r1, r2, r3, r4, r5, r6, r7, r8⟩, rf, ⟨d0, d1, d2, d3, d4, d5, d6, d7, d8⟩, HW9⟩))
            (try simp only [Exit.inBlock, Exit.then])
            all_goals
              refine bodyPost_ret (ret_msg2 rfl _ _ w.heap.size ⟨⟨n0, n1, n2, n3, n4, n5, n6, (n7 == 1), rs⟩, a, c⟩ rfl ?_) rfl ?_
              · have hq := box9 HW9.out.2.2 (.int .i64 n0) (.int .i64 n1) (.int .i64 n2) (.int .i64 n3) (.int .i64 n4) (.int .i64 n5) (.int .i64 n6) (.bool (n7 == 1)) (.slice a n c)
                rw [← hn] at hq ⊢
                exact hq
              · have hk := set9 w9 w.heap.size (.int .i64 n0) (.int .i64 n1) (.int .i64 n2) (.int .i64 n3) (.int .i64 n4) (.int .i64 n5) (.int .i64 n6) (.bool (n7 == 1)) (.slice a n c)
                have hsr := (HR.out.2.2.2.row.src (G := fun k => w.heap.size < k) (fun k e => by have := HR.out.2.2.2.row.above e; have := HBL.out; have := HS1.out; omega)).on HW9.out.1
                exact ⟨⟨⟨n0, n1, n2, n3, n4, n5, n6, (n7 == 1), rs⟩, a, c⟩, by rw [HYES.out]; rfl, by rw [HYES.out]; rfl, Src.mono' (Src.kept hsr hk (fun k _ e e' => by omega)) (fun k e => Nat.le_of_lt e), HW9.out.2.1.trans (hk.toBelow HW9.out.2.1.size (fun k e => by rw [e]; exact Nat.le_refl _))⟩
        · have HNO := Lib.hid (show readQ s = none from by rw [hP]; exact if_neg (fun q => hq (by rw [hE]; exact q.2.2)))
          have hbe : (E == s) = false := by simpa using hq
          clear hP hok hE
          by_cases hnN : n < N
          · have hnI : (n : Int) < (N : Int) := by omega
            have hl0 : ¬ (0 : Int) < (LN : Int) := by omega
            go_wp2_with (first | ((with_reducible refine QL.out.mono ?_); rintro e w2 ⟨rfl, hw⟩; rw [hw]; clear hw) | ((with_reducible refine QD.out.mono ?_); rintro e w3 ⟨rfl, hw⟩; rw [hw]; clear hw) | ((with_reducible refine QB.out.mono ?_); clear r0 r1 r2 r3 r4 r5 r6 r7 r8 rf d0 d1 d2 d3 d4 d5 d6 d7 d8; rintro e w9 ⟨rfl, ⟨r0, r1, r2, r3, r4, r5, r6, r7, r8⟩, rf, ⟨d0, d1, d2, d3, d4, d5, d6, d7, d8⟩, HW9⟩))
            (try simp only [Exit.inBlock, Exit.then])
            refine bodyPost_ret (ret_msg2 rfl _ _ w.heap.size ⟨zeroM, none, 0⟩ rfl (box9 HW9.out.2.2 _ _ _ _ _ _ _ _ _)) rfl ?_
            exact ⟨⟨zeroM, none, 0⟩, by rw [HNO.out]; rfl, by rw [HNO.out]; rfl, Src.nil _ _, HW9.out.2.1.trans ((set9 _ _ _ _ _ _ _ _ _ _ _).toBelow HW9.out.2.1.size (fun k e => by rw [e]; exact Nat.le_refl _))⟩
          · have hnI : ¬ (n : Int) < (N : Int) := by omega
            go_wp2_with (first | ((with_reducible refine QL.out.mono ?_); rintro e w2 ⟨rfl, hw⟩; rw [hw]; clear hw) | ((with_reducible refine QD.out.mono ?_); rintro e w3 ⟨rfl, hw⟩; rw [hw]; clear hw) | ((with_reducible refine QB.out.mono ?_); clear r0 r1 r2 r3 r4 r5 r6 r7 r8 rf d0 d1 d2 d3 d4 d5 d6 d7 d8; rintro e w9 ⟨rfl, ⟨r0, r1, r2, r3, r4, r5, r6, r7, r8⟩, rf, ⟨d0, d1, d2, d3, d4, d5, d6, d7, d8⟩, HW9⟩))
            (try simp only [Exit.inBlock, Exit.then])
            refine bodyPost_ret (ret_msg2 rfl _ _ w.heap.size ⟨zeroM, none, 0⟩ rfl (box9 HW9.out.2.2 _ _ _ _ _ _ _ _ _)) rfl ?_
            exact ⟨⟨zeroM, none, 0⟩, by rw [HNO.out]; rfl, by rw [HNO.out]; rfl, Src.nil _ _, HW9.out.2.1.trans ((set9 _ _ _ _ _ _ _ _ _ _ _).toBelow HW9.out.2.1.size (fun k e => by rw [e]; exact Nat.le_refl _))⟩
end Go.Proofs.YtkmojcpiadpbaaaGreatDoor
