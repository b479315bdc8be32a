/-
  Right, New: a configuration, a new partition.
-/
import Derived.Test.YtmgpfkckafdbmaaIKnow
namespace Go.Proofs.Ytmgpfkckafdbmaa
set_option maxRecDepth 100000
open Go Go.RowKit

/-- A configuration. -/
structure Cfg where
  parts : Int
  c : In.C
  span : Int
def Cfg.val (x : Cfg) : Value := .agg #[.int .i64 x.parts, .int .i64 x.c.delay, .int .i64 x.c.late, .int .i64 x.c.ahead, .int .i64 x.c.rate, .int .i64 x.span]
def Cfg.obj (x : Cfg) : Obj := .cells #[.int .i64 x.parts, .int .i64 x.c.delay, .int .i64 x.c.late, .int .i64 x.c.ahead, .int .i64 x.c.rate, .int .i64 x.span] 23 (0, 0)
structure Cfg.fit (x : Cfg) : Prop where
  delay : I64 x.c.delay
  late : I64 x.c.late
  ahead : I64 x.c.ahead
  rate : I64 x.c.rate
structure CfgAt (w : World) (b : Nat) (x : Cfg) : Prop where
  c0 : w.cell? ⟨b, 0, none⟩ = some (.int .i64 x.parts)
  c1 : w.cell? ⟨b, 1, none⟩ = some (.int .i64 x.c.delay)
  c2 : w.cell? ⟨b, 2, none⟩ = some (.int .i64 x.c.late)
  c3 : w.cell? ⟨b, 3, none⟩ = some (.int .i64 x.c.ahead)
  c4 : w.cell? ⟨b, 4, none⟩ = some (.int .i64 x.c.rate)
  c5 : w.cell? ⟨b, 5, none⟩ = some (.int .i64 x.span)
theorem Cfg.cells {w : World} {b : Nat} {x : Cfg} (h : w.heap[b]? = some x.obj) : CfgAt w b x := ⟨by rw [Lib.cell_of_heap h]; rfl, by rw [Lib.cell_of_heap h]; rfl, by rw [Lib.cell_of_heap h]; rfl, by rw [Lib.cell_of_heap h]; rfl, by rw [Lib.cell_of_heap h]; rfl, by rw [Lib.cell_of_heap h]; rfl⟩
set_option maxHeartbeats 4000000 in
theorem right_cI (x : Cfg) (w : World) : Calls Try.prog 9 #[x.val] w fun e w' => e = .returned (.bool (decide x.c.right)) ∧ Below w.heap.size w w' := by
  obtain ⟨W1, hW1⟩ : ∃ W1, W1 = w.alloc x.obj := ⟨_, rfl⟩
  have HB := Lib.hid (show Below w.heap.size w W1 by rw [hW1]; exact below_new w _)
  have hc := Cfg.cells (show W1.heap[w.heap.size]? = some x.obj by rw [hW1]; exact box_new w _)
  have c1 := hc.c1
  have c2 := hc.c2
  have c3 := hc.c3
  have c4 := hc.c4
  clear hc
  unfold Cfg.obj at hW1
  unfold Cfg.val
  by_cases h0 : 0 ≤ x.c.delay
  · by_cases h1 : x.c.delay ≤ x.c.late
    · by_cases h2 : x.c.late ≤ 10000
      · by_cases h3 : 0 ≤ x.c.ahead
        · by_cases h4 : x.c.ahead ≤ 10000
          · by_cases h5 : 1 ≤ x.c.rate
            · by_cases h6 : x.c.rate ≤ 20
              · have HD := Lib.hid (show decide x.c.right = true from decide_eq_true ⟨h0, h1, h2, h3, h4, h5, h6⟩)
                rw [HD.out]
                go_enter Try.func9, Try.ntmps9
                go_upto_region 1 with fail
                rw [← hW1]
                clear hW1
                go_wp2_with fail
                go_ret
                exact ⟨rfl, HB.out⟩
              · have HD := Lib.hid (show decide x.c.right = false from decide_eq_false (fun f => h6 f.2.2.2.2.2.2))
                rw [HD.out]
                go_enter Try.func9, Try.ntmps9
                go_upto_region 1 with fail
                rw [← hW1]
                clear hW1
                go_wp2_with fail
                go_ret
                exact ⟨rfl, HB.out⟩
            · have HD := Lib.hid (show decide x.c.right = false from decide_eq_false (fun f => h5 f.2.2.2.2.2.1))
              rw [HD.out]
              go_enter Try.func9, Try.ntmps9
              go_upto_region 1 with fail
              rw [← hW1]
              clear hW1
              go_wp2_with fail
              go_ret
              exact ⟨rfl, HB.out⟩
          · have HD := Lib.hid (show decide x.c.right = false from decide_eq_false (fun f => h4 f.2.2.2.2.1))
            rw [HD.out]
            go_enter Try.func9, Try.ntmps9
            go_upto_region 1 with fail
            rw [← hW1]
            clear hW1
            go_wp2_with fail
            go_ret
            exact ⟨rfl, HB.out⟩
        · have HD := Lib.hid (show decide x.c.right = false from decide_eq_false (fun f => h3 f.2.2.2.1))
          rw [HD.out]
          go_enter Try.func9, Try.ntmps9
          go_upto_region 1 with fail
          rw [← hW1]
          clear hW1
          go_wp2_with fail
          go_ret
          exact ⟨rfl, HB.out⟩
      · have HD := Lib.hid (show decide x.c.right = false from decide_eq_false (fun f => h2 f.2.2.1))
        rw [HD.out]
        go_enter Try.func9, Try.ntmps9
        go_upto_region 1 with fail
        rw [← hW1]
        clear hW1
        go_wp2_with fail
        go_ret
        exact ⟨rfl, HB.out⟩
    · have HD := Lib.hid (show decide x.c.right = false from decide_eq_false (fun f => h1 f.2.1))
      rw [HD.out]
      go_enter Try.func9, Try.ntmps9
      go_upto_region 1 with fail
      rw [← hW1]
      clear hW1
      go_wp2_with fail
      go_ret
      exact ⟨rfl, HB.out⟩
  · have HD := Lib.hid (show decide x.c.right = false from decide_eq_false (fun f => h0 f.1))
    rw [HD.out]
    go_enter Try.func9, Try.ntmps9
    go_upto_region 1 with fail
    rw [← hW1]
    clear hW1
    go_wp2_with fail
    go_ret
    exact ⟨rfl, HB.out⟩
/-- A new partition, or none. -/
def NewIs (x : Cfg) (K : List KP) (w w' : World) (e : Ending) : Prop :=
  (¬ x.c.right ∧ e = .returned (.pointer none)) ∨
  (x.c.right ∧ ∃ b p, e = .returned (.pointer (some ⟨b, 0, none⟩)) ∧ p.K.map KP.core = K.map KP.core ∧ IxAt (fun k => w.heap.size ≤ k ∧ k ≠ b ∧ k ≠ p.mb) w' b x.c p In.new ∧ w.heap.size ≤ b ∧ w.heap.size ≤ p.mb)
set_option maxHeartbeats 2000000 in
theorem new_cI (x : Cfg) {w : World} {a : Option Addr} {kc0 : Nat} {K : List KP} (hK : Kns (fun _ => True) w a kc0 K) (hn : K.length ≤ 1000) (hn2 : ∀ x ∈ K, x.cols.length ≤ 1000) :
    Calls Try.prog 6 #[x.val, .slice a K.length kc0] w fun e w' => NewIs x K w w' e ∧ Below w.heap.size w w' := by
  obtain ⟨W1, hW1⟩ : ∃ W1, W1 = w.alloc x.obj := ⟨_, rfl⟩
  have HB1 := Lib.hid (show Below w.heap.size w W1 by rw [hW1]; exact below_new w _)
  have HX1 := Lib.hid (show W1.heap[w.heap.size]? = some x.obj by rw [hW1]; exact box_new w _)
  have hc := Cfg.cells HX1.out
  have c0 := hc.c0
  have c1 := hc.c1
  have c2 := hc.c2
  have c3 := hc.c3
  have c4 := hc.c4
  have c5 := hc.c5
  have QR := Lib.hid (right_cI x W1)
  have HK := Lib.hid hK
  have HN2 := Lib.hid hn2
  obtain ⟨n, hnn⟩ : ∃ n, n = K.length := ⟨_, rfl⟩
  have HN := Lib.hid hnn
  rw [← hnn]
  have hmm := fun w => run_makeMap (P := Try.prog) 44 w
  unfold Cfg.obj at hW1
  unfold Cfg.val at QR ⊢
  clear hK hn2 hc hnn
  by_cases hr : x.c.right
  · have HR := Lib.hid (decide_eq_true hr)
    have HRR := Lib.hid hr
    clear hr
    go_enter Try.func6, Try.ntmps6
    go_upto_region 1 with fail
    rw [← hW1]
    clear hW1
    go_upto_region 3 with (go_at_call 9; refine QR.out.mono ?_; rintro e w2 ⟨rfl, hb2⟩; rw [HR.out]; have HB2 := Lib.hid hb2; have hc := Cfg.cells (box_on HX1.out hb2); have d0 := hc.c0; have d1 := hc.c1; have d2 := hc.c2; have d3 := hc.c3; have d4 := hc.c4; have d5 := hc.c5; clear hb2 hc c0 c1 c2 c3 c4 c5)
    obtain ⟨W3, hW3⟩ : ∃ W3, W3 = (w2.alloc (.map #[] 0)).alloc (ixObj x.c ⟨x.parts, x.span, none, 0, [], none, 0, [], w2.heap.size⟩ In.new) := ⟨_, rfl⟩
    have hb3 : Below w2.heap.size w2 W3 := by rw [hW3]; exact ((Below.refl _ _).alloc (Nat.le_refl _) _).alloc (by simp) _
    have hI3 : IxAt (fun k => w.heap.size ≤ k ∧ k ≠ w2.heap.size + 1 ∧ k ≠ w2.heap.size) W3 (w2.heap.size + 1) x.c ⟨x.parts, x.span, none, 0, [], none, 0, [], w2.heap.size⟩ In.new := by
      rw [hW3]
      refine ⟨?_, ⟨Src.nil _ _, fun y hy => by cases hy⟩, ⟨Src.nil _ _, fun y hy => by cases hy⟩, rfl, ?_, fun f => f.2.1 rfl, fun f => f.2.2 rfl, by show w2.heap.size + 1 ≠ w2.heap.size; omega⟩
      · have := box_new (w2.alloc (.map #[] 0)) (ixObj x.c ⟨x.parts, x.span, none, 0, [], none, 0, [], w2.heap.size⟩ In.new)
        simpa using this
      · exact (CntAt.made w2).on (below_new _ _)
    have s2 : w.heap.size + 1 ≤ w2.heap.size := by
      have h1 := HB2.out.size
      have h2 := box_lt HX1.out
      omega
    have s3 : w2.heap.size + 2 ≤ W3.heap.size := by rw [hW3]; simp
    have hbw := (HB1.out.trans (HB2.out.mono HB1.out.size)).trans (hb3.mono (by omega))
    have QW := know_c hI3 (fun k hk => ⟨by omega, by omega, by omega⟩) ((HK.out.monoW (G' := fun k => k ≠ w2.heap.size + 1) (fun k hk _ => by omega)).on hbw) hn HN2.out
    rw [← HN.out] at QW
    have Q := Lib.hid QW
    have H := Lib.hid (And.intro hbw s2)
    unfold ixObj In.new at hW3
    dsimp only [List.length_nil] at hW3
    clear hI3 hb3 hbw QW s2 s3
    go_upto_region 4 with fail
    rw [← hW3]
    clear hW3
    go_wp2_with (go_at_call 19; refine Q.out.mono ?_; rintro e w4 ⟨rfl, ka, kc, L, hL, hI4, hk4⟩; have HI4 := Lib.hid (And.intro hL (And.intro hI4 hk4)); clear hL hI4 hk4)
    go_ret
    obtain ⟨hL, hI4, hk4⟩ := HI4.out
    obtain ⟨hbw, s2⟩ := H.out
    refine ⟨Or.inr ⟨HRR.out, w2.heap.size + 1, ⟨x.parts, x.span, ka, kc, L, none, 0, [], w2.heap.size⟩, rfl, ?_, hI4, by omega, by show w.heap.size ≤ w2.heap.size; omega⟩, hbw.trans (hk4.toBelow hbw.size (fun k e => by omega))⟩
    exact hL
  · have HR := Lib.hid (decide_eq_false hr)
    have HRR := Lib.hid hr
    clear hr
    go_enter Try.func6, Try.ntmps6
    go_upto_region 1 with fail
    rw [← hW1]
    clear hW1
    go_wp2_with (go_at_call 9; refine QR.out.mono ?_; rintro e w2 ⟨rfl, hb2⟩; rw [HR.out]; have HB2 := Lib.hid hb2; clear hb2)
    go_ret
    exact ⟨Or.inl ⟨HRR.out, rfl⟩, HB1.out.trans (HB2.out.mono HB1.out.size)⟩
end Go.Proofs.Ytmgpfkckafdbmaa
