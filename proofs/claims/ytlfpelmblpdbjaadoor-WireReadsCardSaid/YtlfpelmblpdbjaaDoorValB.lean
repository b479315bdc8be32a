/-
  The statements' values: writing one returns the encoding of its kind; comparing lists; and reading back what was written returns true.
-/
import Derived.Test.YtlfpelmblpdbjaaDoorVal
import Derived.Deep.RegionWith
namespace Go.Proofs.YtlfpelmblpdbjaaDoor
open Go Go.RowKit Go.Sort Wire

def numv (n : Int) : Int := if n < 0 then -(n + 1) else n
theorem numv_in {n : Int} (h : InR n) : InR (numv n) ∧ 0 ≤ numv n := by
  unfold numv InR at *
  split <;> omega
theorem number_c (n : Int) (h : InR n) (w : World) : Calls Tryd.prog 57 #[.int .i64 n] w fun e w' => e = .returned (.int .i64 (numv n)) ∧ w = w' := by
  obtain ⟨h0, h1⟩ := h
  by_cases hn : n < 0
  · have HN := Lib.hid (show -(n + 1) = numv n by unfold numv; rw [if_pos hn])
    go_enter Tryd.func57, Tryd.ntmps57
    go_wp2
    go_ret
    exact ⟨ret_int HN.out, rfl⟩
  · have HN := Lib.hid (show n = numv n by unfold numv; rw [if_neg hn])
    go_enter Tryd.func57, Tryd.ntmps57
    go_wp2
    go_ret
    exact ⟨ret_int HN.out, rfl⟩

/-- The encoding of a value, by its kind. -/
def Val.enc (x : Val) : List UInt8 :=
  if x.k % 5 = 0 then eNum (numv x.n) else if x.k % 5 = 1 then eInt x.n else if x.k % 5 = 2 then eText x.s else if x.k % 5 = 3 then eList eInt x.l else eList eText x.t

theorem flat_int_le (l : List Int) (h : ∀ n ∈ l, InR n) : (l.flatMap eInt).length ≤ 21 * l.length := by
  induction l with
  | nil => simp
  | cons n l ih =>
    have h1 := ih (fun m hm => h m (List.mem_cons_of_mem _ hm))
    have h2 := itoa_len n (h n (List.mem_cons_self ..))
    simp only [List.flatMap_cons, List.length_append, List.length_cons, eInt, List.length_nil]
    omega
theorem texts_cons (s : List UInt8) (t : List (List UInt8)) : texts (s :: t) = s.length + texts t := by
  unfold texts
  simp only [List.map_cons, List.foldl_cons]
  rw [foldl_add]
  omega
theorem flat_text_le (t : List (List UInt8)) (h : texts t ≤ 1000) : (t.flatMap eText).length ≤ texts t + 22 * t.length := by
  induction t with
  | nil => simp
  | cons s t ih =>
    rw [texts_cons] at *
    have h1 := ih (by omega)
    have h2 := itoa_len s.length (by unfold InR; omega)
    simp only [List.flatMap_cons, List.length_append, List.length_cons, eText, List.length_nil]
    omega
theorem enc_len (x : Val) (hk : x.size ≤ 400) (hn : InR x.n) (hl : ∀ y ∈ x.l, InR y) : x.enc.length ≤ 20000 := by
  unfold Val.size at hk
  have h1 := flat_int_le x.l hl
  have h2 := flat_text_le x.t (by omega)
  have h3 := itoa_len x.n hn
  have h4 := itoa_len (numv x.n) (numv_in hn).1
  have h5 := itoa_len x.s.length (by unfold InR; omega)
  have h6 := itoa_len x.l.length (by unfold InR; omega)
  have h7 := itoa_len x.t.length (by unfold InR; omega)
  unfold Val.enc eNum eInt eText eList
  split
  · split <;> simp <;> omega
  · split
    · simp; omega
    · split
      · simp; omega
      · split
        · have e : (x.l.flatMap fun n => Lib.itoa n ++ [59]).length ≤ 21 * x.l.length := h1
          simp only [List.length_append, List.length_singleton]
          omega
        · have e : (x.t.flatMap fun s => Lib.itoa s.length ++ [58] ++ s ++ [44]).length ≤ texts x.t + 22 * x.t.length := h2
          simp only [List.length_append, List.length_singleton]
          omega

theorem kind_j (k j : Int) (hk : InR k) (hj : k % 5 = j) (v1 v2 v3 v4 : Value) (w : World) : Calls Tryd.prog 23 #[.agg #[.int .i64 k, v1, v2, v3, v4]] w fun e w' => e = .returned (.int .i64 j) ∧ Below w.heap.size w w' :=
  (kind_c k hk v1 v2 v3 v4 w).mono fun _ _ ⟨he, hb⟩ => ⟨by rw [he, hj], hb⟩
theorem box_there {w w1 : World} {cs : Array Value} {T : TypeId} (hb1 : Below (w.alloc (.cells cs T)).heap.size (w.alloc (.cells cs T)) w1) : w1.heap[w.heap.size]? = some (.cells cs T (0, 0)) :=
  (hb1.block _ (by simp)).trans (heap_alloc_new w _)
theorem enc0 (x : Val) (hj : x.k % 5 = 0) : x.enc = eNum (numv x.n) := by
  unfold Val.enc
  simp [hj]
theorem enc1 (x : Val) (hj : x.k % 5 = 1) : x.enc = eInt x.n := by
  unfold Val.enc
  simp [hj]
theorem enc2 (x : Val) (hj : x.k % 5 = 2) : x.enc = eText x.s := by
  unfold Val.enc
  simp [hj]
theorem enc3 (x : Val) (hj : x.k % 5 = 3) : x.enc = eList eInt x.l := by
  unfold Val.enc
  simp [hj]
theorem enc4 (x : Val) (hj : x.k % 5 = 4) : x.enc = eList eText x.t := by
  unfold Val.enc
  simp [hj]
theorem small_nums {x : Val} (h : x.size ≤ 400) (hl : ∀ y ∈ x.l, InR y) : (x.l.flatMap eInt).length ≤ 1000000000000 := by
  have := flat_int_le x.l hl
  unfold Val.size at h
  omega
theorem small_texts {x : Val} (h : x.size ≤ 400) : (x.t.flatMap eText).length ≤ 1000000000000 := by
  unfold Val.size at h
  have := flat_text_le x.t (by omega)
  omega
theorem small_text {x : Val} (h : x.size ≤ 400) : x.s.length ≤ 1000000000000 := by
  unfold Val.size at h
  omega
set_option maxRecDepth 100000 in
theorem write0_c (x : Val) (v3 v4 : Value) (hj : x.k % 5 = 0) (_hsz : x.size ≤ 400) (w : World) (hg : Good w) (hx : ValAt w x v3 v4) :
    Calls Tryd.prog 42 #[x.agg v3 v4] w fun e w' => e = .returned (.string ⟨x.enc.toArray⟩) ∧ Below w.heap.size w w' := by
  have HE := Lib.hid (enc0 x hj)
  have HJ := Lib.hid hj
  have hb0 : Below w.heap.size w (w.alloc (.cells #[.int .i64 x.k, .int .i64 x.n, .string ⟨x.s.toArray⟩, v3, v4] 25)) := (Below.refl _ _).alloc (Nat.le_refl _) _
  have hg0 := hg.on hb0
  obtain ⟨hk, hn, hs, hl, h3, h4⟩ := hx
  have h3' := h3.on hb0 (Nat.le_refl _)
  have h4' := h4.on hb0 (Nat.le_refl _)
  have HL := Lib.hid hl
  clear hj h3 h4 hl
  unfold Val.agg
  go_enter Tryd.func42, Tryd.ntmps42
  go_wp2_with fail
  refine (kind_j x.k 0 hk HJ.out _ _ _ _ _).mono ?_
  rintro e w1 ⟨rfl, hb1⟩
  have hbx := box_there hb1
  have c1 : w1.cell? ⟨w.heap.size, 1, none⟩ = some (.int .i64 x.n) := by rw [Lib.cell_of_heap hbx]; rfl
  have c2 : w1.cell? ⟨w.heap.size, 2, none⟩ = some (.string ⟨x.s.toArray⟩) := by rw [Lib.cell_of_heap hbx]; rfl
  have c3 : w1.cell? ⟨w.heap.size, 3, none⟩ = some v3 := by rw [Lib.cell_of_heap hbx]; rfl
  have c4 : w1.cell? ⟨w.heap.size, 4, none⟩ = some v4 := by rw [Lib.cell_of_heap hbx]; rfl
  have hg1 := hg0.on hb1
  have h3 := h3'.on hb1 (Nat.le_refl _)
  have h4 := h4'.on hb1 (Nat.le_refl _)
  have hb2 := chain hb0 hb1
  clear hbx h3' h4' hb1 hb0 hg0 hg
  go_wp2_with fail
  refine (number_c x.n hn _).mono ?_
  rintro e w2 ⟨rfl, rfl⟩
  go_wp2_with fail
  refine (wNum_c (numv x.n) (numv_in hn).1 _ hg1).mono ?_
  rintro e w3 ⟨rfl, hb3⟩
  go_wp2_with fail
  go_ret
  exact ⟨ret_str (congrArg (fun y : List UInt8 => (⟨y.toArray⟩ : ByteArray)) HE.out.symm), chain hb2 hb3⟩

set_option maxRecDepth 100000 in
theorem write1_c (x : Val) (v3 v4 : Value) (hj : x.k % 5 = 1) (_hsz : x.size ≤ 400) (w : World) (hg : Good w) (hx : ValAt w x v3 v4) :
    Calls Tryd.prog 42 #[x.agg v3 v4] w fun e w' => e = .returned (.string ⟨x.enc.toArray⟩) ∧ Below w.heap.size w w' := by
  have HE := Lib.hid (enc1 x hj)
  have HJ := Lib.hid hj
  have hb0 : Below w.heap.size w (w.alloc (.cells #[.int .i64 x.k, .int .i64 x.n, .string ⟨x.s.toArray⟩, v3, v4] 25)) := (Below.refl _ _).alloc (Nat.le_refl _) _
  have hg0 := hg.on hb0
  obtain ⟨hk, hn, hs, hl, h3, h4⟩ := hx
  have h3' := h3.on hb0 (Nat.le_refl _)
  have h4' := h4.on hb0 (Nat.le_refl _)
  have HL := Lib.hid hl
  clear hj h3 h4 hl
  unfold Val.agg
  go_enter Tryd.func42, Tryd.ntmps42
  go_wp2_with fail
  refine (kind_j x.k 1 hk HJ.out _ _ _ _ _).mono ?_
  rintro e w1 ⟨rfl, hb1⟩
  have hbx := box_there hb1
  have c1 : w1.cell? ⟨w.heap.size, 1, none⟩ = some (.int .i64 x.n) := by rw [Lib.cell_of_heap hbx]; rfl
  have c2 : w1.cell? ⟨w.heap.size, 2, none⟩ = some (.string ⟨x.s.toArray⟩) := by rw [Lib.cell_of_heap hbx]; rfl
  have c3 : w1.cell? ⟨w.heap.size, 3, none⟩ = some v3 := by rw [Lib.cell_of_heap hbx]; rfl
  have c4 : w1.cell? ⟨w.heap.size, 4, none⟩ = some v4 := by rw [Lib.cell_of_heap hbx]; rfl
  have hg1 := hg0.on hb1
  have h3 := h3'.on hb1 (Nat.le_refl _)
  have h4 := h4'.on hb1 (Nat.le_refl _)
  have hb2 := chain hb0 hb1
  clear hbx h3' h4' hb1 hb0 hg0 hg
  go_wp2_with fail
  refine (wInt_c x.n hn _ hg1).mono ?_
  rintro e w3 ⟨rfl, hb3⟩
  go_wp2_with fail
  go_ret
  exact ⟨ret_str (congrArg (fun y : List UInt8 => (⟨y.toArray⟩ : ByteArray)) HE.out.symm), chain hb2 hb3⟩

set_option maxRecDepth 100000 in
theorem write2_c (x : Val) (v3 v4 : Value) (hj : x.k % 5 = 2) (hsz : x.size ≤ 400) (w : World) (hg : Good w) (hx : ValAt w x v3 v4) :
    Calls Tryd.prog 42 #[x.agg v3 v4] w fun e w' => e = .returned (.string ⟨x.enc.toArray⟩) ∧ Below w.heap.size w w' := by
  have HE := Lib.hid (enc2 x hj)
  have HJ := Lib.hid hj
  have hb0 : Below w.heap.size w (w.alloc (.cells #[.int .i64 x.k, .int .i64 x.n, .string ⟨x.s.toArray⟩, v3, v4] 25)) := (Below.refl _ _).alloc (Nat.le_refl _) _
  have hg0 := hg.on hb0
  obtain ⟨hk, hn, hs, hl, h3, h4⟩ := hx
  have h3' := h3.on hb0 (Nat.le_refl _)
  have h4' := h4.on hb0 (Nat.le_refl _)
  have HL := Lib.hid hl
  clear hj h3 h4 hl
  unfold Val.agg
  go_enter Tryd.func42, Tryd.ntmps42
  go_wp2_with fail
  refine (kind_j x.k 2 hk HJ.out _ _ _ _ _).mono ?_
  rintro e w1 ⟨rfl, hb1⟩
  have hbx := box_there hb1
  have c1 : w1.cell? ⟨w.heap.size, 1, none⟩ = some (.int .i64 x.n) := by rw [Lib.cell_of_heap hbx]; rfl
  have c2 : w1.cell? ⟨w.heap.size, 2, none⟩ = some (.string ⟨x.s.toArray⟩) := by rw [Lib.cell_of_heap hbx]; rfl
  have c3 : w1.cell? ⟨w.heap.size, 3, none⟩ = some v3 := by rw [Lib.cell_of_heap hbx]; rfl
  have c4 : w1.cell? ⟨w.heap.size, 4, none⟩ = some v4 := by rw [Lib.cell_of_heap hbx]; rfl
  have hg1 := hg0.on hb1
  have h3 := h3'.on hb1 (Nat.le_refl _)
  have h4 := h4'.on hb1 (Nat.le_refl _)
  have hb2 := chain hb0 hb1
  clear hbx h3' h4' hb1 hb0 hg0 hg
  go_wp2_with fail
  refine (wText_c x.s (small_text hsz) _ hg1).mono ?_
  rintro e w3 ⟨rfl, hb3⟩
  go_wp2_with fail
  go_ret
  exact ⟨ret_str (congrArg (fun y : List UInt8 => (⟨y.toArray⟩ : ByteArray)) HE.out.symm), chain hb2 hb3⟩

set_option maxRecDepth 100000 in
theorem write3_c (x : Val) (v3 v4 : Value) (hj : x.k % 5 = 3) (hsz : x.size ≤ 400) (w : World) (hg : Good w) (hx : ValAt w x v3 v4) :
    Calls Tryd.prog 42 #[x.agg v3 v4] w fun e w' => e = .returned (.string ⟨x.enc.toArray⟩) ∧ Below w.heap.size w w' := by
  have HE := Lib.hid (enc3 x hj)
  have HJ := Lib.hid hj
  have hb0 : Below w.heap.size w (w.alloc (.cells #[.int .i64 x.k, .int .i64 x.n, .string ⟨x.s.toArray⟩, v3, v4] 25)) := (Below.refl _ _).alloc (Nat.le_refl _) _
  have hg0 := hg.on hb0
  obtain ⟨hk, hn, hs, hl, h3, h4⟩ := hx
  have h3' := h3.on hb0 (Nat.le_refl _)
  have h4' := h4.on hb0 (Nat.le_refl _)
  have HL := Lib.hid hl
  clear hj h3 h4 hl
  unfold Val.agg
  go_enter Tryd.func42, Tryd.ntmps42
  go_wp2_with fail
  refine (kind_j x.k 3 hk HJ.out _ _ _ _ _).mono ?_
  rintro e w1 ⟨rfl, hb1⟩
  have hbx := box_there hb1
  have c1 : w1.cell? ⟨w.heap.size, 1, none⟩ = some (.int .i64 x.n) := by rw [Lib.cell_of_heap hbx]; rfl
  have c2 : w1.cell? ⟨w.heap.size, 2, none⟩ = some (.string ⟨x.s.toArray⟩) := by rw [Lib.cell_of_heap hbx]; rfl
  have c3 : w1.cell? ⟨w.heap.size, 3, none⟩ = some v3 := by rw [Lib.cell_of_heap hbx]; rfl
  have c4 : w1.cell? ⟨w.heap.size, 4, none⟩ = some v4 := by rw [Lib.cell_of_heap hbx]; rfl
  have hg1 := hg0.on hb1
  have h3 := h3'.on hb1 (Nat.le_refl _)
  have h4 := h4'.on hb1 (Nat.le_refl _)
  have hb2 := chain hb0 hb1
  clear hbx h3' h4' hb1 hb0 hg0 hg
  go_wp2_with fail
  refine (wNums_c x.l v3 HL.out (small_nums hsz HL.out) _ hg1 h3).mono ?_
  rintro e w3 ⟨rfl, hb3⟩
  go_wp2_with fail
  go_ret
  exact ⟨ret_str (congrArg (fun y : List UInt8 => (⟨y.toArray⟩ : ByteArray)) HE.out.symm), chain hb2 hb3⟩

set_option maxRecDepth 100000 in
theorem write4_c (x : Val) (v3 v4 : Value) (hj : x.k % 5 = 4) (hsz : x.size ≤ 400) (w : World) (hg : Good w) (hx : ValAt w x v3 v4) :
    Calls Tryd.prog 42 #[x.agg v3 v4] w fun e w' => e = .returned (.string ⟨x.enc.toArray⟩) ∧ Below w.heap.size w w' := by
  have HE := Lib.hid (enc4 x hj)
  have HJ := Lib.hid hj
  have hb0 : Below w.heap.size w (w.alloc (.cells #[.int .i64 x.k, .int .i64 x.n, .string ⟨x.s.toArray⟩, v3, v4] 25)) := (Below.refl _ _).alloc (Nat.le_refl _) _
  have hg0 := hg.on hb0
  obtain ⟨hk, hn, hs, hl, h3, h4⟩ := hx
  have h3' := h3.on hb0 (Nat.le_refl _)
  have h4' := h4.on hb0 (Nat.le_refl _)
  have HL := Lib.hid hl
  clear hj h3 h4 hl
  unfold Val.agg
  go_enter Tryd.func42, Tryd.ntmps42
  go_wp2_with fail
  refine (kind_j x.k 4 hk HJ.out _ _ _ _ _).mono ?_
  rintro e w1 ⟨rfl, hb1⟩
  have hbx := box_there hb1
  have c1 : w1.cell? ⟨w.heap.size, 1, none⟩ = some (.int .i64 x.n) := by rw [Lib.cell_of_heap hbx]; rfl
  have c2 : w1.cell? ⟨w.heap.size, 2, none⟩ = some (.string ⟨x.s.toArray⟩) := by rw [Lib.cell_of_heap hbx]; rfl
  have c3 : w1.cell? ⟨w.heap.size, 3, none⟩ = some v3 := by rw [Lib.cell_of_heap hbx]; rfl
  have c4 : w1.cell? ⟨w.heap.size, 4, none⟩ = some v4 := by rw [Lib.cell_of_heap hbx]; rfl
  have hg1 := hg0.on hb1
  have h3 := h3'.on hb1 (Nat.le_refl _)
  have h4 := h4'.on hb1 (Nat.le_refl _)
  have hb2 := chain hb0 hb1
  clear hbx h3' h4' hb1 hb0 hg0 hg
  go_wp2_with fail
  refine (wTexts_c x.t v4 (small_texts hsz) _ hg1 h4).mono ?_
  rintro e w3 ⟨rfl, hb3⟩
  go_wp2_with fail
  go_ret
  exact ⟨ret_str (congrArg (fun y : List UInt8 => (⟨y.toArray⟩ : ByteArray)) HE.out.symm), chain hb2 hb3⟩

theorem kinds5 (k : Int) : k % 5 = 0 ∨ k % 5 = 1 ∨ k % 5 = 2 ∨ k % 5 = 3 ∨ k % 5 = 4 := by omega
theorem write_c (x : Val) (v3 v4 : Value) (hsz : x.size ≤ 400) (w : World) (hg : Good w) (hx : ValAt w x v3 v4) :
    Calls Tryd.prog 42 #[x.agg v3 v4] w fun e w' => e = .returned (.string ⟨x.enc.toArray⟩) ∧ Below w.heap.size w w' := by
  rcases kinds5 x.k with h | h | h | h | h
  · exact write0_c x v3 v4 h hsz w hg hx
  · exact write1_c x v3 v4 h hsz w hg hx
  · exact write2_c x v3 v4 h hsz w hg hx
  · exact write3_c x v3 v4 h hsz w hg hx
  · exact write4_c x v3 v4 h hsz w hg hx
set_option maxHeartbeats 400000 in
set_option maxRecDepth 100000 in
theorem sameNums_c (l : List (Int)) (u v : Value) (w : World) (hu : RowAt w u (ints l)) (hv : RowAt w v (ints l)) : Calls Tryd.prog 30 #[u, v] w fun e w' => e = .returned (.bool true) ∧ Below w.heap.size w w' := by
  obtain ⟨h0, a, ca, rfl, hca⟩ := hu
  obtain ⟨_, a', cb, rfl, hcb⟩ := hv
  have hlen : (ints l).length = l.length := by simp [ints]
  rw [hlen] at h0 ⊢
  have HA := Lib.hid hca
  have HB := Lib.hid hcb
  clear hca hcb hlen
  go_enter Tryd.func30, Tryd.ntmps30
  go_wp2_with fail
  go_loopw [5] (fun i wr => ∃ k : Nat, k ≤ l.length ∧ i = .int .i64 k ∧ Below w.heap.size w wr) (fun i _ => l.length - (intOf i).toNat)
  case atStart => exact ⟨0, Nat.zero_le _, rfl, Below.refl _ _⟩
  case round =>
    obtain ⟨k, hk, rfl, hbk⟩ := hrel
    by_cases hlt : k < l.length
    · obtain ⟨x, hx⟩ : ∃ x, l[k]? = some x := ⟨l[k], List.getElem?_eq_getElem hlt⟩
      have hne : ints l ≠ [] := by intro h; have := congrArg List.length h; simp [ints] at this; subst this; simp at hlt
      obtain ⟨ba, oa, rfl, hca⟩ := HA.out hne
      obtain ⟨bb, ob, rfl, hcb⟩ := HB.out hne
      have ea := hca k _ (ints_get hx)
      have eb := hcb k _ (ints_get hx)
      have da : wr.cell? ⟨ba, oa + k, none⟩ = some (.int .i64 x) := by rw [hbk.cell (lt_of_cell ea)]; exact ea
      have db : wr.cell? ⟨bb, ob + k, none⟩ = some (.int .i64 x) := by rw [hbk.cell (lt_of_cell eb)]; exact eb
      clear hx hne hca hcb ea eb HA HB
      go_wp2_with fail
      go_quiet (fail)
      go_wp2_with fail
      go_roundw
      case rel => exact ⟨k + 1, by omega, by go_num, hbk.trans (Below.drewN' _ _ _)⟩
      case measure => simp [intOf]; omega
    · go_wp2_with fail
      go_ret
      exact ⟨rfl, hbk⟩

set_option maxHeartbeats 400000 in
set_option maxRecDepth 100000 in
theorem sameTexts_c (l : List (List UInt8)) (u v : Value) (w : World) (hu : RowAt w u (strs l)) (hv : RowAt w v (strs l)) : Calls Tryd.prog 33 #[u, v] w fun e w' => e = .returned (.bool true) ∧ Below w.heap.size w w' := by
  obtain ⟨h0, a, ca, rfl, hca⟩ := hu
  obtain ⟨_, a', cb, rfl, hcb⟩ := hv
  have hlen : (strs l).length = l.length := by simp [strs]
  rw [hlen] at h0 ⊢
  have HA := Lib.hid hca
  have HB := Lib.hid hcb
  clear hca hcb hlen
  go_enter Tryd.func33, Tryd.ntmps33
  go_wp2_with fail
  go_loopw [5] (fun i wr => ∃ k : Nat, k ≤ l.length ∧ i = .int .i64 k ∧ Below w.heap.size w wr) (fun i _ => l.length - (intOf i).toNat)
  case atStart => exact ⟨0, Nat.zero_le _, rfl, Below.refl _ _⟩
  case round =>
    obtain ⟨k, hk, rfl, hbk⟩ := hrel
    by_cases hlt : k < l.length
    · obtain ⟨x, hx⟩ : ∃ x, l[k]? = some x := ⟨l[k], List.getElem?_eq_getElem hlt⟩
      have hne : strs l ≠ [] := by intro h; have := congrArg List.length h; simp [strs] at this; subst this; simp at hlt
      obtain ⟨ba, oa, rfl, hca⟩ := HA.out hne
      obtain ⟨bb, ob, rfl, hcb⟩ := HB.out hne
      have ea := hca k _ (strs_get hx)
      have eb := hcb k _ (strs_get hx)
      have da : wr.cell? ⟨ba, oa + k, none⟩ = some (.string ⟨x.toArray⟩) := by rw [hbk.cell (lt_of_cell ea)]; exact ea
      have db : wr.cell? ⟨bb, ob + k, none⟩ = some (.string ⟨x.toArray⟩) := by rw [hbk.cell (lt_of_cell eb)]; exact eb
      clear hx hne hca hcb ea eb HA HB
      go_wp2_with fail
      go_quiet (fail)
      go_wp2_with fail
      go_roundw
      case rel => exact ⟨k + 1, by omega, by go_num, hbk.trans (Below.drewN' _ _ _)⟩
      case measure => simp [intOf]; omega
    · go_wp2_with fail
      go_ret
      exact ⟨rfl, hbk⟩

end Go.Proofs.YtlfpelmblpdbjaaDoor
