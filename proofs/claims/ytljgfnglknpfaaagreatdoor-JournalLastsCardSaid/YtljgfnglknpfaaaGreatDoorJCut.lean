/-
  journal: Len, Get and All; Cut is what the model says.
-/
import Derived.Test.YtljgfnglknpfaaaGreatDoorJMeth
import Derived.Lib.RowBridge
import Derived.Deep.OwnRows
namespace Go.Proofs.YtljgfnglknpfaaaGreatDoor
set_option maxRecDepth 100000
open Go Go.RowKit Go.Maps Dk

theorem jlen_c {w0 w : World} {d b : Nat} {f : Int} {X : D} {j : Jn.J} {F : Nat → Prop} (h : JF w0 w d b f X j F) : Calls Tryz.prog 17 #[.pointer (some ⟨b, 0, none⟩)] w fun e w' => e = .returned (.int .i64 (j.l.length : Int)) ∧ w' = w := by
  obtain ⟨cb, lv, hJ⟩ := h
  have k3 := hJ.jb.c3
  obtain ⟨la, lc, rfl, _, _, _⟩ := own_shape (own_base hJ.jb.own)
  clear hJ
  go_enter Tryz.func17, Tryz.ntmps17
  go_wp2_with fail
  go_ret
  exact ⟨rfl, rfl⟩
theorem jget_out {w0 w : World} {d b : Nat} {f : Int} {X : D} {j : Jn.J} {F : Nat → Prop} (h : JF w0 w d b f X j F) (i : Int) (hi : i < 0 ∨ (j.l.length : Int) ≤ i) : Calls Tryz.prog 21 #[.pointer (some ⟨b, 0, none⟩), .int .i64 i] w fun e w' => e = .returned (.string ⟨#[]⟩) ∧ w' = w := by
  obtain ⟨cb, lv, hJ⟩ := h
  have k3 := hJ.jb.c3
  obtain ⟨la, lc, rfl, _, _, _⟩ := own_shape (own_base hJ.jb.own)
  clear hJ
  by_cases h0 : i < 0
  · go_enter Tryz.func21, Tryz.ntmps21
    go_wp2_with fail
    go_ret
    exact ⟨rfl, rfl⟩
  · have h1 : (j.l.length : Int) ≤ i := by omega
    have h2 : ¬ i < (j.l.length : Int) := by omega
    go_enter Tryz.func21, Tryz.ntmps21
    go_wp2_with fail
    go_ret
    exact ⟨rfl, rfl⟩
theorem jget_in {w0 w : World} {d b : Nat} {f : Int} {X : D} {j : Jn.J} {F : Nat → Prop} (h : JF w0 w d b f X j F) (k : Nat) (x : List UInt8) (hx : j.l[k]? = some x) : Calls Tryz.prog 21 #[.pointer (some ⟨b, 0, none⟩), .int .i64 (k : Int)] w fun e w' => e = .returned (.string ⟨x.toArray⟩) ∧ w' = w := by
  obtain ⟨cb, lv, hJ⟩ := h
  have k3 := hJ.jb.c3
  have hk := (List.getElem?_eq_some_iff.1 hx).1
  obtain ⟨la, lc, rfl, _, hlc, _⟩ := own_shape (own_base hJ.jb.own)
  obtain ⟨g, rfl, _⟩ := own_at (own_base hJ.jb.own) rfl (by omega)
  have hc := own_cell (own_base hJ.jb.own) rfl k (.string ⟨x.toArray⟩) (by simp only [strsV, List.getElem?_map, hx]; rfl)
  rw [Lib.add_plain, Nat.zero_add] at hc
  have h2 : (k : Int) < (j.l.length : Int) := by omega
  have h3 : ¬ (j.l.length : Int) ≤ (k : Int) := by omega
  clear hJ hx
  go_enter Tryz.func21, Tryz.ntmps21
  go_wp2_with fail
  go_ret
  exact ⟨rfl, rfl⟩

theorem own_raise {w : World} {e : TypeId} {k : Nat} {v : Value} {n : Nat} {xs : List Value} {B : Nat} (h : w.ownsRow 0 e k v n xs) (hB : ∀ g, v.ownBlock = some g → B ≤ g) : w.ownsRow B e k v n xs := by
  refine ⟨h.1, ?_⟩
  rcases h.2 with h1 | ⟨g, cap, cur, h1, _, h3⟩
  · exact Or.inl h1
  · exact Or.inr ⟨g, cap, cur, h1, hB g (by rw [h1]; rfl), h3⟩
theorem own_made_strs (w : World) (n : Nat) (hn : n ≤ maxLen) : (w.alloc (.cells (madeCells #[.string ⟨#[]⟩] n) 9)).ownsRow 0 9 1 (.slice (some ⟨w.heap.size, 0, none⟩) n n) n ((madeCells #[.string ⟨#[]⟩] n).toList.take (n * 1)) :=
  ⟨by simp [size_madeCells], Or.inr ⟨_, n, _, rfl, Nat.zero_le _, heap_alloc_new w _, Nat.le_refl _, hn, by simp [size_madeCells], rfl⟩⟩

set_option maxHeartbeats 1000000 in
theorem jall_c {w0 w : World} {d b : Nat} {f : Int} {X : D} {j : Jn.J} {F : Nat → Prop} (h : JF w0 w d b f X j F) (hl : j.l.length ≤ 4398046511104) : Calls Tryz.prog 16 #[.pointer (some ⟨b, 0, none⟩)] w fun e w' => ∃ v', e = .returned v' ∧ w'.ownsRow w.heap.size 9 1 v' j.l.length (strsV j.l) ∧ RowKit.Below w.heap.size w w' := by
  obtain ⟨cb, lv, hJ⟩ := h
  have k3 := hJ.jb.c3
  have hlt := hJ.jb.lt
  obtain ⟨la, lc, rfl, _, _, h00⟩ := own_shape (own_base hJ.jb.own)
  have hmk : ∀ W : World, (Instr.makeSlice 32 (.int .i64 (j.l.length : Int)) (.int .i64 (j.l.length : Int))).run Tryz.prog W = .ok (.slice (some ⟨W.heap.size, 0, none⟩) j.l.length j.l.length) (W.alloc (.cells (madeCells #[.string ⟨#[]⟩] j.l.length) 9)) := fun W => run_make_row' (P := Tryz.prog) 32 9 (.string ⟨#[]⟩) 16 Tryz.underlying32 infoStr5 rfl .i64 .i64 j.l.length (by omega) (by omega) W
  have hown := own_made_strs w j.l.length (by unfold maxLen; omega)
  have hbm : RowKit.Below w.heap.size w (w.alloc (.cells (madeCells #[.string ⟨#[]⟩] j.l.length) 9)) := (Below.refl _ _).alloc (Nat.le_refl _) _
  have hlown := own_kept (S := fun _ => False) hJ.jb.own (Kept.below hbm) (fun _ _ e => e)
  have k3' : (w.alloc (.cells (madeCells #[.string ⟨#[]⟩] j.l.length) 9)).cell? ⟨b, 3, none⟩ = some (.slice la j.l.length lc) := (Kept.below (S := fun _ => False) hbm).cell k3 (fun e => e)
  obtain ⟨wm, hwm⟩ : ∃ wm, w.alloc (.cells (madeCells #[.string ⟨#[]⟩] j.l.length) 9) = wm := ⟨_, rfl⟩
  have hszm : wm.heap.size = w.heap.size + 1 := by rw [← hwm]; simp
  rw [hwm] at hown hbm hlown k3'
  have hxl : ((madeCells #[Value.string ⟨#[]⟩] j.l.length).toList.take (j.l.length * 1)).length = j.l.length := by simp [size_madeCells]
  obtain ⟨xs, hxs⟩ : ∃ xs, (madeCells #[Value.string ⟨#[]⟩] j.l.length).toList.take (j.l.length * 1) = xs := ⟨_, rfl⟩
  rw [hxs] at hown hxl
  have HW := Lib.hid hown
  have HL := Lib.hid hlown
  have HB := Lib.hid hbm
  have H00 := Lib.hid h00
  have HX := Lib.hid hxl
  have hsz1 : (Tryz.prog.info? 9).map (·.size) = some 1 := by kernel_rfl
  clear hJ hown hlown hbm h00 hxs hxl
  go_enter Tryz.func16, Tryz.ntmps16
  go_wp2_with ((with_reducible show wpList _ _ _ (Oper.mk _ (Op.call { callee := Callee.builtin Builtin.copy, args := _, argTypes := _ }) _ _ _ _ :: _) _ _); refine wpList_copy_into (w := wm) (v := .slice (some ⟨w.heap.size, 0, none⟩) j.l.length j.l.length) (n := j.l.length) (xs := xs) rfl (.tmp 10) (.tmp 14) 32 32 rfl 9 Tryz.underlying32 hsz1 (some ⟨w.heap.size, 0, none⟩) j.l.length j.l.length la j.l.length lc rfl rfl (hown := HW.out) 0 ?q1 ?q2 (strsV j.l) ?q3 ?q4 (strsV_one _) ?_)
  case q1 => omega
  case q2 => intro _; exact ⟨_, rfl, rfl⟩
  case q3 => simp [strsV]
  case q4 =>
    intro h0
    cases la with
    | none =>
      have := (H00.out rfl).1
      simp [strsV] at h0
      omega
    | some ad => exact ⟨ad, rfl, fun k u hu => own_cell (own_base HL.out) rfl k u hu⟩
  intro w' hown' hgr _
  go_wp2_with fail
  go_ret
  refine ⟨_, rfl, own_raise ?_ (fun g e => Nat.le_of_eq (by simpa [Value.ownBlock] using e)), HB.out.grown hgr (by omega) (fun k hk => Nat.le_of_eq (by simpa [Value.ownBlock] using hk))⟩
  have : splice xs 0 (strsV j.l) = strsV j.l := by
    unfold splice
    rw [List.take_zero, List.nil_append, List.drop_eq_nil_of_le (by simp [strsV, HX.out]), List.append_nil]
  rw [this] at hown'
  exact hown'

/-! ### slices.Delete, of an end -/
theorem own_cutoff {w : World} {B g c q : Nat} {l : List (List UInt8)} {k : Nat} (h : w.ownsRow B 9 1 (.slice (some ⟨g, 0, none⟩) l.length c) l.length (strsV l)) (hk : k ≤ l.length) {zs : List (List UInt8)} (hz : zs.length = l.length) (hzk : zs.take k = l.take k) :
    (Sort.putRow encStr (Sort.ahead w q) g 0 zs.toArray).ownsRow B 9 1 (.slice (some ⟨g, 0, none⟩) k c) k (strsV (l.take k)) ∧ w.grownBy (Sort.putRow encStr (Sort.ahead w q) g 0 zs.toArray) (some g) := by
  rcases h.2 with ⟨h1, _⟩ | ⟨g', c', cur, h1, h2, h3, h4, h5, h6, h7⟩
  · cases h1
  · injection h1 with e1 _ e3
    injection e1 with e1
    injection e1 with e1
    subst e1 e3
    have hheap : (Sort.putRow encStr (Sort.ahead w q) g 0 zs.toArray).heap[g]? = some (.cells (Sort.putCells encStr 0 zs.toArray cur) 9 (0, 0)) := by
      simp [Sort.putRow, Sort.mapBlock, Sort.onCells, Array.getElem?_modify, h3]
    refine ⟨⟨by simp [strsV, hk], Or.inr ⟨g, c, _, rfl, h2, hheap, by omega, h5, by simp [Sort.putCells, h6], ?_⟩⟩, ⟨rfl, rfl, rfl, by simp, fun i hi hne => ?_⟩⟩
    · refine List.ext_getElem? fun i => ?_
      by_cases hi : i < k
      · rw [List.getElem?_take_of_lt (by omega)]
        have hzi : i < zs.length := by omega
        have hci : i < cur.size := by omega
        have hel : zs[i]'hzi = l[i]'(by omega) := by
          have e1 : (zs.take k)[i]? = (l.take k)[i]? := by rw [hzk]
          rw [List.getElem?_take_of_lt hi, List.getElem?_take_of_lt hi, List.getElem?_eq_getElem hzi, List.getElem?_eq_getElem (by omega)] at e1
          exact Option.some.inj e1
        simp only [strsV, List.getElem?_map, List.getElem?_take_of_lt hi, Array.getElem?_toList, Sort.putCells, Array.getElem?_mapIdx, Array.getElem?_eq_getElem hci, List.getElem?_eq_getElem (show i < l.length by omega), Option.map_some]
        rw [if_pos ⟨Nat.zero_le _, by simp; omega⟩, Nat.sub_zero, getElem!_pos _ i (by simpa using hzi)]
        simp [hel]
      · rw [List.getElem?_eq_none (by simp; omega), List.getElem?_eq_none (by simp [strsV]; omega)]
    · have hig : i ≠ g := fun e => hne (by rw [e])
      simp [Sort.putRow, Sort.mapBlock, Array.getElem?_modify, Ne.symm hig]
theorem jdelete_c {w : World} {B g c : Nat} {l : List (List UInt8)} {k : Nat} (h : w.ownsRow B 9 1 (.slice (some ⟨g, 0, none⟩) l.length c) l.length (strsV l)) (hk : k ≤ l.length) :
    Calls Tryz.prog 32 #[.slice (some ⟨g, 0, none⟩) l.length c, .int .i64 (k : Int), .int .i64 (l.length : Int)] w fun e w' => e = .returned (.slice (some ⟨g, 0, none⟩) k c) ∧ w'.ownsRow B 9 1 (.slice (some ⟨g, 0, none⟩) k c) k (strsV (l.take k)) ∧ w.grownBy w' (some g) := by
  have hcs : l.length ≤ c ∧ c ≤ maxLen ∧ ∃ cur, w.heap[g]? = some (.cells cur 9 (0, 0)) := by
    rcases h.2 with ⟨h1, _⟩ | ⟨g', c', cur, h1, h2, h3, h4, h5, h6, h7⟩
    · cases h1
    · injection h1 with e1 _ e3
      injection e1 with e1
      injection e1 with e1
      subst e1 e3
      exact ⟨h4, h5, cur, h3⟩
  obtain ⟨hc1, hc2, cur, hcur⟩ := hcs
  have hH : Sort.Holds encStr w g 0 l.toArray := fun i hi => by
    have hi' : i < l.length := by simpa using hi
    refine ⟨?_, Lib.frozen_of_heap hcur _⟩
    have := own_cell (own_base h) rfl i (.string ⟨(l[i]).toArray⟩) (by simp [strsV, List.getElem?_eq_getElem hi'])
    rw [Lib.add_plain] at this
    rw [this, getElem!_pos _ i hi]
    simp
  refine (Tryz.slices_Delete_string g 0 c k l.length l w hH hc1 (by unfold maxLen at hc2; omega) hk (Nat.le_refl _)).mono ?_
  rintro e w' ⟨rfl, q, rfl⟩
  refine ⟨by rw [show l.length - (l.length - k) = k by omega], own_cutoff h hk (by simp; omega) (by simp [hk])⟩

/-! ### Cut -/
theorem cut_steps {X : D} {f : Int} {j : Jn.J} {n : Nat} (hb : j.bad = false) (hn : n < j.l.length) : Jn.cutJ X f j (n : Int) = Jn.noteJ X f j (j.l.take n) := by
  unfold Jn.cutJ
  rw [hb, if_neg (by simp), if_neg (by omega), if_neg (by omega), Int.toNat_natCast]

/-- The list is cut, in its block. -/
theorem jp_delete {w0 w w1 : World} {d b cb : Nat} {f : Int} {X : D} {g lc : Nat} {j : Jn.J} {F : Nat → Prop} {k : Nat} (h : JP w0 w d b cb f (.slice (some ⟨g, 0, none⟩) j.l.length lc) F X j w1) (hk : k ≤ j.l.length) {n : Int} (hn : n = ((Jn.form (j.l.take k)).length : Int)) :
    Calls Tryz.prog 32 #[.slice (some ⟨g, 0, none⟩) j.l.length lc, .int .i64 (k : Int), .int .i64 (j.l.length : Int)] w1 fun e w2 => e = .returned (.slice (some ⟨g, 0, none⟩) k lc) ∧
      (w2.cell? ⟨b, 3, none⟩ = some (.slice (some ⟨g, 0, none⟩) j.l.length lc) ∧ w2.cell? ⟨b, 4, none⟩ = some (.int .i64 ((Jn.form j.l).length : Int)) ∧ w2.frozen? ⟨b, 3, none⟩ = false ∧ w2.frozen? ⟨b, 4, none⟩ = false) ∧
      Hid (JP w0 w d b cb f (.slice (some ⟨g, 0, none⟩) k lc) F X ⟨j.c, j.l.take k, j.bad⟩ ((w2.setCell ⟨b, 3, none⟩ (.slice (some ⟨g, 0, none⟩) k lc)).setCell ⟨b, 4, none⟩ (.int .i64 n))) := by
  refine (jdelete_c h.at'.jb.own hk).mono ?_
  rintro e w2 ⟨rfl, hown, hgr⟩
  have hbk := (Kept.grown (S := fun i => (Value.slice (some ⟨g, 0, none⟩) j.l.length lc).ownBlock = some i) hgr (fun _ e => e)).heap h.at'.jb.blk h.at'.jb.apart
  have hlen : (j.l.take k).length = k := by simp; omega
  rw [← hlen] at hown
  have := grow_after (v' := .slice (some ⟨g, 0, none⟩) (j.l.take k).length lc) h.at' (by rw [hlen] at hown ⊢; exact hown) hgr (Or.inl rfl) hn
  rw [hlen] at this
  exact ⟨rfl, ⟨by rw [Lib.cell_of_heap hbk]; rfl, by rw [Lib.cell_of_heap hbk]; rfl, Lib.frozen_of_heap hbk 3, Lib.frozen_of_heap hbk 4⟩, ⟨this.1, h.kept.trans this.2⟩⟩

set_option maxHeartbeats 2000000 in
theorem jcut_c {w0 w : World} {d b : Nat} {f : Int} {X : D} {j : Jn.J} {F : Nat → Prop} (ht : Tab w0) (hg : Good w0) (h : JF w0 w d b f X j F) (hf : 0 ≤ f ∧ f ≤ 14) (hj : j.bad = false → (Jn.form j.l).length ≤ 1048576) (n : Int) :
    Calls Tryz.prog 13 #[.pointer (some ⟨b, 0, none⟩), .int .i64 n] w fun e w' => e = .returned (.int .i64 (Jn.cutJ X f j n).2.2) ∧ Hid (JF w0 w' d b f (Jn.cutJ X f j n).1 (Jn.cutJ X f j n).2.1 F ∧ Held F w w') := by
  obtain ⟨cb, lv, hJ⟩ := h
  have k5 := hJ.jb.c5
  cases hb : j.bad with
  | true =>
    have hA : Jn.cutJ X f j n = (X, j, 7) := by unfold Jn.cutJ; rw [if_pos hb]
    rw [hb] at k5
    rw [hA]
    have H := Lib.hid hJ
    clear hJ hA hb hj
    go_enter Tryz.func13, Tryz.ntmps13
    go_wp2_with fail
    go_ret
    exact ⟨rfl, ⟨cb, lv, H.out⟩, Held.refl _ _⟩
  | false =>
    have hjl := hj hb
    rw [hb] at k5
    have k3 := hJ.jb.c3
    have k4 := hJ.jb.c4
    have hown := hJ.jb.own
    obtain ⟨la, lc, rfl, hlc0, hlcm, _⟩ := own_shape (own_base hown)
    by_cases h0 : n < 0
    · have hA : Jn.cutJ X f j n = (X, j, 1) := by unfold Jn.cutJ; rw [hb, if_neg (by simp), if_pos (Or.inl h0)]
      rw [hA]
      have H := Lib.hid hJ
      clear hJ hA hb hj hown
      go_enter Tryz.func13, Tryz.ntmps13
      go_wp2_with fail
      go_ret
      exact ⟨rfl, ⟨cb, _, H.out⟩, Held.refl _ _⟩
    · by_cases h1 : (j.l.length : Int) < n
      · have hA : Jn.cutJ X f j n = (X, j, 1) := by unfold Jn.cutJ; rw [hb, if_neg (by simp), if_pos (Or.inr h1)]
        rw [hA]
        have H := Lib.hid hJ
        clear hJ hA hb hj hown
        go_enter Tryz.func13, Tryz.ntmps13
        go_wp2_with fail
        go_ret
        exact ⟨rfl, ⟨cb, _, H.out⟩, Held.refl _ _⟩
      · by_cases h2 : n = (j.l.length : Int)
        · have hA : Jn.cutJ X f j n = (X, j, 0) := by unfold Jn.cutJ; rw [hb, if_neg (by simp), if_neg (by omega), if_pos h2]
          rw [hA]
          have H := Lib.hid hJ
          have h2' : (n == (j.l.length : Int)) = true := by simpa using h2
          clear hJ hA hb hj hown h2
          go_enter Tryz.func13, Tryz.ntmps13
          go_wp2_with fail
          go_ret
          exact ⟨rfl, ⟨cb, _, H.out⟩, Held.refl _ _⟩
        · obtain ⟨k, rfl⟩ : ∃ k : Nat, n = (k : Int) := ⟨n.toNat, by omega⟩
          have hk : k < j.l.length := by omega
          have hA := cut_steps (X := X) (f := f) hb hk
          rw [hA]
          have h2' : ((k : Int) == (j.l.length : Int)) = false := by simpa using h2
          obtain ⟨hn1, hn2⟩ := note_steps (X := X) (f := f) (j := j) (l := j.l.take k)
          have hlen := (Jn.form_len j.l).1
          have hsplit : (Jn.form j.l).length = (Jn.form (j.l.take k)).length + (Jn.form (j.l.drop k)).length := by
            conv => lhs; rw [Jn.form_take j.l k]
            rw [List.length_append]
          have hbx : ∀ x ∈ j.l, x.length ≤ 1000000000 := fun x hx => by have := (Jn.form_len j.l).2 x hx; omega
          obtain ⟨g, rfl, _⟩ := own_at (own_base hown) rfl (by omega)
          have hcells : ∀ i x, (j.l.drop k)[i]? = some x → w.cell? ⟨g, k + i, none⟩ = some (.string ⟨x.toArray⟩) ∧ x.length ≤ 1000000000 := fun i x hx => by
            rw [List.getElem?_drop] at hx
            have := own_cell (own_base hown) rfl (k + i) (.string ⟨x.toArray⟩) (by simp only [strsV, List.getElem?_map, hx]; rfl)
            rw [Lib.add_plain, Nat.zero_add] at this
            exact ⟨this, hbx x (List.mem_of_getElem? hx)⟩
          have qn := fun w1 (z : Int) (hz : z = ((Jn.form (j.l.take k)).length : Int)) (hp : JP w0 w d b cb f (.slice (some ⟨g, 0, none⟩) j.l.length lc) F X j w1) => jnote_c (w := w1) ht hg hp.at' hf z (k : Int) (by unfold Wire.InR; omega) (by unfold Wire.InR; omega)
          have hnote : ∀ z : Int, z = ((Jn.form (j.l.take k)).length : Int) → Wire.eInt z ++ Wire.eInt (k : Int) = Jn.note (j.l.take k) := fun z hz => by
            unfold Jn.note
            rw [hz, List.length_take, Nat.min_eq_left (by omega)]
          have qn' : ∀ w1 (z : Int), z = ((Jn.form (j.l.take k)).length : Int) → JP w0 w d b cb f (.slice (some ⟨g, 0, none⟩) j.l.length lc) F X j w1 → Calls Tryz.prog 30 #[.pointer (some ⟨b, 0, none⟩), .int .i64 z, .int .i64 (k : Int)] w1 fun e w' => e = .returned (.int .i64 (putJ X f j (Jn.note (j.l.take k))).2.2) ∧ Hid (JP w0 w1 d b cb f (.slice (some ⟨g, 0, none⟩) j.l.length lc) F (putJ X f j (Jn.note (j.l.take k))).1 (putJ X f j (Jn.note (j.l.take k))).2.1 w') := fun w1 z hz hp => by
            have := qn w1 z hz hp
            rw [hnote z hz] at this
            exact this
          obtain ⟨Y, hY⟩ : ∃ Y, Y = putJ X f j (Jn.note (j.l.take k)) := ⟨_, rfl⟩
          rw [← hY] at hn1 hn2 qn'
          obtain ⟨Z, j2, r⟩ := Y
          dsimp only at hn1 hn2 qn'
          obtain ⟨T, hT⟩ : ∃ T, T = j.l.drop k := ⟨_, rfl⟩
          have hTl : T.length = j.l.length - k := by rw [hT]; simp
          rw [← hT] at hcells hsplit
          have hNb : j.l.length ≤ 1048576 := by omega
          obtain ⟨L, hL⟩ : ∃ L, L = (Jn.form j.l).length := ⟨_, rfl⟩
          obtain ⟨K, hK⟩ : ∃ K, K = (Jn.form (j.l.take k)).length := ⟨_, rfl⟩
          obtain ⟨N, hN⟩ : ∃ N, N = j.l.length := ⟨_, rfl⟩
          rw [← hL, ← hK] at hsplit
          rw [← hL] at k4 hjl
          rw [← hN] at k3 hlc0 h1 h2' hk hlen hTl hNb
          have QN := Lib.hid qn'
          have HP := Lib.hid hJ.jp
          have HC := Lib.hid hcells
          have HKK := Lib.hid hK
          have HN := Lib.hid hN
          have hk0 : (0 : Int) ≤ (k : Int) := by omega
          have hkN : (k : Int) ≤ (N : Int) := by omega
          have hkc : (k : Int) ≤ (lc : Int) := by omega
          rw [← hN] at QN HP
          have hkl : k < lc := by omega
          have HSP := Lib.hid hsplit
          clear qn qn' hnote hJ hcells hA hb hj hbx hown hT hL hK hY h2 hlen hsplit
          by_cases hr : r = 0
          · subst hr
            obtain ⟨hn3, hn4⟩ := hn2 rfl
            rw [hn3]
            obtain ⟨c2, l2, bd2⟩ := j2
            dsimp only at hn3 hn4 ⊢
            obtain ⟨rfl, rfl⟩ : l2 = j.l ∧ bd2 = false := by injection hn4 with _ h1 h2; exact ⟨h1, h2⟩
            clear hn1 hn2 hn3 hn4 hN
            go_enter Tryz.func13, Tryz.ntmps13
            go_wp2_with fail
            go_loopw [5, 45] (fun v5 v45 wr => ∃ (i M : Nat), i ≤ N - k ∧ v45 = .int .i64 (i : Int) ∧ v5 = .int .i64 (M : Int) ∧ Hid (M + (Jn.form (T.take i)).length = L) ∧ RowKit.Below w.heap.size w wr) (fun _ v45 _ => N - (intOf v45).toNat)
            case atStart => exact ⟨0, L, Nat.zero_le _, rfl, rfl, Lib.hid (by simp [Jn.form]), Below.refl _ _⟩
            case round =>
              obtain ⟨i, M, hi, rfl, rfl, HM, hbw⟩ := hrel
              by_cases hlt : i < N - k
              · obtain ⟨x, hx⟩ : ∃ x, T[i]? = some x := ⟨T[i]'(by omega), List.getElem?_eq_getElem _⟩
                obtain ⟨hc, hxl⟩ := HC.out i x hx
                have hcr : wr.cell? ⟨g, k + i, none⟩ = some (.string ⟨x.toArray⟩) := (Kept.below (S := fun _ => False) hbw).cell hc (fun e => e)
                have hsu : Jn.form (T.take (i + 1)) = Jn.form (T.take i) ++ Wire.eText x := flatMap_take_succ Wire.eText T i x hx
                have hle : (Jn.form (T.take (i + 1))).length ≤ (Jn.form T).length := flatMap_take_le Wire.eText T (i + 1)
                rw [hsu, List.length_append] at hle
                have hM := HM.out
                have hsp := HSP.out
                obtain ⟨E, hE⟩ : ∃ E, E = (Wire.eText x).length := ⟨_, rfl⟩
                have hEM : E ≤ M := by omega
                have hML : M ≤ 1048576 := by omega
                have hltI : (i : Int) < ((N - k : Nat) : Int) := by omega
                have HE := Lib.hid hE
                have HS := Lib.hid (show (M - E) + (Jn.form (T.take (i + 1))).length = L by rw [hsu, List.length_append]; omega)
                have hgr : Good wr := hg.on (HP.out.below hbw).at'.base
                clear hc hx hsu hle hM hsp hE
                go_wp2_with fail
                refine (wText_c x (by omega) _ hgr).mono ?_
                rintro e w4 ⟨rfl, hb4⟩
                have hEl : (Wire.eText x).length = E := HE.out.symm
                have HB4 := Lib.hid hb4
                clear hb4
                go_wp2_with fail
                go_roundw
                case rel => exact ⟨i + 1, M - E, by omega, by go_num, by congr 1; omega, HS, hbw.trans (HB4.out.mono hbw.size)⟩
                case measure => simp [intOf]; omega
              · obtain rfl : i = N - k := by omega
                have hMK : (M : Int) = ((Jn.form (j.l.take k)).length : Int) := by
                  have h1 := HM.out
                  rw [List.take_of_length_le (by omega)] at h1
                  have h2 := HSP.out
                  have h3 := HKK.out
                  omega
                have HMK := Lib.hid hMK
                have HB := Lib.hid hbw
                have hnlt : ¬ ((N - k : Nat) : Int) < ((N - k : Nat) : Int) := by omega
                clear hMK hbw
                go_wp2_with fail
                refine (QN.out _ _ HMK.out (HP.out.below HB.out)).mono ?_
                rintro e w2 ⟨rfl, hp2⟩
                have x3 := hp2.out.c3
                have qd := jp_delete (j := ⟨c2, j.l, false⟩) (lc := lc) (k := k) (w1 := w2.drew) (n := (M : Int)) (by rw [← HN.out]; exact hp2.out.drew) (by rw [← HN.out]; omega) HMK.out
                dsimp only at qd
                rw [← HN.out] at qd
                have QD := Lib.hid qd
                clear qd
                go_upto_region 16 with fail
                go_region_law (go_simp; go_at_call 32; refine QD.out.mono ?_; rintro e w3 ⟨rfl, ⟨y3, y4, z3, z4⟩, hp3⟩)
                all_goals
                  go_wp2_with fail
                  go_ret
                  exact ⟨rfl, ⟨cb, _, hp3.out.at'⟩, (Held.below HB.out).trans hp3.out.kept⟩
          · have hrb : (r != 0) = true := by simpa using hr
            rw [hn1 hr]
            clear hn1 hn2 hr hN
            go_enter Tryz.func13, Tryz.ntmps13
            go_wp2_with fail
            go_loopw [5, 45] (fun v5 v45 wr => ∃ (i M : Nat), i ≤ N - k ∧ v45 = .int .i64 (i : Int) ∧ v5 = .int .i64 (M : Int) ∧ Hid (M + (Jn.form (T.take i)).length = L) ∧ RowKit.Below w.heap.size w wr) (fun _ v45 _ => N - (intOf v45).toNat)
            case atStart => exact ⟨0, L, Nat.zero_le _, rfl, rfl, Lib.hid (by simp [Jn.form]), Below.refl _ _⟩
            case round =>
              obtain ⟨i, M, hi, rfl, rfl, HM, hbw⟩ := hrel
              by_cases hlt : i < N - k
              · obtain ⟨x, hx⟩ : ∃ x, T[i]? = some x := ⟨T[i]'(by omega), List.getElem?_eq_getElem _⟩
                obtain ⟨hc, hxl⟩ := HC.out i x hx
                have hcr : wr.cell? ⟨g, k + i, none⟩ = some (.string ⟨x.toArray⟩) := (Kept.below (S := fun _ => False) hbw).cell hc (fun e => e)
                have hsu : Jn.form (T.take (i + 1)) = Jn.form (T.take i) ++ Wire.eText x := flatMap_take_succ Wire.eText T i x hx
                have hle : (Jn.form (T.take (i + 1))).length ≤ (Jn.form T).length := flatMap_take_le Wire.eText T (i + 1)
                rw [hsu, List.length_append] at hle
                have hM := HM.out
                have hsp := HSP.out
                obtain ⟨E, hE⟩ : ∃ E, E = (Wire.eText x).length := ⟨_, rfl⟩
                have hEM : E ≤ M := by omega
                have hML : M ≤ 1048576 := by omega
                have hltI : (i : Int) < ((N - k : Nat) : Int) := by omega
                have HE := Lib.hid hE
                have HS := Lib.hid (show (M - E) + (Jn.form (T.take (i + 1))).length = L by rw [hsu, List.length_append]; omega)
                have hgr : Good wr := hg.on (HP.out.below hbw).at'.base
                clear hc hx hsu hle hM hsp hE
                go_wp2_with fail
                refine (wText_c x (by omega) _ hgr).mono ?_
                rintro e w4 ⟨rfl, hb4⟩
                have hEl : (Wire.eText x).length = E := HE.out.symm
                have HB4 := Lib.hid hb4
                clear hb4
                go_wp2_with fail
                go_roundw
                case rel => exact ⟨i + 1, M - E, by omega, by go_num, by congr 1; omega, HS, hbw.trans (HB4.out.mono hbw.size)⟩
                case measure => simp [intOf]; omega
              · obtain rfl : i = N - k := by omega
                have hMK : (M : Int) = ((Jn.form (j.l.take k)).length : Int) := by
                  have h1 := HM.out
                  rw [List.take_of_length_le (by omega)] at h1
                  have h2 := HSP.out
                  have h3 := HKK.out
                  omega
                have HMK := Lib.hid hMK
                have HB := Lib.hid hbw
                have hnlt : ¬ ((N - k : Nat) : Int) < ((N - k : Nat) : Int) := by omega
                clear hMK hbw
                go_wp2_with fail
                refine (QN.out _ _ HMK.out (HP.out.below HB.out)).mono ?_
                rintro e w2 ⟨rfl, hp2⟩
                go_wp2_with fail
                go_ret
                exact ⟨rfl, ⟨cb, _, hp2.out.at'⟩, (Held.below HB.out).trans hp2.out.kept⟩
end Go.Proofs.YtljgfnglknpfaaaGreatDoor
