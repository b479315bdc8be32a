/-
  ShowRow of package value: it returns what chapter 3 says, for values whose parts are ints of Go; of what was there nothing has turned.
-/
import Derived.Test.YthibikdnoogfoaaGreatDoorVShow
namespace Go.Proofs.YthibikdnoogfoaaGreatDoor
open Go Go.RowKit Go.Sort Wire Txt Vl

theorem infoStrV : (Tryz.prog.info? 9).map (fun i => (i.zero, i.size, i.bytes)) = some (some (.string ⟨#[]⟩), 1, 16) := by kernel_rfl
/-- The table of the texts: the first k are known. -/
def rowX (l : List V) (k : Nat) : Nat → Value := fun j => .string ⟨(if j < k then showV (l.getD j ⟨0, 0, []⟩) else []).toArray⟩
theorem rowX_set {w : World} {b n : Nat} {l : List V} {k : Nat} {u : V} (h : w.rowIs b 9 n (rowX l k)) (hu : l[k]? = some u) : (w.setCell ⟨b, k, none⟩ (.string ⟨(showV u).toArray⟩)).rowIs b 9 n (rowX l (k + 1)) := by
  refine (h.set k _).congr (fun j _ => ?_)
  unfold rowX
  by_cases hj : j = k
  · subst hj
    rw [if_pos rfl, if_pos (by omega), List.getD_eq_getElem?_getD, hu]
    rfl
  · rw [if_neg hj]
    by_cases hl : j < k
    · rw [if_pos hl, if_pos (by omega)]
    · rw [if_neg hl, if_neg (by omega)]
theorem rowV_below {w w' : World} {b n : Nat} {T : TypeId} {f : Nat → Value} (h : w.rowIs b T n f) (hb : Below w.heap.size w w') : w'.rowIs b T n f := h.of_block (hb.block b h.lt)
theorem join_c (l : List V) (hl : ∀ v ∈ l, InR v.n) (hn : l.length ≤ 1000) (b cap : Nat) (hcap : l.length ≤ cap) (w : World) (h : w.rowIs b 9 l.length (rowX l l.length)) :
    Calls Tryz.prog 44 #[.slice (some ⟨b, 0, none⟩) l.length cap, .string ⟨#[44, 32]⟩] w fun e w' => e = .returned (.string ⟨(body l).toArray⟩) ∧ Below w.heap.size w w' := by
  have hlen : (l.map fun v => (⟨(showV v).toArray⟩ : ByteArray)).length = l.length := by simp
  have hmap : ((l.map fun v => (⟨(showV v).toArray⟩ : ByteArray)).map (·.data.toList)) = l.map showV := by
    rw [List.map_map]
    rfl
  have hbl := body_len l hl
  have key := Tryz.strings_Join b 0 cap (l.map fun v => (⟨(showV v).toArray⟩ : ByteArray)) ⟨#[44, 32]⟩ w (fun j x hx => by
    have hj : j < l.length := by have := (List.getElem?_eq_some_iff.1 hx).1; omega
    rw [Nat.zero_add, h.cell hj]
    unfold rowX
    rw [if_pos hj, List.getD_eq_getElem?_getD]
    rw [List.getElem?_map] at hx
    cases hu : l[j]? with
    | none => rw [hu] at hx; cases hx
    | some u =>
      rw [hu] at hx
      simp only [Option.map_some, Option.some.injEq] at hx
      subst hx
      rfl) h.lt (by rw [hlen]; omega) (by rw [hlen]; exact hcap) (by rw [hmap]; show (body l).length ≤ _; omega)
  rw [hlen, hmap] at key
  exact key

set_option maxHeartbeats 2000000 in
set_option maxRecDepth 100000 in
theorem showRow_c (l : List V) (x : Value) (w : World) (hg : Good w) (hf : ∀ v ∈ l, InR v.n) (hn : l.length ≤ 1000) (hx : RowV w x l) :
    Calls Tryz.prog 14 #[x] w fun e w' => e = .returned (.string ⟨(showR l).toArray⟩) ∧ Below w.heap.size w w' := by
  obtain ⟨la, ax, ca, rfl, hca⟩ := hx
  have hmk : ∀ W : World, (Instr.makeSlice 54 (.int .i64 l.length) (.int .i64 l.length)).run Tryz.prog W = .ok (.slice (some ⟨W.heap.size, 0, none⟩) l.length l.length) (W.alloc (.cells (madeCells #[.string ⟨#[]⟩] l.length) 9)) := fun W => run_make_row' (P := Tryz.prog) 54 9 (.string ⟨#[]⟩) 16 Tryz.underlying54 infoStrV rfl .i64 .i64 l.length (by omega) (by omega) W
  have hrm := World.rowIs_made w (.string ⟨#[]⟩) l.length 9
  have hbm : Below w.heap.size w (w.alloc (.cells (madeCells #[.string ⟨#[]⟩] l.length) 9)) := (Below.refl _ _).alloc (Nat.le_refl _) _
  have hszm : w.heap.size < (w.alloc (.cells (madeCells #[.string ⟨#[]⟩] l.length) 9)).heap.size := by simp
  obtain ⟨wm, hwm⟩ : ∃ wm, w.alloc (.cells (madeCells #[.string ⟨#[]⟩] l.length) 9) = wm := ⟨_, rfl⟩
  rw [hwm] at hrm hbm hszm
  have hr0 : wm.rowIs w.heap.size 9 l.length (rowX l 0) := hrm.congr (fun j _ => by unfold rowX; rw [if_neg (by omega)])
  clear hrm
  have HC := Lib.hid hca
  have HF := Lib.hid hf
  have hbl := body_len l hf
  clear hca hf
  go_enter Tryz.func14, Tryz.ntmps14
  go_wp2_with fail
  go_loopw [11] (fun i wr => ∃ k : Nat, k ≤ l.length ∧ i = .int .i64 k ∧ (l.take k).all rightV = true ∧ wr.rowIs w.heap.size 9 l.length (rowX l k) ∧ Below w.heap.size w wr ∧ w.heap.size < wr.heap.size) (fun i _ => l.length - (intOf i).toNat)
  case atStart => exact ⟨0, Nat.zero_le _, rfl, rfl, hr0, hbm, hszm⟩
  case round =>
    obtain ⟨k, hk, rfl, ht, hrow, hbk, hzk⟩ := hrel
    clear hr0 hbm hszm
    have HT := Lib.hid ht
    clear ht
    by_cases hlt : k < l.length
    · obtain ⟨u, hu⟩ : ∃ u, l[k]? = some u := ⟨l[k], List.getElem?_eq_getElem hlt⟩
      obtain ⟨bx, ox, rfl, hc⟩ := HC.out (ne_of_lt hlt)
      obtain ⟨u0, u1, u2⟩ := (hc k u hu).on hbk (Nat.le_refl _)
      have hun := HF.out u (List.mem_of_getElem? hu)
      have HU := Lib.hid hu
      clear hu hc
      obtain ⟨w3, e3, p0, p1, p2, hb3⟩ := box_out wr u
      have hrow3 := rowV_below hrow hb3
      have hbk3 : Below w.heap.size w w3 := hbk.trans (hb3.mono hbk.size)
      have hz3 : w.heap.size < w3.heap.size := Nat.lt_of_lt_of_le hzk hb3.size
      cases hr : rightV u with
      | false =>
        have HN := Lib.hid (show showR l = [] from showR_no (List.mem_of_getElem? HU.out) hr)
        go_wp2_with fail
        refine (right_c _ _ _ _).mono ?_
        rw [show (⟨u.k, u.n, u.s⟩ : V) = u from rfl, hr]
        rintro e w4 ⟨rfl, hb4⟩
        go_wp2_with fail
        go_ret
        exact ⟨ret_str (by rw [HN.out]), hbk3.trans (hb4.mono hbk3.size)⟩
      | true =>
        go_wp2_with fail
        refine (right_c _ _ _ _).mono ?_
        rw [show (⟨u.k, u.n, u.s⟩ : V) = u from rfl, hr]
        rintro e w4 ⟨rfl, hb4⟩
        have q0 := keep_cell hb4 p0
        have q1 := keep_cell hb4 p1
        have q2 := keep_cell hb4 p2
        have hrow4 := rowV_below hrow3 hb4
        have hbk4 := hbk3.trans (hb4.mono hbk3.size)
        have hz4 := Nat.lt_of_lt_of_le hz3 hb4.size
        have hg4 := hg.on hbk4
        clear p0 p1 p2 hrow3 hb4
        go_wp2_with fail
        refine (show_c u hun _ hg4).mono ?_
        rintro e w5 ⟨rfl, hb5⟩
        have hrow5 := rowV_below hrow4 hb5
        have hbk5 := hbk4.trans (hb5.mono hbk4.size)
        have hz5 := Nat.lt_of_lt_of_le hz4 hb5.size
        have c5 := hrow5.cell hlt
        have f5 := hrow5.frozen k
        clear hb5 hrow4
        go_wp2_with fail
        go_roundw
        case rel => exact ⟨k + 1, by omega, by go_num, all_take_next HT.out HU.out hr, rowX_set hrow5 HU.out, hbk5.setCell (p := ⟨w.heap.size, k, none⟩) (Nat.le_refl _) _, by simpa [World.setCell] using hz5⟩
        case measure => simp [intOf]; omega
    · obtain rfl : k = l.length := by omega
      have HN := Lib.hid (show showR l = 40 :: (body l ++ [41]) by
        have := HT.out
        rw [List.take_length] at this
        exact showR_all (fun v hv => List.all_eq_true.1 this v hv))
      go_wp2_with fail
      refine (join_c l HF.out hn _ _ (Nat.le_refl _) _ hrow).mono ?_
      rintro e w7 ⟨rfl, hb7⟩
      go_wp2_with fail
      go_ret
      exact ⟨ret_str (by rw [HN.out, str_add, str_add]; rfl), hbk.trans (hb7.mono hbk.size)⟩
end Go.Proofs.YthibikdnoogfoaaGreatDoor
