/-
  disk.put: bytes put at an offset into a slice that is owned.
-/
import Derived.Test.YtninopllfbiccaaDoorDHeap
namespace Go.Proofs.YtninopllfbiccaaDoor
set_option maxRecDepth 100000
open Go Go.RowKit Dk

/-- A slice of bytes that is read. -/
def SrcAt (w : World) (sv : Value) (S : List UInt8) : Prop :=
  ∃ a c, sv = .slice a S.length c ∧ S.length ≤ c ∧ (S ≠ [] → ∃ b off, a = some ⟨b, off, none⟩ ∧ ∀ j u, (bytesV S)[j]? = some u → w.cell? ⟨b, off + j, none⟩ = some u)
theorem infoU8 : (Tryd.prog.info? 5).map (fun i => (i.zero, i.size, i.bytes)) = some (some (.int .u8 0), 1, 1) := by kernel_rfl
theorem sizeU8 : (Tryd.prog.info? 5).map (·.size) = some 1 := by kernel_rfl
theorem elemB : Tryd.prog.elem 54 = 5 := by kernel_rfl

set_option maxRecDepth 100000 in
/-- 's[k:]' of a slice of bytes. -/
theorem slice_from (a : Option Addr) (n c k : Nat) (h : k ≤ n) : ∃ A, (∀ wx : World, (Instr.slice 54 (.slice a n c) (some (.int .i64 (k : Int))) none none).run Tryd.prog wx = .ok (.slice A (n - k) (c - k)) wx) ∧ (k < c → A = a.map (·.add k)) ∧ (c = k → A = a) := by
  refine ⟨if c = k then a else a.map (·.add (k * 1)), fun wx => ?_, fun h => by simp [show c ≠ k by omega], fun h => by simp [h]⟩
  have hs := run_slice_l (P := Tryd.prog) wx 54 a n c Tryd.underlying54 .i64 k (by omega) (by omega)
  rw [hs]
  obtain ⟨i0, hi, hz0, hz1, hz2⟩ := info_parts infoU8
  have hz : ((sizeOf (Tryd.prog.elem 54)).run Tryd.prog wx) = .ok 1 wx := by rw [elemB]; simp [sizeOf, typeInfo, hi, hz1]
  rw [hz]
  simp [Result.andThen, sliced]
set_option maxRecDepth 100000 in
/-- 's[l:h]' of a slice of bytes. -/
theorem slice_both (a : Option Addr) (n c l h : Nat) (h1 : l ≤ h) (h2 : h ≤ c) : ∃ A, (∀ wx : World, (Instr.slice 54 (.slice a n c) (some (.int .i64 (l : Int))) (some (.int .i64 (h : Int))) none).run Tryd.prog wx = .ok (.slice A (h - l) (c - l)) wx) ∧ (l < c → A = a.map (·.add l)) := by
  refine ⟨if c = l then a else a.map (·.add (l * 1)), fun wx => ?_, fun h => by simp [show c ≠ l by omega]⟩
  have hs := run_slice_lh (P := Tryd.prog) wx 54 a n c Tryd.underlying54 .i64 .i64 l h (by omega) (by omega) (by omega)
  rw [hs]
  obtain ⟨i0, hi, hz0, hz1, hz2⟩ := info_parts infoU8
  have hz : ((sizeOf (Tryd.prog.elem 54)).run Tryd.prog wx) = .ok 1 wx := by rw [elemB]; simp [sizeOf, typeInfo, hi, hz1]
  rw [hz]
  simp [Result.andThen, sliced]
set_option maxRecDepth 100000 in
/-- 's[:h]' of a slice of bytes. -/
theorem slice_to (a : Option Addr) (n c h : Nat) (h2 : h ≤ c) (wx : World) : (Instr.slice 54 (.slice a n c) none (some (.int .i64 (h : Int))) none).run Tryd.prog wx = .ok (.slice a h c) wx := by
  have hs := run_slice_h (P := Tryd.prog) wx 54 a n c Tryd.underlying54 .i64 h (by omega) (by omega)
  rw [hs]
  obtain ⟨i0, hi, hz0, hz1, hz2⟩ := info_parts infoU8
  have hz : ((sizeOf (Tryd.prog.elem 54)).run Tryd.prog wx) = .ok 1 wx := by rw [elemB]; simp [sizeOf, typeInfo, hi, hz1]
  rw [hz]
  cases a <;> simp [Result.andThen, sliced, Addr.add]

theorem splice_put (B S : List UInt8) (at' m : Nat) (hm : m = Nat.min S.length (B.length + (at' - B.length) - at')) :
    splice (B ++ List.replicate (at' - B.length) 0) at' (S.take m) ++ S.drop m = put B at' S := by
  have hm' : m = min S.length (B.length + (at' - B.length) - at') := hm
  refine bt_ext ?_ fun i hi => ?_
  · rw [List.length_append, length_splice _ _ _ (by simp; omega), put_length]
    simp; omega
  · have hl : (splice (B ++ List.replicate (at' - B.length) 0) at' (S.take m)).length = B.length + (at' - B.length) := by rw [length_splice _ _ _ (by simp; omega)]; simp
    rw [bt_append, hl, put_bt]
    have ht : (List.take at' (B ++ List.replicate (at' - B.length) 0)).length = at' := by simp; omega
    have htm : (S.take m).length = m := by simp; omega
    have hb : ∀ j, bt (B ++ List.replicate (at' - B.length) 0) j = bt B j := fun j => by
      rw [bt_append, bt_replicate]
      split
      · rfl
      · exact (bt_ge (by omega)).symm
    unfold splice
    rw [bt_append, ht, bt_append, htm, bt_take, bt_take, bt_drop, bt_drop, hb, hb]
    by_cases h1 : i < at'
    · rw [if_pos (by omega), if_pos h1, if_pos h1, if_neg (by omega)]
    · rw [if_neg h1]
      by_cases h2 : i - at' < m
      · rw [if_pos (by omega), if_pos h2, if_pos h2, if_pos (by omega)]
      · rw [if_neg h2]
        by_cases h3 : i < B.length + (at' - B.length)
        · rw [if_pos h3, if_neg (by omega)]
          congr 1; omega
        · rw [if_neg h3]
          by_cases h4 : i < at' + S.length
          · rw [if_pos (by omega)]
            congr 1; omega
          · rw [if_neg (by omega), bt_ge (by omega), bt_ge (by omega)]

theorem put_c (B S : List UInt8) (v sv : Value) (at' : Nat) (w : World) (hv : w.ownsRow 0 5 1 v B.length (bytesV B)) (hs : SrcAt w sv S) (hap : ∀ b off c, sv = .slice (some ⟨b, off, none⟩) S.length c → v.ownBlock ≠ some b)
    (hB : B.length ≤ 16777216) (hS : at' + S.length ≤ 16777216) :
    Calls Tryd.prog 59 #[v, .int .i64 at', sv] w fun e w' => ∃ v', e = .returned v' ∧ w'.ownsRow 0 5 1 v' (put B at' S).length (bytesV (put B at' S)) ∧ w.grownBy w' v.ownBlock ∧ (v'.ownBlock = v.ownBlock ∨ ∃ k, v'.ownBlock = some k ∧ w.heap.size ≤ k) := by
  obtain ⟨i0, hi, hz0, hz1, hz2⟩ := info_parts infoU8
  obtain ⟨va, vc, rfl, hvc, _, hvn⟩ := own_shape hv
  obtain ⟨sa, sc, rfl, hsc, hsr⟩ := hs
  obtain ⟨k, hk⟩ : ∃ k, k = at' - B.length := ⟨_, rfl⟩
  obtain ⟨v1, w1, hr, hown1, hgr1, hbl1⟩ := run_append_zeros_own (P := Tryd.prog) w 0 54 3 54 5 i0 (.int .u8 0) 1 .i64 .i64 Tryd.underlying54 Tryd.underlying3 hi hz0 hz1 hz2 rfl rfl _ _ _ hv k (by omega) (by omega) (Nat.zero_le _)
  rw [← bytesV_zero, ← bytesV_app] at hown1
  obtain ⟨n1, hn1⟩ : ∃ n1, n1 = B.length + k := ⟨_, rfl⟩
  rw [← hn1] at hown1
  obtain ⟨a1, c1, rfl, hc1, _, hno1⟩ := own_shape hown1
  obtain ⟨A, hA, hA1, hA2⟩ := slice_from a1 n1 c1 at' (by omega)
  obtain ⟨m, hm⟩ : ∃ m, m = Nat.min S.length (n1 - at') := ⟨_, rfl⟩
  have hm' : m = min S.length (n1 - at') := hm
  obtain ⟨A2, hS1, hS2, hS3⟩ := slice_from sa S.length sc m (by omega)
  have hmax : (if (at' : Int) - (B.length : Int) < 0 then (0 : Int) else (at' : Int) - (B.length : Int)) = (k : Int) := by split <;> omega
  have HV := Lib.hid hv
  have HAP := Lib.hid hap
  have HSR := Lib.hid hsr
  have HVN := Lib.hid hvn
  have HO1 := Lib.hid hown1
  have HG1 := Lib.hid hgr1
  have HB1 := Lib.hid hbl1
  have HN1 := Lib.hid hno1
  have HR := Lib.hid hr
  have HK := Lib.hid hk
  have HN := Lib.hid hn1
  have HM := Lib.hid hm
  have HM' := Lib.hid hm'
  have HA1 := Lib.hid hA1
  have HA2 := Lib.hid hA2
  have HS2 := Lib.hid hS2
  have HS3 := Lib.hid hS3
  clear hv hap hsr hvn hown1 hgr1 hbl1 hno1 hr hk hn1 hm hm' hA1 hA2 hS2 hS3
  go_enter Tryd.func59, Tryd.ntmps59
  go_wp2_with (first
    | (at_builtin; refine Lib.wpList_append_run _ rfl _ _ _ _ rfl _ _ rfl rfl (.slice a1 n1 c1) w1 HR.out ?_)
    | ((with_reducible show wpList _ _ _ (Oper.mk _ (Op.call { callee := Callee.builtin Builtin.copy, args := _, argTypes := _ }) _ _ _ _ :: _) _ _); refine wpList_copy_into (w := w1) (v := .slice a1 n1 c1) (n := n1) (xs := bytesV (B ++ List.replicate k 0)) rfl (.tmp 17) (.tmp 18) 54 54 rfl 5 Tryd.underlying54 sizeU8 A (n1 - at') (c1 - at') sa S.length sc rfl rfl (hown := HO1.out) at' ?q1 ?q2 (bytesV (S.take m)) ?q3 ?q4 (bytesV_one _) ?_))
  case q1 => have := HK.out; have := HN.out; omega
  case q2 =>
    intro h0
    obtain ⟨g, rfl, hg⟩ := own_at HO1.out rfl (by omega)
    exact ⟨g, hg, by rw [HA1.out (by omega)]; simp [Addr.add_lit]⟩
  case q3 => rw [bytesV_length, List.length_take]; have := HM'.out; show min m S.length = min S.length (n1 - at'); omega
  case q4 =>
    intro h0
    rw [bytesV_length, List.length_take] at h0
    obtain ⟨b, off, rfl, hc⟩ := HSR.out (by intro e; rw [e] at h0; simp at h0)
    refine ⟨_, rfl, fun j u hu => ?_⟩
    rw [bytesV_take, List.getElem?_take] at hu
    split at hu
    · have := hc j u hu
      rw [Lib.add_plain]
      exact HG1.out.cell this (HAP.out b off sc rfl).symm
    · cases hu
  have hml : ((bytesV (S.take m)).length : Int) = (m : Int) := by
    have := HM'.out
    rw [bytesV_length, List.length_take]
    omega
  have HML := Lib.hid hml
  clear hml
  intro w2 hown2 hgr2 hsz2
  have HO2 := Lib.hid hown2
  have HG2 := Lib.hid hgr2
  have HZ2 := Lib.hid hsz2
  clear hown2 hgr2 hsz2
  rw [HML.out]
  obtain ⟨v3, w3, hr3, hown3, hgr3, hbl3⟩ := run_append_any_own (P := Tryd.prog) w2 0 54 54 5 i0 (.int .u8 0) 1 1 Tryd.underlying54 hi hz0 hz1 hz2 rfl (by decide) _ _ _ HO2.out A2 (S.length - m) (sc - m) (bytesV (S.drop m)) (by rw [bytesV_length, List.length_drop]; omega) (by
    intro h0
    obtain ⟨b, off, e, hc⟩ := HSR.out (by intro e; rw [e] at h0; simp at h0)
    have hA := HS2.out (by omega)
    rw [e] at hA
    refine ⟨_, hA, fun j u hu => ?_⟩
    rw [bytesV_drop, List.getElem?_drop] at hu
    have h1 := hc _ u hu
    have h2 := HG1.out.cell h1 (HAP.out b off sc (by rw [e])).symm
    show w2.cell? (((⟨b, off, none⟩ : Addr).add m).add j) = some u
    rw [Lib.add_plain, Lib.add_plain, Nat.add_assoc]
    refine HG2.out.cell h2 ?_
    intro e3
    rcases HB1.out with e4 | e4
    · rw [e4] at e3; exact HAP.out b off sc (by rw [e]) e3.symm
    · rw [e4] at e3
      have e5 : b = w.heap.size := by simpa using e3
      have := World.block_lt_of_cell? w _ h1
      simp at this
      omega) (bytesV_one _) (by have := HM'.out; have := HN.out; have := HK.out; unfold maxLen; omega) (by have := HM'.out; have := HN.out; have := HK.out; omega) (Nat.zero_le _)
  have HR3 := Lib.hid hr3
  have HO3 := Lib.hid hown3
  have HG3 := Lib.hid hgr3
  have HB3 := Lib.hid hbl3
  clear hr3 hown3 hgr3 hbl3
  go_wp2_with (at_builtin; refine Lib.wpList_append_run _ rfl _ _ _ _ rfl _ _ rfl rfl v3 w3 HR3.out ?_)
  go_ret
  have hn' : (put B at' S).length = n1 + (S.length - m) := by
    have := HM'.out; have := HN.out; have := HK.out
    rw [put_length]; omega
  have hb' : bytesV (put B at' S) = splice (bytesV (B ++ List.replicate k 0)) at' (bytesV (S.take m)) ++ bytesV (S.drop m) := by
    rw [← splice_put B S at' m (by rw [HM.out, HN.out, HK.out]), ← HK.out]
    simp [splice, bytesV, List.map_take, List.map_drop]
  refine ⟨v3, rfl, by rw [hn', hb']; exact HO3.out, ?_, ?_⟩
  · refine ⟨HG3.out.os.trans (HG2.out.os.trans HG1.out.os), HG3.out.tape.trans (HG2.out.tape.trans HG1.out.tape), HG3.out.output.trans (HG2.out.output.trans HG1.out.output), Nat.le_trans HG1.out.size (Nat.le_trans HG2.out.size HG3.out.size), fun i hi hne => ?_⟩
    have hi1 : i < w1.heap.size := Nat.lt_of_lt_of_le hi HG1.out.size
    have hi2 : i < w2.heap.size := Nat.lt_of_lt_of_le hi1 HG2.out.size
    have hne1 : some i ≠ (Value.slice a1 n1 c1).ownBlock := by
      rcases HB1.out with e | e
      · rw [e]; exact hne
      · rw [e]; intro e'; injection e' with e'; omega
    rw [HG3.out.block i hi2 hne1, HG2.out.block i hi1 hne1, HG1.out.block i hi hne]
  · have hsz1 := HG1.out.size
    have hsz2 := HZ2.out
    rcases HB3.out with e | e
    · rw [e]
      rcases HB1.out with e1 | e1
      · exact Or.inl e1
      · exact Or.inr ⟨_, e1, Nat.le_refl _⟩
    · exact Or.inr ⟨_, e, by omega⟩
end Go.Proofs.YtninopllfbiccaaDoor
