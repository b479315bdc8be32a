/-
  disk.write: a write, whatever is scheduled.
  disk's methods Write, Sync, Truncate.
  disk's methods Sync and Truncate.
-/
import Derived.Test.YtljgfnglknpfaaaGreatDoorDRead
import Derived.Lib.ConvBytes
import Derived.Lib.AtoiErrMem
namespace Go.Proofs.YtljgfnglknpfaaaGreatDoor
set_option maxRecDepth 100000
open Go Go.RowKit Go.Maps Dk

theorem upd_id (g : Nat → F) (i : Nat) : upd g i (g i) = g := by
  funext j
  unfold upd
  split
  · next e => rw [e]
  · rfl
theorem secsV_app (a b : List (Nat × Nat)) : secsV (a ++ b) = secsV a ++ secsV b := by simp [secsV]
theorem conv_str (s : List UInt8) (w : World) : (convert 9 47 (.string ⟨s.toArray⟩)).run Tryz.prog w = .ok (.slice (some ⟨w.heap.size, 0, none⟩) s.length (grownCap w s.length 0 5)) (Lib.bytesWorld w 5 ⟨s.toArray⟩) := by
  have h := Lib.run_convert_string_bytes (P := Tryz.prog) w 9 47 5 ⟨s.toArray⟩ Tryz.underlying9 Tryz.underlying47 Tryz.underlying5
  have e : (⟨s.toArray⟩ : ByteArray).size = s.length := by show s.toArray.size = _; simp
  rw [e] at h
  exact h
theorem conv_srcAt (s : List UInt8) (w : World) : SrcAt (Lib.bytesWorld w 5 ⟨s.toArray⟩) (.slice (some ⟨w.heap.size, 0, none⟩) s.length (grownCap w s.length 0 5)) s := by
  refine ⟨_, _, rfl, grownCap_ge w s.length 0 _, fun _ => ⟨w.heap.size, 0, rfl, fun j u hu => ?_⟩⟩
  have hj : j < s.length := by have := (List.getElem?_eq_some_iff.1 hu).1; rwa [bytesV_length] at this
  have h := Lib.bytesWorld_cell w 5 ⟨s.toArray⟩ j (by show j < s.toArray.size; simpa using hj)
  rw [Nat.zero_add, h]
  rw [bytesV_get hj] at hu
  rw [← hu]
  simp [bt]

set_option maxRecDepth 100000 in
theorem dput_bad (d : Nat) (S : Nat → Prop) (X : D) (f at' : Int) (s : List UInt8) (hf : -9223372036854775808 ≤ f ∧ f ≤ 9223372036854775807) (ha : -9223372036854775808 ≤ at' ∧ at' ≤ 9223372036854775807) (hs : s.length ≤ 9223372036854775807) (w : World) (h : DiskIn w d S X)
    (hbad : ¬ (ok f = true ∧ 0 ≤ at' ∧ at' + s.length ≤ 16777216)) :
    Calls Tryz.prog 59 #[.pointer (some ⟨d, 0, none⟩), .int .i64 f, .int .i64 at', .string ⟨s.toArray⟩] w fun e w' => e = .returned (.int .i64 (X.put f at' s).2) ∧ (X.put f at' s).1 = X ∧ w' = w := by
  obtain ⟨bm, blk, own, qv, kv, h, _⟩ := h
  have k0 := h.c0
  have hl := h.files.look2 f hf
  cases ho : ok f with
  | false =>
    rw [ho] at hl
    simp only [Bool.false_eq_true, if_false] at hl
    have e : X.put f at' s = (X, 1) := by unfold D.put; rw [ho]; rfl
    rw [e]
    clear h e ho hbad
    go_enter Tryz.func59, Tryz.ntmps59
    go_wp2_with fail
    go_ret
    first | exact ⟨rfl, rfl, rfl⟩ | simp
  | true =>
    rw [ho] at hl
    simp only [if_true] at hl
    by_cases h1 : at' < 0
    · have e : X.put f at' s = (X, 1) := by
        unfold D.put
        have : decide (0 ≤ at') = false := by simp; omega
        rw [ho, this]; rfl
      rw [e]
      clear h e ho hbad
      go_enter Tryz.func59, Tryz.ntmps59
      go_wp2_with fail
      go_ret
      first | exact ⟨rfl, rfl, rfl⟩ | simp
    · have h2 : ¬ (at' + s.length ≤ 16777216) := fun hh => hbad ⟨ho, by omega, hh⟩
      have e : X.put f at' s = (X, 6) := by
        unfold D.put
        have : decide (0 ≤ at') = true := by simp; omega
        rw [ho, this, if_pos (by rfl), if_neg h2]
      rw [e]
      have h3 : ¬ at' ≤ 16777216 - (s.length : Int) := by omega
      have h4 : 16777216 - (s.length : Int) < at' := by omega
      clear h e ho hbad
      go_enter Tryz.func59, Tryz.ntmps59
      go_wp2_with fail
      go_ret
      first | exact ⟨rfl, rfl, rfl⟩ | simp

set_option maxHeartbeats 1000000 in
set_option maxRecDepth 100000 in
theorem dput_none (d : Nat) (S : Nat → Prop) (X : D) (f at' : Nat) (w : World) (h : DiskIn w d S X) (hf : f < 16) (ha : at' ≤ 16777216) :
    Calls Tryz.prog 59 #[.pointer (some ⟨d, 0, none⟩), .int .i64 f, .int .i64 at', .string ⟨#[]⟩] w fun e w' => e = .returned (.int .i64 0) ∧ DiskIn w' d (After S w) X ∧ Kept S w w' := by
  obtain ⟨W1, hW1⟩ : ∃ W1, W1 = Lib.bytesWorld w 5 ⟨(#[] : Array UInt8)⟩ := ⟨_, rfl⟩
  have hcv := conv_str [] w
  rw [show ([] : List UInt8).toArray = #[] from rfl, ← hW1] at hcv
  have hbw : Below w.heap.size w W1 := by rw [hW1]; exact Lib.bytesWorld_below w _ _
  have hI := h.kept (Kept.below (S := fun _ => False) hbw) (fun _ _ e => e)
  obtain ⟨bm, blk, own, qv, kv, h, hS⟩ := h
  have h1 := h.kept (Kept.below (S := fun _ => False) hbw) (fun _ _ e => e)
  have k0 := h.c0
  have hl := h.files.look2 (f : Int) (by omega)
  have ho : ok (f : Int) = true := by simp [ok]; omega
  rw [ho] at hl
  simp only [if_true, Int.toNat_natCast] at hl
  obtain ⟨nv, dv, mb, hFA, hFS⟩ := h1.file f hf
  have q := fwrite_none (blk f) nv dv mb (X.file f) at' (some ⟨w.heap.size, 0, none⟩) (grownCap w ([] : List UInt8).length 0 5) W1 hFA
  have Q := Lib.hid q
  have HI := Lib.hid hI
  have HB := Lib.hid hbw
  have hab : ¬ (16777216 < (at' : Int)) := by omega
  simp only [List.length_nil] at hcv Q
  obtain ⟨cc, hcc⟩ : ∃ cc, cc = grownCap w 0 0 5 := ⟨_, rfl⟩
  rw [← hcc] at hcv Q
  clear h h1 hbw hI hFA hFS q hW1 ho hcc
  go_enter Tryz.func59, Tryz.ntmps59
  go_wp2_with (go_at_call 69; refine Q.out.mono ?_; rintro e w2 ⟨rfl, rfl⟩)
  go_loopw [41] (fun v41 wr => v41 = .int .i64 0 ∧ wr = w2) (fun _ _ => 0)
  case atStart => exact ⟨rfl, rfl⟩
  case round =>
    obtain ⟨rfl, rfl⟩ := hrel
    go_wp2_with fail
    go_ret
    exact ⟨rfl, HI.out.mono (fun k _ e => Or.inl e), Kept.below HB.out⟩

theorem added_lt {f : F} {at' : Nat} {s : List UInt8} (hs : s ≠ []) (h : at' + s.length ≤ 16777216) : (f.added at' s).length ≤ 262145 := by
  unfold F.added
  rw [if_neg hs]
  have h1 := List.length_filter_le (fun n => !f.pend n) (secs at' s.length)
  have h2 : (secs at' s.length).length ≤ 262145 := by unfold secs; rw [List.length_range']; omega
  omega
theorem queue_len {X : D} (h : X.Inv) : X.queue.length ≤ 4194304 := by
  have h1 := len_le_of_nodup 4194304 (X.queue.map fun p => p.1 * 262144 + p.2) (by
    refine List.Pairwise.map (R := fun p q => p ≠ q ∧ p ∈ X.queue ∧ q ∈ X.queue) _ ?_ ?_
    · rintro ⟨a, b⟩ ⟨a', b'⟩ ⟨hne, h1, h2⟩ e
      have g1 := (h.queue a b).1 h1
      have g2 := (h.queue a' b').1 h2
      have i1 := (h.file a g1.1).inside b g1.2
      have i2 := (h.file a' g2.1).inside b' g2.2
      have s1 := (h.file a g1.1).small
      have s2 := (h.file a' g2.1).small
      have e' : a * 262144 + b = a' * 262144 + b' := e
      have e1 : a = a' := by omega
      subst e1
      exact hne (by rw [show b = b' by omega])
    · exact List.Pairwise.imp_of_mem (fun {a b} ha hb h => ⟨h, ha, hb⟩) h.nodup) (fun x hx => by
    obtain ⟨⟨a, b⟩, hp, rfl⟩ := List.mem_map.1 hx
    have g1 := (h.queue a b).1 hp
    have i1 := (h.file a g1.1).inside b g1.2
    have s1 := (h.file a g1.1).small
    show a * 262144 + b < 4194304
    omega)
  simpa using h1

set_option maxHeartbeats 2000000 in
set_option maxRecDepth 100000 in
theorem dput_some (d : Nat) (S : Nat → Prop) (X : D) (f at' : Nat) (s : List UInt8) (w : World) (h : DiskIn w d S X) (hf : f < 16) (hs : s ≠ []) (ha : at' + s.length ≤ 16777216) :
    Calls Tryz.prog 59 #[.pointer (some ⟨d, 0, none⟩), .int .i64 f, .int .i64 at', .string ⟨s.toArray⟩] w fun e w' => e = .returned (.int .i64 0) ∧
      DiskIn w' d (After S w) { X with file := upd X.file f ((X.file f).write at' s), queue := X.queue ++ ((X.file f).added at' s).map fun n => (f, n) } ∧ Kept S w w' := by
  obtain ⟨W1, hW1⟩ : ∃ W1, W1 = Lib.bytesWorld w 5 ⟨s.toArray⟩ := ⟨_, rfl⟩
  obtain ⟨cc, hcc⟩ : ∃ cc, cc = grownCap w s.length 0 5 := ⟨_, rfl⟩
  have hcv := conv_str s w
  have hsrc := conv_srcAt s w
  rw [← hW1, ← hcc] at hcv
  rw [← hW1, ← hcc] at hsrc
  have hbw : Below w.heap.size w W1 := by rw [hW1]; exact Lib.bytesWorld_below w _ _
  obtain ⟨bm, blk, own, qv, kv, h, hS⟩ := h
  have hk1 : Kept (fun _ => False) w W1 := Kept.below hbw
  have h1 := h.kept hk1 (fun _ _ e => e)
  have k0 := h.c0
  have hl := h.files.look2 (f : Int) (by omega)
  have ho : ok (f : Int) = true := by simp [ok]; omega
  rw [ho] at hl
  simp only [if_true, Int.toNat_natCast] at hl
  obtain ⟨nv, dv, mb, hFA, hFS⟩ := h1.file f hf
  obtain ⟨l, hl0⟩ : ∃ l, l = (X.file f).added at' s := ⟨_, rfl⟩
  have hln : l.length ≤ 262145 := by rw [hl0]; exact added_lt hs ha
  have q := (fwrite_some (blk f) nv dv mb (X.file f) at' s _ W1 hFA (h.inv.file f hf).toOk hsrc hs ha (fun b off c e e' => by
    injection e with e
    injection e with e
    injection e with e1 _
    have := h.ownLt f hf b (hFS b (Or.inr (Or.inr (Or.inl e'))))
    omega)).mono (R' := fun e w2 => ∃ a' c', e = .returned (.slice a' l.length c') ∧
      Hid (w2.ownsRow 0 3 1 (.slice a' l.length c') l.length (natsV l) ∧ FilesIn w2 blk (ownUp own f W1.heap.size w2.heap.size) (upd X.file f ((X.file f).write at' s)) ∧ Kept (own f) W1 w2 ∧
        (∀ k, (Value.slice a' l.length c').ownBlock = some k → W1.heap.size ≤ k ∧ ∀ i, i < 16 → True))) (by
    rintro e w2 ⟨av, nv', rfl, ho, hF, hk, hb, hav⟩
    rw [← hl0] at ho
    obtain ⟨a', c', rfl, _⟩ := own_shape ho
    have hst := h1.filesIn.step hf hk hFS (f := (X.file f).write at' s) ⟨nv', dv, mb, hF, fun x hin => by
      rcases hin with hx | hx | hx | hx
      · exact Or.inl (hFS x (Or.inl hx))
      · exact Or.inl (hFS x (Or.inr (Or.inl hx)))
      · rcases hb with hb | ⟨y, hb, hy⟩
        · exact Or.inl (hFS x (Or.inr (Or.inr (Or.inl (by rw [← hb]; exact hx)))))
        · rw [hb] at hx
          injection hx with hx
          exact Or.inr (by rw [← hx]; exact hy)
      · exact Or.inl (hFS x (Or.inr (Or.inr (Or.inr hx))))⟩
    exact ⟨a', c', rfl, ho, hst, hk.mono (fun k _ e => hFS k e), fun k e => ⟨(hav k e).1, fun _ _ => trivial⟩⟩)
  have H := Lib.hid h
  have HS := Lib.hid hS
  have HK1 := Lib.hid hk1
  have HL := Lib.hid hl0
  have Q := Lib.hid q
  have hab : ¬ (16777216 - (s.length : Int) < (at' : Int)) := by omega
  have hslen : s.length ≤ 16777216 := by omega
  clear h h1 hbw hFA hFS q hW1 ho hcc hsrc hk1 hl0 hS
  go_enter Tryz.func59, Tryz.ntmps59
  go_wp2_with (go_at_call 69; refine Q.out.mono ?_; rintro e w2 ⟨a', c', rfl, HP⟩)
  obtain ⟨hav, hFI, hKf, hab'⟩ := HP.out
  have hk2 : Kept (own f) w w2 := (HK1.out.mono (S' := own f) (fun _ _ e => e.elim)).trans hKf (fun _ _ e => e)
  have HAV := Lib.hid hav
  have HFI := Lib.hid hFI
  have HK2 := Lib.hid hk2
  have HAB := Lib.hid hab'
  have hs1 := HK1.out.size
  have hs2 := hKf.size
  clear hav hFI hKf hk2 hab'
  go_loopw [41] (fun v41 wr => ∃ (k : Nat) (qv' : Value), k ≤ l.length ∧ v41 = .int .i64 (k : Int) ∧ wr.heap[d]? = some (.cells #[.map (some bm), qv', .bool X.down, .int .i64 (X.lost : Int), .int .i64 (X.left : Int), kv] 53 (0, 0)) ∧
      wr.ownsRow 0 75 2 qv' (X.queue ++ (l.take k).map fun n => (f, n)).length (secsV (X.queue ++ (l.take k).map fun n => (f, n))) ∧ (qv'.ownBlock = qv.ownBlock ∨ ∃ x, qv'.ownBlock = some x ∧ w2.heap.size ≤ x) ∧ Kept (fun k => k = d ∨ qv.ownBlock = some k) w2 wr) (fun v41 _ => l.length - (intOf v41).toNat)
  case atStart =>
    refine ⟨0, qv, Nat.zero_le _, rfl, HK2.out.heap H.out.cell (fun e => (H.out.ownNe f hf d e).1 rfl), ?_, Or.inl rfl, Kept.refl _ _⟩
    simp only [List.take_zero, List.map_nil, List.append_nil]
    exact own_kept H.out.queue HK2.out (fun k e ho => (H.out.ownNe f hf k ho).2.2.1 e)
  case round =>
    obtain ⟨k, qv', hk, rfl, hd, hq, hqb, hK⟩ := hrel
    have HD := Lib.hid hd
    have HQ := Lib.hid hq
    have HQB := Lib.hid hqb
    have HK := Lib.hid hK
    by_cases hkl : k < l.length
    · have hkl' : (k : Int) < (l.length : Int) := by omega
      obtain ⟨n, hn⟩ : ∃ n, l[k]? = some n := ⟨l[k], List.getElem?_eq_getElem hkl⟩
      obtain ⟨i0, hi0, hz0, hz1, hz2⟩ := info_parts infoSec
      obtain ⟨b1, b2, b3, b4, b5, b6⟩ := H.out.apart
      have hdw : d < w.heap.size := H.out.lt (Or.inl rfl)
      have hav := own_kept HAV.out hK (fun x e e' => by
        have := (HAB.out x e).1
        rcases e' with e' | e'
        · omega
        · have := own_lt H.out.queue e'; omega)
      obtain ⟨ga, hga, hgb⟩ := own_at2 hav rfl (by omega)
      subst hga
      have cn : wr.cell? ⟨ga, k, none⟩ = some (.int .i64 (n : Int)) := by
        have := own_cell_size hav rfl k (.int .i64 (n : Int)) (by simp [natsV, hn])
        rw [Lib.add_plain, Nat.zero_add] at this
        exact this
      have hqlen : (X.queue ++ (l.take k).map fun n => (f, n)).length ≤ 4456449 := by
        have := queue_len H.out.inv
        simp; omega
      obtain ⟨qa, qc, rfl, _⟩ := own_shape hq
      have c1 : wr.cell? ⟨d, 1, none⟩ = some (.slice qa (X.queue ++ (l.take k).map fun n => (f, n)).length qc) := by rw [Lib.cell_of_heap hd]; rfl
      obtain ⟨QL, hQL⟩ : ∃ QL, QL = (X.queue ++ (l.take k).map fun n => (f, n)).length := ⟨_, rfl⟩
      rw [← hQL] at c1 hq hqlen hqb
      have hqlt : ∀ x, (Value.slice qa QL qc).ownBlock = some x → x < wr.heap.size := fun x e => own_lt hq e
      obtain ⟨v5, w5, hr, hown5, hgr5, hbl5⟩ := run_append_any_own (P := Tryz.prog) (wr.alloc (.cells #[.int .i64 (f : Int), .int .i64 (n : Int)] 75)) 0 51 51 75 i0 (.agg #[.int .i64 0, .int .i64 0]) 2 16 Tryz.underlying51 hi0 hz0 hz1 hz2 rfl (by decide) _ _ _ (hq.alloc _)
        (some ⟨wr.heap.size, 0, none⟩) 1 1 [.int .i64 (f : Int), .int .i64 (n : Int)] rfl (fun _ => ⟨_, rfl, fun j u hu => by
          rw [Lib.add_plain, Lib.cell_of_heap (heap_alloc_new wr _)]
          match j, hu with
          | 0, hu => simpa using hu
          | 1, hu => simpa using hu⟩) (by simp [Value.oneCell']) (by unfold maxLen; omega) (by omega) (Nat.zero_le _)
      obtain ⟨a5, c5, rfl, _⟩ := own_shape hown5
      have hqd : (Value.slice qa QL qc).ownBlock ≠ some d := fun e => by
        rcases hqb with hb | ⟨x, hb, hx⟩
        · exact b2 (by rw [← hb]; exact e)
        · rw [hb] at e; injection e with e; omega
      have hk5 : Kept (fun k => (Value.slice qa QL qc).ownBlock = some k) wr w5 := (Kept.alloc _ wr _).trans (Kept.grown hgr5 (fun k e => e)) (fun _ _ e => e)
      have hd5 := hk5.heap hd hqd
      have j1 : w5.cell? ⟨d, 1, none⟩ = some (.slice qa QL qc) := by
        rw [Lib.cell_of_heap hd5, hQL]; rfl
      have z1 : w5.frozen? ⟨d, 1, none⟩ = false := Lib.frozen_of_heap hd5 1
      have hk6 := Kept.set d 1 w5 (.slice a5 (QL + 1) c5)
      have hlen5 : (X.queue ++ (l.take (k + 1)).map fun n => (f, n)) = (X.queue ++ (l.take k).map fun n => (f, n)) ++ [(f, n)] := by
        rw [List.take_add_one, hn]
        simp
      have hszr : wr.heap.size ≤ w5.heap.size := hk5.size
      have hrel : ∃ (k' : Nat) (qv' : Value), k' ≤ l.length ∧ Value.int .i64 ((k : Int) + 1) = .int .i64 (k' : Int) ∧ (w5.setCell ⟨d, 1, none⟩ (.slice a5 (QL + 1) c5)).heap[d]? = some (.cells #[.map (some bm), qv', .bool X.down, .int .i64 (X.lost : Int), .int .i64 (X.left : Int), kv] 53 (0, 0)) ∧
          (w5.setCell ⟨d, 1, none⟩ (.slice a5 (QL + 1) c5)).ownsRow 0 75 2 qv' (X.queue ++ (l.take k').map fun n => (f, n)).length (secsV (X.queue ++ (l.take k').map fun n => (f, n))) ∧ (qv'.ownBlock = qv.ownBlock ∨ ∃ x, qv'.ownBlock = some x ∧ w2.heap.size ≤ x) ∧ Kept (fun k => k = d ∨ qv.ownBlock = some k) w2 (w5.setCell ⟨d, 1, none⟩ (.slice a5 (QL + 1) c5)) := by
        have hsK := hK.size
        have hne5 : (Value.slice a5 (QL + 1) c5).ownBlock ≠ some d := fun e => by
          rcases hbl5 with e5 | e5
          · rw [e5] at e; exact hqd e
          · rw [e5] at e
            have e' : (wr.alloc (.cells #[.int .i64 (f : Int), .int .i64 (n : Int)] 75)).heap.size = d := by simpa using e
            simp at e'
            have := (Array.getElem?_eq_some_iff.1 hd).1
            omega
        refine ⟨k + 1, .slice a5 (QL + 1) c5, hkl, by go_num, cells6_set hd5 1 _ (by omega), ?_, ?_, ?_⟩
        · rw [hlen5, secsV_app, List.length_append, ← hQL]
          exact own_kept hown5 hk6 (fun k e e' => hne5 (by rw [e, e']))
        · rcases hbl5 with e5 | e5
          · rw [e5]; exact hqb
          · exact Or.inr ⟨_, e5, by simp; omega⟩
        · refine (hK.trans hk5 (fun x hx e => ?_)).trans hk6 (fun x _ e => Or.inl e)
          rcases hqb with hb | ⟨y, hb, hy⟩
          · rw [hb] at e; exact Or.inr e
          · rw [hb] at e; injection e with e; omega
      have HR := Lib.hid hr
      have HREL := Lib.hid hrel
      clear hd hq hqb hK HD HQ HQB HK hav hgb hn hqlt hr hown5 hgr5 hbl5 hqd hk5 hd5 hk6 hlen5 hrel b1 b2 b3 b4 b5 b6 hQL hqlen
      go_wp2_with (at_builtin; refine Lib.wpList_append_run _ rfl _ _ _ _ rfl _ _ rfl rfl _ w5 HR.out ?_)
      go_roundw
      case rel => exact HREL.out
      case measure => simp [intOf]; omega
    · have hkl' : ¬ (k : Int) < (l.length : Int) := by omega
      have hke : k = l.length := by omega
      have htk : l.take k = l := List.take_of_length_le (by omega)
      rw [htk] at hq
      have HQ' := Lib.hid hq
      clear hd hq hqb hK HQ htk
      go_wp2_with fail
      go_ret
      obtain ⟨b1, b2, b3, b4, b5, b6⟩ := H.out.apart
      have hdw : d < w.heap.size := H.out.lt (Or.inl rfl)
      have hbw : bm < w.heap.size := H.out.lt (Or.inr (Or.inl rfl))
      have hqb := HQB.out
      have hall : Kept (fun k => k = d ∨ own f k ∨ qv.ownBlock = some k) w wr := (HK2.out.mono (S' := fun k => k = d ∨ own f k ∨ qv.ownBlock = some k) (fun _ _ e => Or.inr (Or.inl e))).trans HK.out (fun k _ e => by
        rcases e with e | e
        · exact Or.inl e
        · exact Or.inr (Or.inr e))
      have hnn : ∀ i, i < 16 → ∀ x, ownUp own f W1.heap.size w2.heap.size i x → x ≠ d ∧ x ≠ bm ∧ qv.ownBlock ≠ some x ∧ kv.ownBlock ≠ some x := fun i hi x hx => by
        rcases ownUp_or hx with h1 | h1
        · exact H.out.ownNe i hi x h1
        · exact ⟨by omega, by omega, fun e => by have := own_lt H.out.queue e; omega, fun e => by have := own_lt H.out.keep e; omega⟩
      have hput : X.put (f : Int) (at' : Int) s = ({ X with file := upd X.file f ((X.file f).write at' s), queue := X.queue ++ ((X.file f).added at' s).map fun n => (f, n) }, 0) := by
        unfold D.put
        have e1 : ok (f : Int) = true := by simp [ok]; omega
        have e2 : decide (0 ≤ (at' : Int)) = true := by simp
        rw [e1, e2, if_pos (by rfl), if_pos (by omega)]
        simp only [Int.toNat_natCast]
      have hinv := D.put_inv H.out.inv (f : Int) (at' : Int) s
      rw [hput] at hinv
      have hnd : ∀ x, qv'.ownBlock = some x → x < w.heap.size → qv.ownBlock = some x := fun x e hx => by
        rcases hqb with hb | ⟨y, hb, hy⟩
        · rw [← hb]; exact e
        · rw [hb] at e; injection e with e; omega
      refine ⟨rfl, DiskIn.of (own' := ownUp own f W1.heap.size w2.heap.size) (blk' := blk) (kv' := kv) (qv' := qv') HS.out { cell := HD.out, files := ?_, queue := ?_, keep := ?_, file := fun i hi => ?_, inv := hinv, lost := H.out.lost, left := H.out.left, keepIn := H.out.keepIn, keepLen := H.out.keepLen, ownLt := fun i hi x hx => ?_, ownNe := fun i hi x hx => ?_, ownOne := HFI.out.one, apart := ?_ } (fun i hi x hx => ?_) (fun x e => ?_) (fun x e => Or.inl e), hall.mono (fun x _ e => ?_)⟩
      · exact H.out.files.kept hall (fun e => by
          rcases e with e | e | e
          · exact b1 e.symm
          · exact (H.out.ownNe f hf bm e).2.1 rfl
          · exact b3 e)
      · rw [← HL.out]; exact HQ'.out
      · exact own_kept H.out.keep hall (fun k e e' => by
          rcases e' with e' | e' | e'
          · exact b4 (by rw [e, e'])
          · exact (H.out.ownNe f hf k e').2.2.2 e
          · exact b6 k e' e)
      · refine (HFI.out.file i hi).kept HK.out (fun x hx e => ?_)
        have hn := hnn i hi x hx
        rcases e with e | e
        · exact hn.1 e
        · exact hn.2.2.1 e
      · exact Nat.lt_of_lt_of_le (HFI.out.lt i hi x hx) HK.out.size
      · have hn := hnn i hi x hx
        refine ⟨hn.1, hn.2.1, fun e => ?_, hn.2.2.2⟩
        rcases hqb with hb | ⟨y, hb, hy⟩
        · rw [hb] at e; exact hn.2.2.1 e
        · rw [hb] at e
          injection e with e
          have := HFI.out.lt i hi x hx
          omega
      · refine ⟨b1, fun e => b2 (hnd d e hdw), fun e => b3 (hnd bm e hbw), b4, b5, fun x e e' => ?_⟩
        exact b6 x (hnd x e (own_lt H.out.keep e')) e'
      · rcases ownUp_or hx with h1 | h1
        · exact Or.inl h1
        · exact Or.inr (by omega)
      · rcases hqb with hb | ⟨y, hb, hy⟩
        · rw [hb] at e; exact Or.inl e
        · rw [hb] at e
          injection e with e
          exact Or.inr (by omega)
      · rcases e with e | e | e
        · exact HS.out x (Or.inl e)
        · exact HS.out x (Or.inr (Or.inr (Or.inr (Or.inr ⟨f, hf, e⟩))))
        · exact HS.out x (Or.inr (Or.inr (Or.inl e)))
end Go.Proofs.YtljgfnglknpfaaaGreatDoor

namespace Go.Proofs.YtljgfnglknpfaaaGreatDoor
set_option maxRecDepth 100000
open Go Go.RowKit Go.Maps Dk

theorem DiskIn.same {w : World} {d : Nat} {S : Nat → Prop} {X : D} (h : DiskIn w d S X) (w0 : World) : DiskIn w d (After S w0) X := h.mono (fun _ _ e => Or.inl e)
theorem dput_c (d : Nat) (S : Nat → Prop) (X : D) (f at' : Int) (s : List UInt8) (hf : -9223372036854775808 ≤ f ∧ f ≤ 9223372036854775807) (ha : -9223372036854775808 ≤ at' ∧ at' ≤ 9223372036854775807) (hs : s.length ≤ 9223372036854775807) (w : World) (h : DiskIn w d S X) :
    Calls Tryz.prog 59 #[.pointer (some ⟨d, 0, none⟩), .int .i64 f, .int .i64 at', .string ⟨s.toArray⟩] w fun e w' => e = .returned (.int .i64 (X.put f at' s).2) ∧ DiskIn w' d (After S w) (X.put f at' s).1 ∧ Kept S w w' := by
  by_cases hc : ok f = true ∧ 0 ≤ at' ∧ at' + s.length ≤ 16777216
  · obtain ⟨h1, h2, h3⟩ := hc
    obtain ⟨m, rfl⟩ : ∃ m : Nat, f = m := ⟨f.toNat, by simp [ok] at h1; omega⟩
    obtain ⟨k, rfl⟩ : ∃ k : Nat, at' = k := ⟨at'.toNat, by omega⟩
    have hm : m < 16 := by simp [ok] at h1; omega
    have hput : X.put (m : Int) (k : Int) s = ({ X with file := upd X.file m ((X.file m).write k s), queue := X.queue ++ ((X.file m).added k s).map fun n => (m, n) }, 0) := by
      unfold D.put
      have e2 : decide (0 ≤ (k : Int)) = true := by simp
      rw [h1, e2, if_pos (by rfl), if_pos h3]
      simp only [Int.toNat_natCast]
    rw [hput]
    by_cases hs0 : s = []
    · subst hs0
      have e1 : (X.file m).write k [] = X.file m := by unfold F.write; rw [if_pos rfl]
      have e2 : (X.file m).added k [] = [] := by unfold F.added; rw [if_pos rfl]
      rw [e1, e2, upd_id]
      simp only [List.map_nil, List.append_nil]
      exact dput_none d S X m k w h hm (by simp at h3; omega)
    · exact dput_some d S X m k s w h hm hs0 (by omega)
  · refine (dput_bad d S X f at' s hf ha hs w h hc).mono ?_
    rintro e w' ⟨rfl, h1, rfl⟩
    rw [h1]
    exact ⟨rfl, h.same _, Kept.refl _ _⟩

theorem After.trans {S : Nat → Prop} {a b : World} (h : a.heap.size ≤ b.heap.size) : ∀ k, After (After S a) b k → After S a k := by
  rintro k (e | e)
  · exact e
  · exact Or.inr (Nat.le_trans h e)
theorem After.kept {S : Nat → Prop} {a b c : World} (h1 : Kept S a b) (h2 : Kept (After S a) b c) : Kept S a c := h1.trans h2 (fun k hk e => by
  rcases e with e | e
  · exact e
  · omega)

set_option maxRecDepth 100000 in
theorem write_c (d : Nat) (S : Nat → Prop) (X : D) (f at' : Int) (s : List UInt8) (hf : -9223372036854775808 ≤ f ∧ f ≤ 9223372036854775807) (ha : -9223372036854775808 ≤ at' ∧ at' ≤ 9223372036854775807) (hs : s.length ≤ 9223372036854775807) (w : World) (h : DiskIn w d S X) :
    Calls Tryz.prog 47 #[.pointer (some ⟨d, 0, none⟩), .int .i64 f, .int .i64 at', .string ⟨s.toArray⟩] w fun e w' => e = .returned (.int .i64 (X.write f at' s).2) ∧ DiskIn w' d (After S w) (X.write f at' s).1 ∧ Kept S w w' := by
  have k2 : w.cell? ⟨d, 2, none⟩ = some (.bool X.down) := by obtain ⟨bm, blk, own, qv, kv, h, _⟩ := h; exact h.c2
  unfold D.write
  by_cases hd : X.down = true
  · rw [if_pos hd]
    rw [hd] at k2
    have H := Lib.hid h
    clear h
    go_enter Tryz.func47, Tryz.ntmps47
    go_wp2_with fail
    go_ret
    exact ⟨rfl, H.out.same _, Kept.refl _ _⟩
  · rw [if_neg hd]
    have hd' : X.down = false := by simpa using hd
    rw [hd'] at k2
    dsimp only
    have q := dput_c d S X f at' s hf ha hs w h
    obtain ⟨Y, hY⟩ : ∃ Y, Y = X.put f at' s := ⟨_, rfl⟩
    rw [← hY] at q ⊢
    have q2 : ∀ w1, DiskIn w1 d (After S w) Y.1 → Kept S w w1 → Calls Tryz.prog 52 #[.pointer (some ⟨d, 0, none⟩)] w1 fun e w' => e = .returned (.bool Y.1.strike.2) ∧ Hid (DiskIn w' d (After S w) Y.1.strike.1 ∧ Kept S w w') := by
      intro w1 hi hk
      refine (strike_c d (After S w) Y.1 w1 hi).mono ?_
      rintro e w2 ⟨rfl, hi2, hk2⟩
      exact ⟨rfl, hi2.mono (fun k _ => After.trans hk.size k), After.kept hk hk2⟩
    have Q := Lib.hid q
    have Q2 := Lib.hid q2
    clear h q q2 hY hd hd'
    cases hst : Y.1.strike.2 with
    | true =>
      rw [hst] at Q2
      simp only [if_true]
      go_enter Tryz.func47, Tryz.ntmps47
      go_wp2_with (first
        | (go_at_call 59; refine Q.out.mono ?_; rintro e w1 ⟨rfl, hi, hk⟩)
        | (go_at_call 52; refine (Q2.out _ hi hk).mono ?_; rintro e w2 ⟨rfl, hp⟩))
      go_ret
      exact ⟨rfl, hp.out.1, hp.out.2⟩
    | false =>
      rw [hst] at Q2
      simp only [Bool.false_eq_true, if_false]
      go_enter Tryz.func47, Tryz.ntmps47
      go_wp2_with (first
        | (go_at_call 59; refine Q.out.mono ?_; rintro e w1 ⟨rfl, hi, hk⟩)
        | (go_at_call 52; refine (Q2.out _ hi hk).mono ?_; rintro e w2 ⟨rfl, hp⟩))
      go_ret
      exact ⟨rfl, hp.out.1, hp.out.2⟩
end Go.Proofs.YtljgfnglknpfaaaGreatDoor

namespace Go.Proofs.YtljgfnglknpfaaaGreatDoor
set_option maxRecDepth 100000
open Go Go.RowKit Go.Maps Dk

/-- What is known behind the count of a call, where there was no crash. -/
theorem strike_open (d : Nat) (S : Nat → Prop) (X : D) (f : Int) (hf : -9223372036854775808 ≤ f ∧ f ≤ 9223372036854775807) (w : World) (h : DiskIn w d S X) :
    Calls Tryz.prog 52 #[.pointer (some ⟨d, 0, none⟩)] w fun e w1 => e = .returned (.bool X.strike.2) ∧ ∃ (bm : Nat) (blk : Nat → Nat) (own : Nat → Nat → Prop) (qv kv : Value), (w1.cell? ⟨d, 0, none⟩ = some (.map (some bm)) ∧ w1.cell? ⟨d, 3, none⟩ = some (.int .i64 (X.strike.1.lost : Int)) ∧ w1.frozen? ⟨d, 3, none⟩ = false ∧
      (Instr.lookup 50 (.map (some bm)) (.int .i64 f) true).run Tryz.prog w1 = .ok (if ok f then .tuple #[.pointer (some ⟨blk f.toNat, 0, none⟩), .bool true] else .tuple #[.pointer none, .bool false]) w1) ∧
      Hid (DiskAt w1 d bm blk own qv kv X.strike.1 ∧ (∀ k, InD d bm own qv kv k → After S w k) ∧ Kept S w w1) := by
  refine (strike_c d S X w h).mono ?_
  rintro e w1 ⟨rfl, ⟨bm, blk, own, qv, kv, hd, hS⟩, hk⟩
  exact ⟨rfl, bm, blk, own, qv, kv, ⟨hd.c0, hd.c3, hd.z 3, hd.files.look2 f hf⟩, hd, hS, hk⟩

set_option maxRecDepth 100000 in
theorem sync_c (d : Nat) (S : Nat → Prop) (X : D) (f : Int) (hf : -9223372036854775808 ≤ f ∧ f ≤ 9223372036854775807) (w : World) (h : DiskIn w d S X) :
    Calls Tryz.prog 35 #[.pointer (some ⟨d, 0, none⟩), .int .i64 f] w fun e w' => e = .returned (.int .i64 (X.sync f).2) ∧ DiskIn w' d (After S w) (X.sync f).1 ∧ Kept S w w' := by
  have k2 : w.cell? ⟨d, 2, none⟩ = some (.bool X.down) := by obtain ⟨bm, blk, own, qv, kv, h, _⟩ := h; exact h.c2
  unfold D.sync
  by_cases hd : X.down = true
  · rw [if_pos hd]
    rw [hd] at k2
    have H := Lib.hid h
    clear h
    go_enter Tryz.func35, Tryz.ntmps35
    go_wp2_with fail
    go_ret
    exact ⟨rfl, H.out.same _, Kept.refl _ _⟩
  · rw [if_neg hd]
    have hd' : X.down = false := by simpa using hd
    rw [hd'] at k2
    dsimp only
    have q := strike_open d S X f hf w h
    obtain ⟨Y, hY⟩ : ∃ Y, Y = X.strike := ⟨_, rfl⟩
    rw [← hY] at q ⊢
    cases hst : Y.2 with
    | true =>
      rw [hst] at q
      have Q := Lib.hid q
      simp only [if_true]
      clear h q hY hd hd'
      go_enter Tryz.func35, Tryz.ntmps35
      go_wp2_with (go_at_call 52; refine Q.out.mono ?_; rintro e w1 ⟨rfl, bm, blk, own, qv, kv, _, hp⟩)
      go_ret
      obtain ⟨h1, h2, h3⟩ := hp.out
      exact ⟨rfl, ⟨bm, blk, own, qv, kv, h1, h2⟩, h3⟩
    | false =>
      rw [hst] at q
      simp only [Bool.false_eq_true, if_false]
      cases ho : ok f with
      | false =>
        rw [ho] at q
        simp only [Bool.false_eq_true, if_false] at q ⊢
        have Q := Lib.hid q
        clear h q hY hd hd'
        go_enter Tryz.func35, Tryz.ntmps35
        go_wp2_with (go_at_call 52; refine Q.out.mono ?_; rintro e w1 ⟨rfl, bm, blk, own, qv, kv, ⟨j0, j3, z3, hl⟩, hp⟩)
        go_ret
        obtain ⟨h1, h2, h3⟩ := hp.out
        exact ⟨rfl, ⟨bm, blk, own, qv, kv, h1, h2⟩, h3⟩
      | true =>
        rw [ho] at q
        simp only [if_true] at q ⊢
        by_cases hl0 : 0 < Y.1.lost
        · rw [if_pos hl0]
          obtain ⟨m, hm⟩ : ∃ m, Y.1.lost = m + 1 := ⟨Y.1.lost - 1, by omega⟩
          rw [hm] at q
          have q2 := q.mono (R' := fun e w1 => e = .returned (.bool false) ∧ ∃ (bm : Nat) (blk : Nat → Nat) (own : Nat → Nat → Prop) (qv kv : Value), (w1.cell? ⟨d, 0, none⟩ = some (.map (some bm)) ∧ w1.cell? ⟨d, 3, none⟩ = some (.int .i64 ((m : Int) + 1)) ∧ w1.frozen? ⟨d, 3, none⟩ = false ∧
            (Instr.lookup 50 (.map (some bm)) (.int .i64 f) true).run Tryz.prog w1 = .ok (.tuple #[.pointer (some ⟨blk f.toNat, 0, none⟩), .bool true]) w1) ∧
            Hid (DiskAt w1 d bm blk own qv kv Y.1 ∧ (∀ k, InD d bm own qv kv k → After S w k) ∧ Kept S w w1) ∧ (m : Int) ≤ 9223372036854775806) (by
            rintro e w1 ⟨rfl, bm, blk, own, qv, kv, ⟨a1, a2, a3, a4⟩, hp⟩
            exact ⟨rfl, bm, blk, own, qv, kv, ⟨a1, a2, a3, a4⟩, hp, by have := hp.out.1.lost; omega⟩)
          have Q := Lib.hid q2
          have HM := Lib.hid hm
          have e1 : Y.1.lost - 1 = m := by omega
          rw [e1]
          clear h q q2 hY hd hd' hm e1 hl0
          go_enter Tryz.func35, Tryz.ntmps35
          go_wp2_with (go_at_call 52; refine Q.out.mono ?_; rintro e w1 ⟨rfl, bm, blk, own, qv, kv, ⟨j0, j3, z3, hl⟩, hp, hmb⟩)
          go_ret
          obtain ⟨h1, h2, h3⟩ := hp.out
          have hk := Kept.set d 3 w1 (.int .i64 (m : Int))
          exact ⟨rfl, ⟨bm, blk, own, qv, kv, h1.recell hk Y.1.down m Y.1.left (cells6_set h1.cell 3 (.int .i64 (m : Int)) (by omega)) (by omega) h1.left, h2⟩, h3.trans hk (fun k hk' e => by
            subst e
            rcases h2 k (Or.inl rfl) with h | h
            · exact h
            · omega)⟩
        · rw [if_neg hl0]
          have hz : Y.1.lost = 0 := by omega
          rw [hz] at q
          obtain ⟨i, rfl⟩ : ∃ i : Nat, f = i := ⟨f.toNat, by simp [ok] at ho; omega⟩
          have hi : i < 16 := by simp [ok] at ho; omega
          simp only [Int.toNat_natCast] at q ⊢
          have q2 : ∀ w1, Kept S w w1 → DiskIn w1 d (After S w) Y.1 → Calls Tryz.prog 53 #[.pointer (some ⟨d, 0, none⟩), .int .i64 (i : Int)] w1 fun e w' => e = .returned (.tuple #[]) ∧ Hid (DiskIn w' d (After S w) (Y.1.settle i) ∧ Kept S w w') := by
            intro w1 hk hin
            refine (settle_c d (After S w) Y.1 i hi w1 hin).mono ?_
            rintro e w2 ⟨rfl, h1, h2⟩
            exact ⟨rfl, h1.mono (fun k _ => After.trans hk.size k), After.kept hk h2⟩
          have Q := Lib.hid q
          have Q2 := Lib.hid q2
          clear h q q2 hY hd hd' hl0 hz ho
          go_enter Tryz.func35, Tryz.ntmps35
          go_wp2_with (first
            | (go_at_call 52; refine Q.out.mono ?_; rintro e w1 ⟨rfl, bm, blk, own, qv, kv, ⟨j0, j3, z3, hl⟩, hp⟩)
            | (go_at_call 53; refine (Q2.out _ hp.out.2.2 ⟨bm, blk, own, qv, kv, hp.out.1, hp.out.2.1⟩).mono ?_; rintro e w2 ⟨rfl, hp2⟩))
          go_ret
          exact ⟨rfl, hp2.out.1, hp2.out.2⟩
end Go.Proofs.YtljgfnglknpfaaaGreatDoor
