/-
  A network in a heap: what its methods return and leave is what the model says.
-/
import Derived.Test.YtedpkjlhcpjblaaNBase
import Derived.Laws.StructEq
namespace Go.Proofs.Ytedpkjlhcpjblaa
set_option maxRecDepth 100000
open Go Go.RowKit Nt

/-- The network in block b. -/
structure NetAt (w : World) (b : Nat) (lv : Value) (n : N) : Prop where
  blk : w.heap[b]? = some (.cells #[lv, .int .u16 n.m] 57 (0, 0))
  row : PkRow w 0 lv n.l
  apart : lv.ownBlock ≠ some b
theorem NetAt.c0 {w : World} {b : Nat} {lv : Value} {n : N} (h : NetAt w b lv n) : w.cell? ⟨b, 0, none⟩ = some lv := by rw [Lib.cell_of_heap h.blk]; rfl
theorem NetAt.c1 {w : World} {b : Nat} {lv : Value} {n : N} (h : NetAt w b lv n) : w.cell? ⟨b, 1, none⟩ = some (.int .u16 n.m) := by rw [Lib.cell_of_heap h.blk]; rfl
theorem NetAt.z {w : World} {b : Nat} {lv : Value} {n : N} (h : NetAt w b lv n) (o : Nat) : w.frozen? ⟨b, o, none⟩ = false := Lib.frozen_of_heap h.blk o
theorem NetAt.lt {w : World} {b : Nat} {lv : Value} {n : N} (h : NetAt w b lv n) : b < w.heap.size := (Array.getElem?_eq_some_iff.1 h.blk).1
theorem NetAt.kept {w w' : World} {b : Nat} {lv : Value} {n : N} {S : Nat → Prop} (h : NetAt w b lv n) (hk : Kept S w w') (hb : ¬ S b) (hl : ∀ k, lv.ownBlock = some k → ¬ S k) : NetAt w' b lv n :=
  ⟨hk.heap h.blk hb, h.row.kept hk hl, h.apart⟩
/-- What every network of the program is. -/
structure Ok (n : N) : Prop where
  split : 0 ≤ n.m ∧ n.m < 65536
  len : n.l.length ≤ 500
  ends : ∀ p ∈ n.l, isEnd p.a = true ∧ isEnd p.b = true ∧ p.a ≠ p.b

/-! ### Bits -/
theorem i64_and_low (n : Int) (m : Nat) (hm : m < 62) : bits .and .i64 n (2 ^ m - 1 : Nat) = n % (2 ^ m : Nat) := by
  have hp : (2 : Nat) ^ m ≤ 2 ^ 61 := Nat.pow_le_pow_right (by decide) (by omega)
  have hp0 : 0 < (2 : Nat) ^ m := Nat.two_pow_pos m
  have h127 : (BitVec.ofInt 64 ((2 ^ m - 1 : Nat) : Int)).toNat = 2 ^ m - 1 := by
    rw [BitVec.toNat_ofInt, Int.emod_eq_of_lt (by omega) (by simp only [Nat.reducePow] at hp ⊢; omega)]
    omega
  have key : (BitVec.ofInt 64 n &&& BitVec.ofInt 64 ((2 ^ m - 1 : Nat) : Int)).toNat = (n % ((2 ^ 64 : Nat) : Int)).toNat % 2 ^ m := by
    rw [BitVec.toNat_and, BitVec.toNat_ofInt, h127, Nat.and_two_pow_sub_one_eq_mod]
  show IntKind.i64.wrap ((BitVec.ofInt 64 n &&& BitVec.ofInt 64 ((2 ^ m - 1 : Nat) : Int)).toNat : Nat) = n % (2 ^ m : Nat)
  rw [key, IntKind.wrap_i64]
  have h1 : (n % ((2 ^ 64 : Nat) : Int)) % ((2 ^ m : Nat) : Int) = n % ((2 ^ m : Nat) : Int) := Int.emod_emod_of_dvd n (by exact_mod_cast Nat.pow_dvd_pow 2 (by omega))
  have h2 : 0 ≤ n % ((2 ^ 64 : Nat) : Int) := Int.emod_nonneg _ (by decide)
  have h3 : (((n % ((2 ^ 64 : Nat) : Int)).toNat % 2 ^ m : Nat) : Int) = n % ((2 ^ m : Nat) : Int) := by
    rw [← h1, Int.natCast_emod, Int.toNat_of_nonneg h2]
  rw [h3]
  have h7 : (0 : Int) < ((2 ^ m : Nat) : Int) := by exact_mod_cast hp0
  have h4 : n % ((2 ^ m : Nat) : Int) < ((2 ^ m : Nat) : Int) := Int.emod_lt_of_pos _ h7
  have h5 : 0 ≤ n % ((2 ^ m : Nat) : Int) := Int.emod_nonneg _ (by omega)
  have h6 : ((2 ^ m : Nat) : Int) ≤ ((2 ^ 61 : Nat) : Int) := by exact_mod_cast hp
  generalize ((2 ^ m : Nat) : Int) = q at *
  generalize n % q = r at *
  simp only [Nat.reducePow] at h6
  omega
theorem i64_and1 (n : Int) : bits .and .i64 n 1 = n % 2 := i64_and_low n 1 (by decide)
theorem i64_and7 (n : Int) : bits .and .i64 n 7 = n % 8 := i64_and_low n 3 (by decide)
theorem i64_and15 (n : Int) : bits .and .i64 n 15 = n % 16 := i64_and_low n 4 (by decide)
theorem i64_and65535 (n : Int) : bits .and .i64 n 65535 = n % 65536 := i64_and_low n 16 (by decide)

theorem u16_and1 (n : Int) (h0 : 0 ≤ n) (h1 : n < 65536) : bits .and .u16 n 1 = n % 2 := by
  rw [u16_and n 1 h0 h1 (by decide) (by decide)]
  have : n.toNat &&& 1 = n.toNat % 2 := Nat.and_one_is_mod _
  show ((n.toNat &&& 1 : Nat) : Int) = _
  rw [this]
  omega

theorem isEnd_c (a : Int) (w : World) : Calls Try.prog 32 #[.int .i64 a] w fun e w' => e = .returned (.bool (isEnd a)) ∧ w' = w := by
  by_cases h0 : 0 ≤ a
  · by_cases h1 : a < 16
    · have h2 : isEnd a = true := isEnd_iff.2 ⟨h0, by omega⟩
      rw [h2]
      clear h2
      go_enter Try.func32, Try.ntmps32
      go_wp2_with fail
      go_ret
      exact ⟨rfl, rfl⟩
    · have h2 : isEnd a = false := by unfold isEnd; simp; omega
      rw [h2]
      clear h2
      go_enter Try.func32, Try.ntmps32
      go_wp2_with fail
      go_ret
      exact ⟨rfl, rfl⟩
  · have h2 : isEnd a = false := by unfold isEnd; simp; omega
    rw [h2]
    clear h2
    go_enter Try.func32, Try.ntmps32
    go_wp2_with fail
    go_ret
    exact ⟨rfl, rfl⟩
theorem side_c {w : World} {b : Nat} {lv : Value} {n : N} (h : NetAt w b lv n) (hn : Ok n) (a : Int) (ha : isEnd a = true) : Calls Try.prog 33 #[.pointer (some ⟨b, 0, none⟩), .int .i64 a] w fun e w' => e = .returned (.int .u16 (side n.m a)) ∧ w' = w := by
  have c1 := h.c1
  obtain ⟨h0, h1⟩ := isEnd_iff.1 ha
  obtain ⟨m0, m1⟩ := hn.split
  have h2 : ¬ a < 0 := by omega
  clear h hn
  go_enter Try.func33, Try.ntmps33
  go_wp2_with fail
  rw [u16_and1 _ (Int.ediv_nonneg m0 (Int.le_of_lt (Int.pow_pos (by decide)))) (Int.lt_of_le_of_lt (Int.ediv_le_self _ m0) m1)]
  go_ret
  exact ⟨rfl, rfl⟩
theorem eq_pk (p q : Pk) (w : World) : (binOp .eql 33 (.agg #[.int .i64 p.a, .int .i64 p.b, .string ⟨p.s.toArray⟩]) (.agg #[.int .i64 q.a, .int .i64 q.b, .string ⟨q.s.toArray⟩])).run Try.prog w = .ok (.bool (decide (p = q))) w := by
  rw [run_eql_struct, run_equalIn_agg _ 9999 _ _ _ (by kernel_rfl) (by kernel_rfl)]
  have p0 : ∀ (x y z : Value) (w : World), (part 3 #[x, y, z] 0).run Try.prog w = .ok x w := fun x y z w => run_part_plain w (by kernel_rfl) rfl
  have p1 : ∀ (x y z : Value) (w : World), (part 3 #[x, y, z] 1).run Try.prog w = .ok y w := fun x y z w => run_part_plain w (by kernel_rfl) rfl
  have p2 : ∀ (x y z : Value) (w : World), (part 9 #[x, y, z] 2).run Try.prog w = .ok z w := fun x y z w => run_part_plain w (by kernel_rfl) rfl
  have ei : ∀ (a b : Int) (w : World), (Op.equalIn 9999 3 (.int .i64 a) (.int .i64 b)).run Try.prog w = .ok (a == b) w := fun a b w => run_equalIn_int w 9998 3 .i64 .i64 a b Try.underlying3
  have es : ∀ (a b : ByteArray) (w : World), (Op.equalIn 9999 9 (.string a) (.string b)).run Try.prog w = .ok (a.toList == b.toList) w := fun a b w => run_equalIn_string w 9998 9 a b Try.underlying9
  have hs : ∀ a b : List UInt8, ((⟨a.toArray⟩ : ByteArray).toList == (⟨b.toArray⟩ : ByteArray).toList) = decide (a = b) := fun a b => by
    rw [ByteArray.toList_eq, ByteArray.toList_eq]
    simp [Bool.beq_eq_decide_eq]
  simp only [Program.fieldsOf, Try.underlying33, Op.eqFields, ne_eq, String.reduceEq, not_false_eq_true, if_true, Sem.run_bind, p0, p1, p2, ei, es, Result.andThen_ok, Sem.run_ite, Sem.run_pure, hs]
  obtain ⟨a, b, s⟩ := p
  obtain ⟨a', b', s'⟩ := q
  by_cases h1 : a = a'
  · by_cases h2 : b = b'
    · by_cases h3 : s = s'
      · simp [h1, h2, h3]
      · simp [h1, h2, h3]
    · simp [h1, h2]
  · simp [h1]

/-! ### A packet deleted -/
section
variable {P : Program}
theorem take_over (C news : List Value) (a N : Nat) (h1 : a + news.length ≤ N) (h2 : N ≤ C.length) : (C.take a ++ news ++ C.drop (a + news.length)).take N = (C.take N).take a ++ news ++ (C.take N).drop (a + news.length) := by
  have e1 : (C.take a).length = a := by rw [List.length_take]; omega
  rw [List.take_take, Nat.min_eq_left (by omega), List.drop_take, List.append_assoc, List.append_assoc, List.take_append, List.take_append, List.take_of_length_le (l := C.take a) (by omega), e1, List.take_of_length_le (l := news) (by omega)]
  congr 3
  omega
/-- 'append(s[:k], t...)' where there is room in s itself: t's elements lie over those of s. -/
theorem run_append_over (w : World) (base : Nat) (t ty e : TypeId) (i : TypeInfo) (size : Nat) (ht : P.underlying t = some (.slice e)) (hi : P.info? e = some i) (hsize : i.size = size)
    (g n cap : Nat) (xs : List Value) (hown : w.ownsRow base e size (.slice (some ⟨g, 0, none⟩) n cap) n xs) (k : Nat)
    (A : Option Addr) (m c : Nat) (news : List Value) (hl : news.length = m * size) (hsrc : 0 < m → ∃ ad, A = some ad ∧ ∀ j u, news[j]? = some u → w.cell? (ad.add j) = some u) (h1 : ∀ u ∈ news, u.oneCell' = true) (hkm : k + m ≤ n) :
    ∃ w', (Builtin.append_ #[t, t] ty #[.slice (some ⟨g, 0, none⟩) k cap, .slice A m c]).run P w = .ok (.slice (some ⟨g, 0, none⟩) (k + m) cap) w' ∧ w'.ownsRow base e size (.slice (some ⟨g, 0, none⟩) n cap) n (xs.take (k * size) ++ news ++ xs.drop ((k + m) * size)) ∧ w.grownBy w' (some g) := by
  subst hsize
  obtain ⟨hx, h2⟩ := hown
  rcases h2 with ⟨e1, _⟩ | ⟨g', cap', cur, e1, hbg, hg, hnc, hcm, hcs, htake⟩
  · cases e1
  · injection e1 with e1 _ e3
    injection e1 with e1
    injection e1 with e1
    subst e1 e3
    have hle : (k + m) * i.size ≤ n * i.size := Nat.mul_le_mul_right _ hkm
    have hle2 : n * i.size ≤ cap * i.size := Nat.mul_le_mul_right _ hnc
    rw [Nat.add_mul] at hle
    by_cases hm : m = 0
    · subst hm
      obtain rfl : news = [] := List.eq_nil_of_length_eq_zero (by simpa using hl)
      have hf : (Builtin.firstCells i.size 0 (.slice A 0 c)).run P w = .ok #[] w := by
        cases A <;> simp [Builtin.firstCells, loadCells, loadCellsFrom]
      refine ⟨w, ?_, ⟨by simpa using hx, Or.inr ⟨g, cap, cur, rfl, hbg, hg, hnc, hcm, hcs, by simpa using htake⟩⟩, ⟨rfl, rfl, rfl, Nat.le_refl _, fun _ _ _ => rfl⟩⟩
      simp [Builtin.append_, run_underlying ht, sizeOf, typeInfo, hi, Builtin.lenOf, hf, (show k ≤ cap by omega), storeCells]
    · obtain ⟨ad, rfl, hc⟩ := hsrc (by omega)
      have hr := run_append_room (P := P) w t ty e i ht hi g k cap cur hg ad m c news hl hc h1 (by omega) (by rw [hl, hcs]; omega)
      refine ⟨_, hr, ⟨?_, Or.inr ⟨g, cap, _, rfl, hbg, setRow_heap w g cur _ e _ hg, hnc, hcm, ?_, ?_⟩⟩, ⟨rfl, rfl, rfl, by simp, fun k _ hk => setRow_other w g k _ (fun e => hk (by rw [e]))⟩⟩
      · rw [List.length_append, List.length_append, List.length_take, List.length_drop, hx, hl, Nat.add_mul]
        omega
      · simp only [List.size_toArray, List.length_append, List.length_take, List.length_drop, Array.length_toList]
        omega
      · rw [← htake, Nat.add_mul, ← hl]
        have := take_over cur.toList news (k * i.size) (n * i.size) (by omega) (by rw [Array.length_toList, hcs]; exact hle2)
        simpa using this
theorem step_append_run {ops : Array Oper} {o : Oper} {a : Act} {w : World} {K : Act → World → Prop} {Q : Exit → Act → World → Prop} {E : Prop} (hgd : o.guard = none) (s x : Operand) (t tn : TypeId)
    (ho : o.op = .call { callee := .builtin .append, args := #[s, x], argTypes := #[t, tn] }) (vs vx : Value) (hs : a.eval s = vs) (hx : a.eval x = vx)
    (v' : Value) (w' : World) (hr : (Builtin.append_ #[t, tn] o.type #[vs, vx]).run P w = .ok v' w') (h : K (a.put o.dst v') w') : if Region.wanted o (yielded ops a.tmps) = true then Oper.wp P o a w K Q else E := by
  have hw : Region.wanted o (yielded ops a.tmps) = true := by simp [Region.wanted, hgd]
  rw [if_pos hw]
  exact Lib.wp_append_run w s x t tn ho vs vx hs hx v' w' hr h
end
theorem sizePk (wx : World) : ((sizeOf (Try.prog.elem 27)).run Try.prog wx) = .ok 3 wx := by
  obtain ⟨i0, hi, hz0, hz1, hz2⟩ := info_parts infoPk
  have e : Try.prog.elem 27 = 33 := by kernel_rfl
  rw [e]; simp [sizeOf, typeInfo, hi, hz1]
theorem pk_from (a : Option Addr) (n c k : Nat) (h : k ≤ n) : ∃ A, (∀ wx : World, (Instr.slice 27 (.slice a n c) (some (.int .i64 (k : Int))) none none).run Try.prog wx = .ok (.slice A (n - k) (c - k)) wx) ∧ (k < c → A = a.map (·.add (k * 3))) := by
  refine ⟨if c = k then a else a.map (·.add (k * 3)), fun wx => ?_, fun h => by simp [show c ≠ k by omega]⟩
  have hs := run_slice_l (P := Try.prog) wx 27 a n c Try.underlying27 .i64 k (by omega) (by omega)
  rw [hs, sizePk wx]
  simp [Result.andThen, sliced]
theorem pk_both (a : Option Addr) (n c l h : Nat) (h1 : l ≤ h) (h2 : h ≤ c) : ∃ A, (∀ wx : World, (Instr.slice 27 (.slice a n c) (some (.int .i64 (l : Int))) (some (.int .i64 (h : Int))) none).run Try.prog wx = .ok (.slice A (h - l) (c - l)) wx) ∧ (l < c → A = a.map (·.add (l * 3))) := by
  refine ⟨if c = l then a else a.map (·.add (l * 3)), fun wx => ?_, fun h => by simp [show c ≠ l by omega]⟩
  have hs := run_slice_lh (P := Try.prog) wx 27 a n c Try.underlying27 .i64 .i64 l h (by omega) (by omega) (by omega)
  rw [hs, sizePk wx]
  simp [Result.andThen, sliced]
theorem pk_three (a : Option Addr) (n c l h m : Nat) (h1 : l ≤ h) (h2 : h ≤ m) (h3 : m ≤ c) : ∃ A, (∀ wx : World, (Instr.slice 27 (.slice a n c) (some (.int .i64 (l : Int))) (some (.int .i64 (h : Int))) (some (.int .i64 (m : Int)))).run Try.prog wx = .ok (.slice A (h - l) (m - l)) wx) := by
  refine ⟨if m = l then a else a.map (·.add (l * 3)), fun wx => ?_⟩
  have hs := run_slice_lhm (P := Try.prog) wx 27 a n c Try.underlying27 .i64 .i64 .i64 l h m (by omega) (by omega) (by omega) (by omega)
  rw [hs, sizePk wx]
  simp [Result.andThen, sliced]
theorem pk_to (a : Option Addr) (n c h : Nat) (h2 : h ≤ c) (wx : World) : (Instr.slice 27 (.slice a n c) none (some (.int .i64 (h : Int))) none).run Try.prog wx = .ok (.slice a h c) wx := by
  have hs := run_slice_h (P := Try.prog) wx 27 a n c Try.underlying27 .i64 h (by omega) (by omega)
  rw [hs, sizePk wx]
  cases a <;> simp [Result.andThen, sliced, Addr.add]

set_option maxHeartbeats 1000000 in
theorem delete_c {w : World} {base g c : Nat} {l : List Pk} {k : Nat} (h : PkRow w base (.slice (some ⟨g, 0, none⟩) l.length c) l) (hk : k < l.length) (hl : l.length ≤ 1000000) (j : Int) (hj : j = (k : Int) + 1) :
    Calls Try.prog 37 #[.slice (some ⟨g, 0, none⟩) l.length c, .int .i64 (k : Int), .int .i64 j] w fun e w' => e = .returned (.slice (some ⟨g, 0, none⟩) (l.length - 1) c) ∧ PkRow w' base (.slice (some ⟨g, 0, none⟩) (l.length - 1) c) (cut l k) ∧ w.grownBy w' (some g) := by
  obtain ⟨J, hJ⟩ : ∃ J, J = k + 1 := ⟨_, rfl⟩
  obtain rfl : j = (J : Int) := by omega
  obtain ⟨i0, hi0, hz0, hz1, hz2⟩ := info_parts infoPk
  have hc : l.length ≤ c ∧ c ≤ maxLen := by
    obtain ⟨a, c', e, h1, h2, _⟩ := h.shape
    injection e with _ _ e
    subst e
    exact ⟨h1, h2⟩
  have hlow : base ≤ g := h.above rfl
  obtain ⟨L, hL⟩ : ∃ L, L = l.length := ⟨_, rfl⟩
  obtain ⟨M, hM⟩ : ∃ M, M = L - J := ⟨_, rfl⟩
  obtain ⟨K, hK⟩ : ∃ K, K = k + M := ⟨_, rfl⟩
  unfold PkRow at h
  rw [← hL] at h hk hl hc ⊢
  obtain ⟨hc1, hc2⟩ := hc
  unfold maxLen at hc2
  obtain ⟨A0, s0⟩ := pk_three (some ⟨g, 0, none⟩) L c k J L (by omega) (by omega) hc1
  have s1 := pk_to (some ⟨g, 0, none⟩) L c k (by omega)
  obtain ⟨A2, s2, hA2⟩ := pk_from (some ⟨g, 0, none⟩) L c J (by omega)
  rw [← hM] at s2
  have hown : w.drew.ownsRow base 33 3 (.slice (some ⟨g, 0, none⟩) L c) L (pksV l) := own_kept h (Kept.drew (fun _ => False) w) (fun _ _ e => e)
  obtain ⟨w1, hr, hown1, hgr1⟩ := run_append_over (P := Try.prog) w.drew base 27 27 33 i0 3 Try.underlying27 hi0 hz1 g L c (pksV l) hown k A2 M (c - J) (pksV (l.drop J))
    (by rw [pksV_length, List.length_drop, hM, hL]) (fun h0 => ⟨⟨g, J * 3, none⟩, by rw [hA2 (by omega), Option.map_some, Lib.add_plain, Nat.zero_add], fun j u hu => by
      rw [← pksV_drop, List.getElem?_drop] at hu
      have := own_cell_size (own_base hown) rfl _ u hu
      rw [Lib.add_plain, Nat.zero_add] at this
      rw [Lib.add_plain]
      exact this⟩) (pksV_one _) (by omega)
  rw [← hK] at hr hown1
  obtain ⟨A3, s3, hA3⟩ := pk_both (some ⟨g, 0, none⟩) K c K L (by omega) hc1
  obtain ⟨w2, hrc, hoc, hgc⟩ := run_clear_tail (P := Try.prog) w1 27 0 33 (.agg #[.int .i64 0, .int .i64 0, .string ⟨#[]⟩]) 3 Try.underlying27 (fun w => by kernel_rfl) rfl (by intro u hu; simp [Value.cells] at hu; rcases hu with rfl | rfl | rfl <;> rfl) g L c _ (own_base hown1) K (by omega) A3 (c - K) (fun h0 => by rw [hA3 (by omega), Option.map_some, Lib.add_plain, Nat.zero_add])
  have hne : ((k : Int) == (J : Int)) = false := by simp; omega
  have hend : (w2.ownsRow 0 33 3 (.slice (some ⟨g, 0, none⟩) (L - 1) c) (L - 1) (pksV (cut l k)) ∧ (cut l k).length = L - 1) ∧ K = L - 1 := by
    have e0 : K = L - 1 := by omega
    have e1 : (pksV (l.take k) ++ pksV (l.drop J)).length = K * 3 := by rw [← pksV_app, pksV_length, List.length_append, List.length_take, List.length_drop]; omega
    rw [pksV_take, List.take_append_of_le_length (by omega), List.take_of_length_le (by omega), ← pksV_app, e0] at hoc
    refine ⟨⟨?_, ?_⟩, e0⟩
    · have : cut l k = l.take k ++ l.drop J := by unfold cut; rw [hJ, Int.toNat_natCast]
      rw [this]
      exact hoc
    · rw [cut_length (by omega) (by omega)]; omega
  have HR := Lib.hid hr
  have HRC := Lib.hid hrc
  have HE := Lib.hid hend
  have HG := Lib.hid (And.intro hgr1 hgc)
  have HB := Lib.hid hlow
  have hk0 : ¬ (k : Int) < 0 := by omega
  clear hr hrc hown1 hoc hgr1 hgc hown hA2 hA3 h hlow hM hL hz0 hz1 hz2 hi0 hJ hK hj hend
  go_enter Try.func37, Try.ntmps37
  go_wp2_with fail
  go_region_law (refine step_append_run rfl (.tmp 22) (.tmp 25) _ _ rfl _ _ rfl rfl _ _ HR.out ?_)
  go_wp2_with ((with_reducible show wpList _ _ _ (Oper.mk _ (Op.call { callee := Callee.builtin Builtin.clear, args := _, argTypes := _ }) _ _ _ _ :: _) _ _); refine wpList_clear_run rfl _ _ rfl _ rfl _ HRC.out ?_)
  go_ret
  obtain ⟨⟨h1, h2⟩, h3⟩ := HE.out
  refine ⟨by rw [← h3]; rfl, ⟨by rw [pksV_length], ?_⟩, ⟨HG.out.2.os.trans HG.out.1.os, HG.out.2.tape.trans HG.out.1.tape, HG.out.2.output.trans HG.out.1.output, Nat.le_trans HG.out.1.size HG.out.2.size, fun i hi hn => (HG.out.2.block i (Nat.lt_of_lt_of_le hi HG.out.1.size) hn).trans (HG.out.1.block i hi hn)⟩⟩
  rw [h2]
  rcases h1.2 with e | ⟨g', c', cur, e, _, e2⟩
  · exact Or.inl e
  · have : g' = g := by injection e with e _ _; injection e with e; injection e with e; exact e.symm
    exact Or.inr ⟨g', c', cur, e, this ▸ HB.out, e2⟩
end Go.Proofs.Ytedpkjlhcpjblaa
