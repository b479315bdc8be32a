/-
  ReplicaSafe: the walk.
-/
import Derived.Test.YtoghaogcekappaaRLaw
import Derived.BigRegion
namespace Go.Proofs.Ytoghaogcekappaa
set_option maxRecDepth 100000
open Go Go.RowKit Rp

/-! ### Terms, and who led in them -/
def ldsV (l : List (Int × Int)) : List Value := l.flatMap fun p => [.int .i64 p.1, .int .i64 p.2]
theorem ldsV_app (a b : List (Int × Int)) : ldsV (a ++ b) = ldsV a ++ ldsV b := by simp [ldsV]
theorem ldsV_get (l : List (Int × Int)) : ∀ (k : Nat) (p : Int × Int), l[k]? = some p → (ldsV l)[k * 2]? = some (.int .i64 p.1) ∧ (ldsV l)[k * 2 + 1]? = some (.int .i64 p.2) := by
  induction l with
  | nil => intro k p h; simp at h
  | cons a l ih =>
    intro k p h
    have e : ldsV (a :: l) = [.int .i64 a.1, .int .i64 a.2] ++ ldsV l := by simp [ldsV]
    rw [e]
    cases k with
    | zero =>
      simp at h
      subst h
      exact ⟨rfl, rfl⟩
    | succ k =>
      obtain ⟨h1, h2⟩ := ih k p (by simpa using h)
      refine ⟨?_, ?_⟩
      · rw [List.getElem?_append_right (by simp; omega), ← h1]
        congr 1
        simp
        omega
      · rw [List.getElem?_append_right (by simp; omega), ← h2]
        congr 1
        simp
        omega
theorem infoHard8 : (Try.prog.info? 23).map (fun i => (i.zero, i.size, i.bytes)) = some (some (.agg #[.int .i64 0, .int .i64 0]), 2, 16) := by kernel_rfl
def LdRow (w : World) (base : Nat) (v : Value) (l : List (Int × Int)) : Prop := w.ownsRow base 23 2 v l.length (ldsV l)
theorem app_lead (w : World) (base : Nat) (v : Value) (l : List (Int × Int)) (h : LdRow w base v l) (p : Int × Int) (hn : l.length ≤ 1000) (hb : base ≤ w.heap.size) :
    ∃ a c w', (Builtin.append_ #[57, 57] 57 #[v, .slice (some ⟨w.heap.size, 0, none⟩) 1 1]).run Try.prog (w.alloc (.cells #[.int .i64 p.1, .int .i64 p.2] 23)) = .ok (.slice a (l.length + 1) c) w' ∧
      LdRow w' base (.slice a (l.length + 1) c) (l ++ [p]) ∧ ((Value.slice a (l.length + 1) c).ownBlock = v.ownBlock ∨ ∃ y, (Value.slice a (l.length + 1) c).ownBlock = some y ∧ w.heap.size < y) ∧ Kept (fun k => v.ownBlock = some k) w w' := by
  obtain ⟨i0, hi0, hz0, hz1, hz2⟩ := info_parts infoHard8
  have hA := below_new w (.cells #[.int .i64 p.1, .int .i64 p.2] 23)
  obtain ⟨v5, w5, hr, hown5, hgr5, hbl5⟩ := run_append_any_own (P := Try.prog) (w.alloc (.cells #[.int .i64 p.1, .int .i64 p.2] 23)) base 57 57 23 i0 _ 2 16 Try.underlying57 hi0 hz0 hz1 hz2 rfl (by decide) v l.length (ldsV l) (own_kept h (Kept.below (S := fun _ => False) hA) (fun _ _ e => e))
    (some ⟨w.heap.size, 0, none⟩) 1 1 (ldsV [p]) rfl (fun _ => ⟨_, rfl, fun j u hu => by
      rw [Lib.add_plain, Lib.cell_of_heap (heap_alloc_new w _), Nat.zero_add]
      simpa [ldsV] using hu⟩) (fun u hu => by simp [ldsV] at hu; rcases hu with rfl | rfl <;> rfl) (by unfold maxLen; omega) (by omega) (by have := hA.size; omega)
  obtain ⟨a, c, rfl, _⟩ := own_shape (own_base hown5)
  have hown : LdRow w5 base (.slice a (l.length + 1) c) (l ++ [p]) := by unfold LdRow; rw [ldsV_app, List.length_append]; exact hown5
  refine ⟨a, c, w5, hr, hown, ?_, (Kept.below hA).trans (Kept.grown hgr5 (fun k e => e)) (fun _ _ e => e)⟩
  rcases hbl5 with e | e
  · exact Or.inl e
  · exact Or.inr ⟨_, e, by simp⟩
theorem lead_cells {w : World} {base : Nat} {a : Option Addr} {c : Nat} {l : List (Int × Int)} (h : LdRow w base (.slice a l.length c) l) {k : Nat} {p : Int × Int} (hp : l[k]? = some p) : ∃ g, a = some ⟨g, 0, none⟩ ∧ w.cell? ⟨g, k * 2, none⟩ = some (.int .i64 p.1) ∧ w.cell? ⟨g, k * 2 + 1, none⟩ = some (.int .i64 p.2) := by
  have hk : k < l.length := (List.getElem?_eq_some_iff.1 hp).1
  obtain ⟨g, cur, e1, _, e3, e4⟩ := own_blk h (by omega)
  obtain ⟨q1, q2⟩ := ldsV_get l k p hp
  exact ⟨g, e1, by rw [Lib.cell_of_heap e3]; exact e4 _ _ q1, by rw [Lib.cell_of_heap e3]; exact e4 _ _ q2⟩
/-- The state of the law's loop. -/
structure Ft (w0 w : World) (b : Nat) (s : St) (x : Cl) (t : Nat → Nat) (m : CM) (v : Value) (ls : List (Int × Int)) (ka : Option Addr) (kc : Nat) (known : List Rec) (term : Int) : Prop where
  cz : Cz w0 w b x t m
  sim : Sim s x
  len : x.sent.length ≤ 300
  lrow : LdRow w w0.heap.size v ls
  l9 : ∀ j, v.ownBlock = some j → t j = 9
  lds : ∀ p ∈ ls, s.ldr p.1 = p.2 ∧ p.2 ≠ -1
  ksrc : Src (fun j => t j = 8) w ka kc known.length (recsV known)
  kn : Known s known term
  kl : known.length ≤ 4000
section
variable {w0 w w' : World} {b : Nat} {s s' : St} {x x' : Cl} {t : Nat → Nat} {m : CM} {v : Value} {ls : List (Int × Int)} {ka : Option Addr} {kc : Nat} {known : List Rec} {term : Int}
theorem id3 {k : Nat} (h : k < 3) : isId (k : Int) := by unfold isId; omega
theorem Ft.on (h : Ft w0 w b s x t m v ls ka kc known term) (hb : Below w.heap.size w w') : Ft w0 w' b s x t m v ls ka kc known term := ⟨h.cz.on hb, h.sim, h.len, own_kept h.lrow (Kept.below (S := fun _ => False) hb) (fun _ _ e => e), h.l9, h.lds, h.ksrc.on hb, h.kn, h.kl⟩
theorem Ft.mark (h : Ft w0 w b s x t m v ls ka kc known term) {n : Nat} : Ft w0 w b s x (newT w t n) m v ls ka kc known term :=
  ⟨⟨h.cz.low, fun j hj => (newT_old (Nat.lt_of_lt_of_le hj h.cz.low.size)).trans (h.cz.t0 j hj), h.cz.clu.mark (fun _ hj => newT_old hj)⟩, h.sim, h.len, h.lrow, fun j e => (newT_old ((own_base h.lrow).lt j e).2).trans (h.l9 j e), h.lds, h.ksrc.mono (fun _ hj e => (newT_old hj).trans e) recs_some, h.kn, h.kl⟩
theorem Ft.moved (h : Ft w0 w b s x t m v ls ka kc known term) {k who n : Int} {d : List UInt8} (ex : stepC x k who n d = some x') (hS : Sim s' x') (hE : Ext s s') (hm : Moved w w' b t x') : ∃ t' m', Ft w0 w' b s' x' t' m' v ls ka kc known term := by
  obtain ⟨t', m', c, h1, h2⟩ := h.cz.moved hm
  have hsrc : Src (fun j => t j = 8 ∧ j < w.heap.size) w ka kc known.length (recsV known) := h.ksrc.mono (fun j hj e => ⟨e, hj⟩) recs_some
  exact ⟨t', m', c, hS, len_step h.len ex, own_kept h.lrow h2 (fun j e q => by have := h.l9 j e; omega), fun j e => (h1 j ((own_base h.lrow).lt j e).2).trans (h.l9 j e), fun p hp => ⟨by rw [hE.ldr _ (by rw [(h.lds p hp).1]; exact (h.lds p hp).2)]; exact (h.lds p hp).1, (h.lds p hp).2⟩,
    (hsrc.kept h2 (fun j _ e q => by have e : t j = 8 ∧ j < w.heap.size := e; omega)).mono' (fun j e => (h1 j e.2).trans e.1), h.kn.ext hE, h.kl⟩
/-- One more leader. -/
theorem Ft.lead (h : Ft w0 w b s x t m v ls ka kc known term) {a : Option Addr} {c : Nat} {l : List Rec} (hl : Src (fun j => t j = 8) w a c l.length (recsV l)) (p : Int × Int) (hp : s.ldr p.1 = p.2 ∧ p.2 ≠ -1) (hn : ls.length ≤ 1000) :
    ∃ qa qc w2, (Builtin.append_ #[57, 57] 57 #[v, .slice (some ⟨w.heap.size, 0, none⟩) 1 1]).run Try.prog (w.alloc (.cells #[.int .i64 p.1, .int .i64 p.2] 23)) = .ok (.slice qa (ls.length + 1) qc) w2 ∧
      Hid ((∃ t', Ft w0 w2 b s x t' m (.slice qa (ls ++ [p]).length qc) (ls ++ [p]) ka kc known term ∧ Src (fun j => t' j = 8) w2 a c l.length (recsV l)) ∧ Kept (fun j => v.ownBlock = some j) w w2) := by
  obtain ⟨qa, qc, w2, q1, q2, q3, q4⟩ := app_lead w w0.heap.size v ls h.lrow p hn h.cz.low.size
  have el : (ls ++ [p]).length = ls.length + 1 := by simp
  rw [← el] at q2 q3
  refine ⟨qa, qc, w2, q1, Lib.hid ⟨⟨newT w t 9, ⟨h.cz.own (q4.mono (fun j _ e => ⟨own_above h.lrow e, h.l9 j e⟩)), h.sim, h.len, q2, fun j e => ?_, fun y hy => ?_, ?_, h.kn, h.kl⟩, ?_⟩, q4⟩⟩
  · rcases q3 with q | ⟨y, q, hy⟩
    · have e' : v.ownBlock = some j := by rw [← q]; exact e
      rw [newT_old ((own_base h.lrow).lt j e').2]
      exact h.l9 j e'
    · rw [q] at e
      injection e with e
      exact newT_new (by omega)
  · rcases List.mem_append.1 hy with hy | hy
    · exact h.lds y hy
    · obtain rfl := List.mem_singleton.1 hy
      exact hp
  · have hsrc : Src (fun j => t j = 8 ∧ j < w.heap.size) w ka kc known.length (recsV known) := h.ksrc.mono (fun j hj e => ⟨e, hj⟩) recs_some
    exact (hsrc.kept q4 (fun j _ e q => by have := h.l9 j q; have e : t j = 8 ∧ j < w.heap.size := e; omega)).mono' (fun j e => (newT_old e.2).trans e.1)
  · have hsrc : Src (fun j => t j = 8 ∧ j < w.heap.size) w a c l.length (recsV l) := hl.mono (fun j hj e => ⟨e, hj⟩) recs_some
    exact (hsrc.kept q4 (fun j _ e q => by have := h.l9 j q; have e : t j = 8 ∧ j < w.heap.size := e; omega)).mono' (fun j e => (newT_old e.2).trans e.1)
theorem Rp.Known.mono {known : List Rec} {p q : Int} (h : Known s known p) (hq : p ≤ q) : Known s known q := by
  rcases h with h | ⟨T, n, a, b, c, d⟩
  · exact Or.inl h
  · exact Or.inr ⟨T, n, a, b, by omega, d⟩
/-- More is known. -/
theorem Ft.learn (h : Ft w0 w b s x t m v ls ka kc known term) {a : Option Addr} {c : Nat} {l : List Rec} (hl : Src (fun j => t j = 8) w a c l.length (recsV l)) {n : Nat} (hn : n ≤ l.length) (hl4 : l.length ≤ 4000) {tm : Int} (hk : Known s (l.take n) tm) : Ft w0 w b s x t m v ls a c (l.take n) (max term tm) :=
  ⟨h.cz, h.sim, h.len, h.lrow, h.l9, h.lds, by
    have e : (l.take n).length = n := by rw [List.length_take]; omega
    rw [e]; exact hl.first hn, hk.mono (by omega), by rw [List.length_take]; omega⟩
/-- The log of a replica. -/
theorem Ft.log (h : Ft w0 w b s x t m v ls ka kc known term) {k : Nat} (hk : k < 3) : Calls Try.prog 24 #[.pointer (some ⟨m.p k, 0, none⟩)] w fun e w' => ∃ a c, e = .returned (.slice a (x.r k).l.length c) ∧ Hid (∃ t', Ft w0 w' b s x t' m v ls ka kc known term ∧ Src (fun j => t' j = 8) w' a c (x.r k).l.length (recsV (x.r k).l)) := by
  refine (log_c (h.cz.clu.rep k hk)).mono (fun _ w' hh => ?_)
  obtain ⟨a, c, e1, hr, hb⟩ := hh
  exact ⟨a, c, e1, Lib.hid ⟨newT w t 8, h.mark.on hb, hr.src (fun j e => newT_new (hr.above e))⟩⟩
end
set_option maxHeartbeats 4000000 in
set_option linter.unusedSimpArgs false in
theorem safe_law (a0 : Option Addr) (c0 : Nat) (l : List Op8) (W : World) (hlen : l.length ≤ 9223372036854775807) (hcell : ∀ i x, l[i]? = some x → ∃ b off, a0 = some ⟨b, off, none⟩ ∧ OpRow8 W b (off + i * 4) x) : Calls Try.prog 4 #[.slice a0 l.length c0] W fun e w' => e = .returned (.bool true) ∧ Below W.heap.size W w' := by
  have HCELL := Lib.hid (fun (w1 : World) (hb : Below W.heap.size W w1) (i : Nat) (o : Op8) (hi : l[i]? = some o) => (show ∃ b' off, a0 = some ⟨b', off, none⟩ ∧ Hid (OpRow8 w1 b' (off + i * 4) o) from by
    obtain ⟨b', off, h1, h2⟩ := hcell i o hi
    exact ⟨b', off, h1, Lib.hid (h2.on hb)⟩))
  have HO := Lib.hid (show OpsIn8 W (.slice a0 l.length c0) l from ⟨hlen, a0, c0, rfl, hcell⟩)
  obtain ⟨L, hL⟩ : ∃ L, l.length = L := ⟨_, rfl⟩
  rw [hL] at HO hlen ⊢
  have HLn := Lib.hid hL
  clear hcell hL
  go_enter Try.func4, Try.ntmps4
  go_wp2_with fail
  refine (small_c W).mono ?_
  rintro e w1 ⟨rfl, hb1⟩
  have HB1 := Lib.hid hb1
  clear hb1
  go_wp2_with fail
  refine (begin_c w1).mono ?_
  rintro e w2 ⟨b, rfl, HC⟩
  go_wp2_with fail
  obtain ⟨t2, m2, hcz⟩ := HC.out
  have HZ := Lib.hid hcz
  clear HC hcz
  refine (few_c _ l 150 w2 ((HO.out.on HB1.out).on HZ.out.low)).mono ?_
  rintro e w3 ⟨rfl, hw⟩
  rw [hw]
  clear hw
  cases hfew : few8 l 150 with
  | false =>
    clear hfew
    go_wp2_with fail
    go_ret
    exact ⟨rfl, HB1.out.trans (HZ.out.low.mono HB1.out.size)⟩
  | true =>
    have hL150 : L ≤ 150 := by have h1 := (few8_len hfew).1; rw [HLn.out] at h1; exact h1
    clear hfew
    have HV0 := Lib.hid (show ∃ s x t m, Ft w1 w2 b s x t m (.slice none 0 0) [] none 0 [] 0 from ⟨s0, beginC, t2, m2, HZ.out, begin_sim, Nat.zero_le _, World.ownsRow_nil _ _ _ _, (fun j e => by cases e), (fun p hp => by cases hp), Src.nil _ _, Or.inl rfl, Nat.zero_le _⟩)
    clear HZ HO
    go_wp2_with fail
    go_loopw [5, 6, 7, 8] (fun v5 v6 v7 v8 wr => ∃ (i : Nat) (qa : Option Addr) (qc : Nat) (ls : List (Int × Int)) (ka : Option Addr) (kc : Nat) (known : List Rec) (term : Int), i ≤ L ∧ v5 = .slice qa ls.length qc ∧ v6 = .slice ka known.length kc ∧ v7 = .int .i64 term ∧ v8 = .int .i64 (i : Int) ∧ Hid (ls.length ≤ 3 * i ∧ ∃ s x t m, Ft w1 wr b s x t m (.slice qa ls.length qc) ls ka kc known term)) (fun _ _ _ v8 _ => L - (intOf v8).toNat)
    case atStart => exact ⟨0, none, 0, [], none, 0, [], 0, Nat.zero_le _, rfl, rfl, rfl, rfl, Lib.hid ⟨Nat.zero_le _, HV0.out⟩⟩
    case round =>
      obtain ⟨i, qa, qc, ls, ka, kc, known, term, hi, rfl, rfl, rfl, rfl, HV⟩ := hrel
      clear HV0
      obtain ⟨wa, hwa⟩ : ∃ wa, wa = wr := ⟨_, rfl⟩
      subst hwa
      by_cases hiL : i < L
      · have hiL' : (i : Int) < (L : Int) := by omega
        obtain ⟨hls, s, x, t, m, hv⟩ := HV.out
        clear HV
        obtain ⟨o, ho⟩ : ∃ o, l[i]? = some o := ⟨l[i]'(by have := HLn.out; omega), List.getElem?_eq_getElem _⟩
        obtain ⟨ob, off, rfl, HOR⟩ := HCELL.out w1 HB1.out i o ho
        obtain ⟨o0, o1, o2, o3, hfit⟩ := HOR.out.on hv.cz.low
        obtain ⟨x', s', ex, hS', hE⟩ := step_next hv.sim (o.k % 16) o.n o.q o.s
        have QST := Lib.hid ((step_c hv.cz.clu (hv.sim.nice hv.len) o hfit ex).mono (R' := fun e w4 => e = .returned (.bool true) ∧ Hid (∃ t m, Ft w1 w4 b s' x' t m (.slice qa ls.length qc) ls ka kc known term)) (fun e w4 hh => ⟨hh.1, Lib.hid (hv.moved ex hS' hE hh.2.out)⟩))
        unfold opV8 at QST
        have HLS := Lib.hid hls
        clear hv ho HOR hfit ex hS' hE hls
        go_wp2_with ((with_reducible refine QST.out.mono ?_); rintro e w4 ⟨rfl, HV4⟩)
        obtain ⟨t4, m4, hv4⟩ := HV4.out
        have HV5 := Lib.hid (show ls.length ≤ 3 * i + 0 ∧ ∃ t, Ft w1 w4 b s' x' t m4 (.slice qa ls.length qc) ls ka kc known term from ⟨by have := HLS.out; omega, t4, hv4⟩)
        clear HV4 QST o0 o1 o2 o3 hv4 HLS
        go_loopw [5, 6, 7, 9] (fun v5 v6 v7 v9 wr => ∃ (k : Nat) (qa : Option Addr) (qc : Nat) (ls : List (Int × Int)) (ka : Option Addr) (kc : Nat) (known : List Rec) (term : Int), k ≤ 3 ∧ v5 = .slice qa ls.length qc ∧ v6 = .slice ka known.length kc ∧ v7 = .int .i64 term ∧ v9 = .int .i64 (k : Int) ∧ Hid (ls.length ≤ 3 * i + k ∧ ∃ t, Ft w1 wr b s' x' t m4 (.slice qa ls.length qc) ls ka kc known term)) (fun _ _ _ v9 _ => 3 - (intOf v9).toNat)
        case atStart => exact ⟨0, qa, qc, ls, ka, kc, known, term, by decide, rfl, rfl, rfl, rfl, HV5⟩
        case round =>
          clear HV5
          obtain ⟨k, qa, qc, ls, ka, kc, known, term, hk, rfl, rfl, rfl, rfl, HV⟩ := hrel
          obtain ⟨wb, hwb⟩ : ∃ wb, wb = wr := ⟨_, rfl⟩
          subst hwb
          obtain ⟨hls, t, hv⟩ := HV.out
          have HLS := Lib.hid hls
          clear HV hls
          by_cases hk3 : k < 3
          · have hk3' : (k : Int) < 3 := by omega
            have hc := hv.cz.clu.c hk3
            have x0 := hc.x0
            have xr := hc.r
            obtain ⟨R, hR⟩ : ∃ R, x'.r (k : Int) = R := ⟨_, rfl⟩
            obtain ⟨cn, hcm, hcl, hkn⟩ := hv.sim.comm (id3 hk3)
            have hl4 := (hv.sim.okr k (id3 hk3)).l
            have QL := Lib.hid (hv.log hk3)
            have HSM := Lib.hid hv.sim
            have HREP := Lib.hid (fun (t : Nat → Nat) (Wz : World) (h : Ft w1 Wz b s' x' t m4 (.slice qa ls.length qc) ls ka kc known term) => h.cz.clu.rep k hk3)
            rw [hR] at hcm hcl hkn hl4 QL HREP
            obtain ⟨A, hA⟩ : ∃ A, R.l.length = A := ⟨_, rfl⟩
            rw [hA] at QL hcl hl4
            obtain ⟨KL, hKL⟩ : ∃ KL, known.length = KL := ⟨_, rfl⟩
            have HR := Lib.hid hR
            have HKN := Lib.hid hkn
            have HCM := Lib.hid hcm
            have HAL := Lib.hid hA
            have HKL := Lib.hid hKL
            rw [hKL]
            have QC0 := Lib.hid (fun (t : Nat → Nat) (Wz : World) (h : Ft w1 Wz b s' x' t m4 (.slice qa ls.length qc) ls ka kc known term) => (show Calls Try.prog 22 #[.pointer (some ⟨m4.p k, 0, none⟩)] Wz fun e w' => e = .returned (.int .i64 (cn : Int)) ∧ w' = Wz from by
              rw [← HCM.out]
              exact commit_c (HREP.out t Wz h)))
            have hkl4 : KL ≤ 4000 := by rw [← hKL]; exact hv.kl
            have hc1 : ¬ (A : Int) < (cn : Int) := by omega
            have hc2 : ¬ (cn : Int) < 0 := by omega
            clear hv hc hR hcm hkn hA hKL
            go_wp2_with ((with_reducible refine QL.out.mono ?_); rintro e w5 ⟨ra, rc, rfl, HL5⟩)
            obtain ⟨t5, hf5, hs5⟩ := HL5.out
            have hs5 : Src (fun j => t5 j = 8) w5 ra rc R.l.length (recsV R.l) := by rw [HAL.out]; exact hs5
            have QC5 := Lib.hid (QC0.out t5 w5 hf5)
            have hcn : cn ≤ rc := by have := hs5.1; have := HAL.out; omega
            have hsl := fun wx => rec_to ra A rc cn hcn wx
            have QB := Lib.hid (show Calls Try.prog 27 #[.slice ka KL kc, .slice ra cn rc] w5 fun e w' => e = .returned (.bool true) ∧ Hid (Below w5.heap.size w5 w') from by
              have e1 : (R.l.take cn).length = cn := by rw [List.length_take]; have := HAL.out; omega
              have hs5' := hs5.first (n := cn) (by have := HAL.out; omega)
              have q := begins_c w5 known ka kc hf5.ksrc (R.l.take cn) ra rc (by rw [e1]; exact hs5') (by have := hf5.kl; rw [e1]; omega) (known_two HSM.out.inv hf5.kn HKN.out)
              rw [e1, HKL.out] at q
              exact q.mono (fun e w' hh => ⟨hh.1, Lib.hid (by obtain ⟨n, hn⟩ := hh.2; rw [hn]; exact ⟨rfl, rfl, rfl, Nat.le_refl _, fun _ _ => rfl⟩)⟩))
            clear hf5 hs5 QL
            go_upto_if 64 with ((with_reducible refine QC5.out.mono ?_); rintro e w6 ⟨rfl, hw⟩; rw [hw]; clear hw)
            go_upto_if 71 with (first | ((with_reducible refine QC5.out.mono ?_); rintro e w6 ⟨rfl, hw⟩; rw [hw]; clear hw) | ((with_reducible refine QB.out.mono ?_); rintro e w6 ⟨rfl, HB6⟩))
            obtain ⟨t5, hf5, hs5⟩ := HL5.out
            have hs5 : Src (fun j => t5 j = 8) w5 ra rc R.l.length (recsV R.l) := by rw [HAL.out]; exact hs5
            have HF6 := Lib.hid (hf5.on HB6.out)
            have HS6 := Lib.hid (hs5.on HB6.out)
            have QC6 := Lib.hid (QC0.out t5 w6 HF6.out)
            have QH6 := Lib.hid ((hard_c (HREP.out t5 w6 HF6.out)).mono (R' := fun e w' => e = .returned (.agg #[.int .i64 R.h.tm, .int .i64 R.h.vt]) ∧ Hid (Below w6.heap.size w6 w')) (fun e w' hh => ⟨hh.1, Lib.hid hh.2⟩))
            have EF : ∀ (p q : Value) (Wz : World), (Instr.field 23 (.agg #[p, q]) 0).run Try.prog Wz = .ok p Wz := fun p q Wz => by kernel_rfl
            clear hf5 hs5 QC5 QB HL5 x0 xr HB6
            go_upto_if 76 with ((with_reducible refine QC6.out.mono ?_); rintro e w7 ⟨rfl, hw⟩; rw [hw]; clear hw)
            go_cut [6, 7] (fun v6 v7 wx => ∃ (ka : Option Addr) (kc : Nat) (known : List Rec) (term : Int), v6 = .slice ka known.length kc ∧ v7 = .int .i64 term ∧ Hid (∃ t, Ft w1 wx b s' x' t m4 (.slice qa ls.length qc) ls ka kc known term ∧ Src (fun j => t j = 8) wx ra rc R.l.length (recsV R.l)))
            case first =>
              by_cases hkc : (KL : Int) < (cn : Int)
              · go_wp2_with (first | ((with_reducible refine QC6.out.mono ?_); rintro e w7 ⟨rfl, hw⟩; rw [hw]; clear hw) | ((with_reducible refine QH6.out.mono ?_); rintro e w7 ⟨rfl, HB7⟩))
                go_meet
                have e1 : (R.l.take cn).length = cn := by rw [List.length_take]; have := HAL.out; omega
                refine ⟨ra, rc, R.l.take cn, max term R.h.tm, by rw [e1], rfl, Lib.hid ⟨t5, ((HF6.out.on HB7.out).learn (HS6.out.on HB7.out) (by have := HAL.out; omega) (by have := HAL.out; omega) HKN.out), HS6.out.on HB7.out⟩⟩
              · go_wp2_with fail
                go_meet
                exact ⟨ka, kc, known, term, by rw [HKL.out], rfl, Lib.hid ⟨t5, HF6.out, HS6.out⟩⟩
            case rest =>
            rename World => w8
            obtain ⟨ka2, kc2, known2, term2, rfl, rfl, HC8⟩ := hcut
            clear QC6 QH6 HF6 HS6 QC0 HREP hsl hc1 hc2
            obtain ⟨t8, hf8, hs8⟩ := HC8.out
            obtain ⟨KL2, hKL2⟩ : ∃ K, known2.length = K := ⟨_, rfl⟩
            rw [hKL2]
            have HKL2 := Lib.hid hKL2
            obtain ⟨role, hrole⟩ : ∃ z, R.role = z := ⟨_, rfl⟩
            have hrep8 := hf8.cz.clu.rep k hk3
            rw [HR.out] at hrep8
            have QR := Lib.hid (show Calls Try.prog 21 #[.pointer (some ⟨m4.p k, 0, none⟩)] w8 fun e w' => e = .returned (.int .i64 role) ∧ w' = w8 by rw [← hrole]; exact role_c hrep8)
            have QH8 := Lib.hid ((hard_c hrep8).mono (R' := fun e w' => e = .returned (.agg #[.int .i64 R.h.tm, .int .i64 R.h.vt]) ∧ Hid (Below w8.heap.size w8 w')) (fun e w' hh => ⟨hh.1, Lib.hid hh.2⟩))
            have HF8 := Lib.hid hf8
            have HS8 := Lib.hid hs8
            have HRL := Lib.hid hrole
            clear hf8 hs8 hrep8 hrole hKL2 HC8
            by_cases hr2 : role = 2
            · have hr2' : (role != 2) = false := by simp [hr2]
              have hlead : s'.ldr R.h.tm = (k : Int) := by
                have q := HSM.out.leads (id3 hk3) (by rw [HR.out, HRL.out, hr2])
                rw [HR.out] at q
                exact q
              have HLD := Lib.hid hlead
              have HR2 := Lib.hid hr2
              clear hr2 hlead
              go_upto_region 27 with (first | ((with_reducible refine QR.out.mono ?_); rintro e w9 ⟨rfl, hw⟩; rw [hw]; clear hw) | ((with_reducible refine QH8.out.mono ?_); rintro e w9 ⟨rfl, HB9⟩))
              obtain ⟨W10, hW10⟩ : ∃ W10, W10 = w9.alloc (.cells #[.int .i64 R.h.tm, .int .i64 (k : Int)] 23) := ⟨_, rfl⟩
              have hb10 : Below w8.heap.size w8 W10 := HB9.out.trans ((show Below w9.heap.size w9 W10 by rw [hW10]; exact below_new w9 _).mono HB9.out.size)
              have HG10 := Lib.hid (show W10.heap[w9.heap.size]? = some (.cells #[.int .i64 R.h.tm, .int .i64 (k : Int)] 23 (0, 0)) by rw [hW10]; exact box_new w9 _)
              have HF10l := Lib.hid (own_kept HF8.out.lrow (Kept.below (S := fun _ => False) HB9.out) (fun _ _ e => e))
              have HF10 := Lib.hid (HF8.out.on hb10)
              have HS10 := Lib.hid (HS8.out.on hb10)
              rw [← hW10]
              clear hW10 hb10 HF8 HS8 QH8 QR HB9
              obtain ⟨LN, hLN⟩ : ∃ n, ls.length = n := ⟨_, rfl⟩
              rw [hLN]
              have hLN5 : LN ≤ 600 := by have := HLS.out; omega
              have HLN := Lib.hid hLN
              clear hLN
              go_wp2_with fail
              go_loopw [13, 14] (fun v13 v14 wz => ∃ (fr : Bool) (n : Nat), n ≤ LN ∧ v13 = .bool fr ∧ v14 = .int .i64 (n : Int) ∧ Hid (Below W10.heap.size W10 wz)) (fun _ v14 _ => LN - (intOf v14).toNat)
              case atStart => exact ⟨true, 0, Nat.zero_le _, rfl, rfl, Lib.hid (Below.refl _ _)⟩
              case round =>
                obtain ⟨fr, n, hn, rfl, rfl, HBZ⟩ := hrel
                have hg := box_on HG10.out HBZ.out
                have g0 : wr.cell? ⟨w9.heap.size, 0, none⟩ = some (.int .i64 R.h.tm) := by rw [Lib.cell_of_heap hg]; rfl
                have g1 : wr.cell? ⟨w9.heap.size, 1, none⟩ = some (.int .i64 (k : Int)) := by rw [Lib.cell_of_heap hg]; rfl
                clear hg
                by_cases hnL : n < LN
                · have hnL' : (n : Int) < (LN : Int) := by omega
                  obtain ⟨p, hp⟩ : ∃ p, ls[n]? = some p := ⟨ls[n]'(by have := HLN.out; omega), List.getElem?_eq_getElem _⟩
                  obtain ⟨gq, hqa, q0, q1⟩ := lead_cells (own_kept HF10.out.lrow (Kept.below (S := fun _ => False) HBZ.out) (fun _ _ e => e)) hp
                  subst hqa
                  have hld := HF10.out.lds p (List.mem_of_getElem? hp)
                  by_cases hpt : p.1 = R.h.tm
                  · have hpk : p.2 = (k : Int) := by rw [← hld.1, hpt, HLD.out]
                    have hpb : (p.1 == R.h.tm) = true := by simp [hpt]
                    have hvb : (p.2 != (k : Int)) = false := by simp [hpk]
                    have E : ∀ Wz : World, (binOp .neq 23 (.agg #[.int .i64 p.1, .int .i64 p.2]) (.agg #[.int .i64 R.h.tm, .int .i64 (k : Int)])).run Try.prog Wz = .ok (.bool false) Wz := fun Wz => by rw [neq_hard]; simp [hpt, hpk]
                    clear hpt hpk hld hp
                    go_wp2_with fail
                    go_quiet (fail)
                    go_wp2_with fail
                    cases fr with
                    | true =>
                      go_quiet (fail)
                      go_wp2_with fail
                      go_roundw
                      case rel => exact ⟨_, n + 1, hnL, rfl, by go_num, Lib.hid ⟨HBZ.out.os, HBZ.out.tape, HBZ.out.output, HBZ.out.size, HBZ.out.block⟩⟩
                      case measure => simp [intOf]; omega
                    | false =>
                      go_quiet (fail)
                      go_wp2_with fail
                      go_roundw
                      case rel => exact ⟨_, n + 1, hnL, rfl, by go_num, Lib.hid ⟨HBZ.out.os, HBZ.out.tape, HBZ.out.output, HBZ.out.size, HBZ.out.block⟩⟩
                      case measure => simp [intOf]; omega
                  · have hpb : (p.1 == R.h.tm) = false := by simp [hpt]
                    have E : ∀ Wz : World, (binOp .neq 23 (.agg #[.int .i64 p.1, .int .i64 p.2]) (.agg #[.int .i64 R.h.tm, .int .i64 (k : Int)])).run Try.prog Wz = .ok (.bool true) Wz := fun Wz => by rw [neq_hard]; simp [hpt]
                    clear hpt hld hp
                    go_wp2_with fail
                    go_quiet (fail)
                    go_wp2_with fail
                    cases fr with
                    | true =>
                      go_quiet (fail)
                      go_wp2_with fail
                      go_roundw
                      case rel => exact ⟨_, n + 1, hnL, rfl, by go_num, Lib.hid ⟨HBZ.out.os, HBZ.out.tape, HBZ.out.output, HBZ.out.size, HBZ.out.block⟩⟩
                      case measure => simp [intOf]; omega
                    | false =>
                      go_quiet (fail)
                      go_wp2_with fail
                      go_roundw
                      case rel => exact ⟨_, n + 1, hnL, rfl, by go_num, Lib.hid ⟨HBZ.out.os, HBZ.out.tape, HBZ.out.output, HBZ.out.size, HBZ.out.block⟩⟩
                      case measure => simp [intOf]; omega
                · have hnL' : ¬ (n : Int) < (LN : Int) := by omega
                  cases fr with
                  | false =>
                    go_wp2_with fail
                    go_roundw
                    case rel => exact ⟨k + 1, qa, qc, ls, ka2, kc2, known2, term2, hk3, by rw [HLN.out], by rw [HKL2.out], rfl, by go_num, Lib.hid ⟨by have := HLS.out; omega, t8, HF10.out.on HBZ.out⟩⟩
                    case measure => simp [intOf]; omega
                  | true =>
                    obtain ⟨qa2, qc2, w11, hr11, HL11⟩ := (HF10.out.on HBZ.out).lead (HS10.out.on HBZ.out) (R.h.tm, (k : Int)) ⟨HLD.out, by show (k : Int) ≠ -1; omega⟩ (by have := HLN.out; omega)
                    rw [HLN.out] at hr11
                    obtain ⟨⟨t11, hf11, hs11⟩, hk11⟩ := HL11.out
                    have HLE := Lib.hid (show (ls ++ [(R.h.tm, (k : Int))]).length = LN + 1 by simp [HLN.out])
                    have HEND := Lib.hid (show ∀ Wz, Below w11.heap.size w11 Wz → Hid ((ls ++ [(R.h.tm, (k : Int))]).length ≤ 3 * i + (k + 1) ∧ ∃ t, Ft w1 Wz b s' x' t m4 (.slice qa2 (ls ++ [(R.h.tm, (k : Int))]).length qc2) (ls ++ [(R.h.tm, (k : Int))]) ka2 kc2 known2 term2) from fun Wz hb => Lib.hid ⟨by have := HLE.out; have := HLS.out; have := HLN.out; omega, t11, hf11.on hb⟩)
                    have hg11 : w11.cell? ⟨w9.heap.size, 0, none⟩ = some (.int .i64 R.h.tm) := hk11.cell g0 (fun e => Nat.lt_irrefl _ (show w9.heap.size < w9.heap.size from ((own_base HF10l.out).lt _ e).2))
                    clear hk11
                    by_cases htt : term2 < R.h.tm
                    · obtain ⟨hk1, hk2⟩ := HSM.out.contains (id3 hk3) (by rw [HR.out, HRL.out, HR2.out]) HF10.out.kn (by rw [HR.out]; exact htt)
                      rw [HR.out] at hk1 hk2
                      have QB2 := Lib.hid (show Calls Try.prog 27 #[.slice ka2 KL2 kc2, .slice ra A rc] w11 fun e w' => e = .returned (.bool true) ∧ Hid (Below w11.heap.size w11 w') from by
                        have q := begins_c w11 known2 ka2 kc2 hf11.ksrc R.l ra rc hs11 (by have := hf11.kl; have := HAL.out; omega) (by rw [Nat.min_eq_left hk1, List.take_length]; exact hk2)
                        rw [HAL.out, HKL2.out] at q
                        exact q.mono (fun e w' hh => ⟨hh.1, Lib.hid (by obtain ⟨n, hn⟩ := hh.2; rw [hn]; exact ⟨rfl, rfl, rfl, Nat.le_refl _, fun _ _ => rfl⟩)⟩))
                      have hlt : ¬ (A : Int) < (KL2 : Int) := by have := HAL.out; have := HKL2.out; omega
                      clear hk1 hk2 hf11 hs11 HL11
                      have HR11 := Lib.hid hr11
                      clear hr11
                      go_wp2_with (first | (at_builtin; refine Lib.wpList_append_run _ rfl _ _ _ _ rfl _ _ rfl rfl _ w11 HR11.out ?_) | ((with_reducible refine QB2.out.mono ?_); rintro e w12 ⟨rfl, HB12⟩))
                      go_roundw
                      case rel => exact ⟨k + 1, qa2, qc2, ls ++ [(R.h.tm, (k : Int))], ka2, kc2, known2, term2, hk3, by rw [HLE.out], by rw [HKL2.out], rfl, by go_num, HEND.out _ HB12.out⟩
                      case measure => simp [intOf]; omega
                    · clear hf11 hs11 HL11
                      have HR11 := Lib.hid hr11
                      clear hr11
                      go_wp2_with (at_builtin; refine Lib.wpList_append_run _ rfl _ _ _ _ rfl _ _ rfl rfl _ w11 HR11.out ?_)
                      go_roundw
                      case rel => exact ⟨k + 1, qa2, qc2, ls ++ [(R.h.tm, (k : Int))], ka2, kc2, known2, term2, hk3, by rw [HLE.out], by rw [HKL2.out], rfl, by go_num, HEND.out _ (Below.refl _ _)⟩
                      case measure => simp [intOf]; omega
            · have hr2' : (role != 2) = true := by simp [hr2]
              clear hr2
              go_wp2_with ((with_reducible refine QR.out.mono ?_); rintro e w9 ⟨rfl, hw⟩; rw [hw]; clear hw)
              go_roundw
              case rel => exact ⟨k + 1, qa, qc, ls, ka2, kc2, known2, term2, hk3, rfl, by rw [HKL2.out], rfl, by go_num, Lib.hid ⟨by have := HLS.out; omega, t8, HF8.out⟩⟩
              case measure => simp [intOf]; omega
          · have hk3' : ¬ (k : Int) < 3 := by omega
            have HEND := Lib.hid (show ls.length ≤ 3 * (i + 1) ∧ ∃ s x t m, Ft w1 wb b s x t m (.slice qa ls.length qc) ls ka kc known term from ⟨by have := HLS.out; omega, s', x', t, m4, hv⟩)
            clear hv
            go_wp2_with fail
            go_roundw
            case rel => exact ⟨i + 1, qa, qc, ls, ka, kc, known, term, hiL, rfl, rfl, rfl, by go_num, HEND⟩
            case measure => simp [intOf]; omega
      · have hiL' : ¬ (i : Int) < (L : Int) := by omega
        go_wp2_with fail
        go_ret
        obtain ⟨_, s, x, t, m, hv⟩ := HV.out
        exact ⟨rfl, HB1.out.trans (hv.cz.low.mono HB1.out.size)⟩
theorem safe_in (v : Value) (l : List Op8) (W : World) (h : OpsIn8 W v l) : Calls Try.prog 4 #[v] W fun e w' => e = .returned (.bool true) ∧ Below W.heap.size W w' := by
  obtain ⟨h1, a, c, rfl, h2⟩ := h
  exact safe_law a c l W h1 h2
end Go.Proofs.Ytoghaogcekappaa
