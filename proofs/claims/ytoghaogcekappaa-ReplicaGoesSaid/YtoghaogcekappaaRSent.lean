/-
  The law's cluster: messages in flight that come and go; marks that are set anew.
-/
import Derived.Test.YtoghaogcekappaaRDoneM
import Derived.Test.YtoghaogcekappaaRGo
namespace Go.Proofs.Ytoghaogcekappaa
set_option maxRecDepth 100000
open Go Go.RowKit Rp

theorem sizeMsgs (wx : World) : ((sizeOf (Try.prog.elem 26)).run Try.prog wx) = .ok 9 wx := by
  obtain ⟨i0, hi, hz0, hz1, hz2⟩ := info_parts infoMsg
  have e : Try.prog.elem 26 = 39 := by kernel_rfl
  rw [e]; simp [sizeOf, typeInfo, hi, hz1]
theorem msg_from (a : Option Addr) (n c k : Nat) (h : k ≤ n) : ∃ A, (∀ wx : World, (Instr.slice 26 (.slice a n c) (some (.int .i64 (k : Int))) none none).run Try.prog wx = .ok (.slice A (n - k) (c - k)) wx) ∧ (k < c → A = a.map (·.add (k * 9))) := by
  refine ⟨if c = k then a else a.map (·.add (k * 9)), fun wx => ?_, fun h => by simp [show c ≠ k by omega]⟩
  have hs := run_slice_l (P := Try.prog) wx 26 a n c Try.underlying26 .i64 k (by omega) (by omega)
  rw [hs, sizeMsgs wx]
  simp [Result.andThen, sliced]
theorem msg_to (a : Option Addr) (n c h : Nat) (h2 : h ≤ c) (wx : World) : (Instr.slice 26 (.slice a n c) none (some (.int .i64 (h : Int))) none).run Try.prog wx = .ok (.slice a h c) wx := by
  have hs := run_slice_h (P := Try.prog) wx 26 a n c Try.underlying26 .i64 h (by omega) (by omega)
  rw [hs, sizeMsgs wx]
  cases a <;> simp [Result.andThen, sliced, Addr.add]
theorem Src.firstM {G : Nat → Prop} {w : World} {a : Option Addr} {c : Nat} {l : List PM} (h : Src G w a c l.length (msgsV l)) {n : Nat} (hn : n ≤ l.length) : Src G w a c n (msgsV (l.take n)) := by
  refine ⟨by have := h.1; omega, fun h0 => ?_⟩
  obtain ⟨b, off, h1, h2, h3⟩ := h.2 (by omega)
  refine ⟨b, off, h1, h2, fun j u hu => ?_⟩
  rw [← msgsV_take, List.getElem?_take] at hu
  split at hu
  · exact h3 _ _ hu
  · cases hu
theorem Src.restM {G : Nat → Prop} {w : World} {a : Option Addr} {c : Nat} {l : List PM} (h : Src G w a c l.length (msgsV l)) {A : Option Addr} {k : Nat} (hA : k < c → A = a.map (·.add (k * 9))) (hk : k ≤ l.length) : Src G w A (c - k) (l.length - k) (msgsV (l.drop k)) := by
  refine ⟨by have := h.1; omega, fun h0 => ?_⟩
  obtain ⟨b, off, h1, h2, h3⟩ := h.2 (by omega)
  have := h.1
  refine ⟨b, off + k * 9, by rw [hA (by omega), h1, Option.map_some, Lib.add_plain], h2, fun j u hu => ?_⟩
  rw [← msgsV_drop, List.getElem?_drop] at hu
  have := h3 _ _ hu
  rwa [← Nat.add_assoc] at this
section
variable {w w' : World} {b : Nat} {t : Nat → Nat} {x x' : Cl} {m : CM}
theorem Moved.turn {t1 : Nat → Nat} (h : Moved w w' b t1 x') (e : ∀ j, j < w.heap.size → t1 j = t j) : Moved w w' b t x' := by
  obtain ⟨t', m', h1, h2, h3⟩ := h
  exact ⟨t', m', fun j hj => (h1 j hj).trans (e j hj), h2, h3.mono (fun j hj q => by rw [← e j hj]; exact q)⟩
/-- New blocks have the mark n. -/
def newT (w : World) (t : Nat → Nat) (n : Nat) : Nat → Nat := fun j => if j < w.heap.size then t j else n
theorem newT_old {n j : Nat} (h : j < w.heap.size) : newT w t n j = t j := if_pos h
theorem newT_new {n j : Nat} (h : w.heap.size ≤ j) : newT w t n j = n := if_neg (by omega)
/-- One more message. -/
theorem CluIs.more (h : CluIs w b t x m) {p : PM} (hp : p.ok (fun j => t j = 0) w) (hs : Sml p.m.rs) (hL : m.ps.length ≤ 1000) :
    ∃ a c w2 t' m', (Builtin.append_ #[26, 26] 26 #[.slice m.xa m.ps.length m.xc, .slice (some ⟨w.heap.size, 0, none⟩) 1 1]).run Try.prog (w.alloc p.obj) = .ok (.slice a (m.ps.length + 1) c) w2 ∧
      (∀ j, j < w.heap.size → t' j = t j) ∧ CluIs (w2.setCell ⟨b, 2, none⟩ (.slice a (m.ps.length + 1) c)) b t' { x with sent := x.sent ++ [p.m] } m' ∧ Kept (fun j => t j = 4) w w2 := by
  have hA : Below w.heap.size w (w.alloc p.obj) := below_new w _
  have hsrc : Src (fun j => j = w.heap.size) (w.alloc p.obj) (some ⟨w.heap.size, 0, none⟩) 1 [p].length (msgsV [p]) := PM.at.src (show PM.at p (w.alloc p.obj) w.heap.size from heap_alloc_new w _) rfl
  obtain ⟨a, c, w2, hr, ho, hb, hk⟩ := app_msgs (w.alloc p.obj) 0 _ m.ps (h.sent.on hA) _ _ [p] hsrc (by simp; omega) (Nat.zero_le _)
  have el : (m.ps ++ [p]).length = m.ps.length + 1 := by simp
  have ho : MsgRow w2 0 (.slice a (m.ps.length + 1) c) (m.ps ++ [p]) := ho
  have hb : (Value.slice a (m.ps.length + 1) c).ownBlock = _ ∨ ∃ y, (Value.slice a (m.ps.length + 1) c).ownBlock = some y ∧ _ := hb
  have hk4 : Kept (fun j => t j = 4) w w2 := (Kept.below hA).trans hk (fun i hi e => h.tx i e)
  have e1 : ∀ j, j < w.heap.size → newT w t 4 j = t j := fun j hj => newT_old hj
  have hm := h.mark e1
  have hk4' : Kept (fun j => newT w t 4 j = 4) w w2 := hk4.mono (fun j hj e => (e1 j hj).trans e)
  rw [← el] at ho hb
  have hfl := hm.flight hk4' ho (fun j e => ?_) (fun q hq => ?_) (fun q hq => ?_)
  · refine ⟨a, c, w2, newT w t 4, { m with xa := a, xc := c, ps := m.ps ++ [p] }, hr, e1, ?_, hk4⟩
    rw [el] at hfl
    have es : (m.ps ++ [p]).map PM.m = x.sent ++ [p.m] := by rw [List.map_append, h.ms]; rfl
    rw [es] at hfl
    exact hfl
  · rcases hb with q | ⟨y, q, hy⟩
    · exact hm.tx j (by rw [← q]; exact e)
    · rw [q] at e
      injection e with e
      exact newT_new (by simp at hy; omega)
  · rcases List.mem_append.1 hq with hq | hq
    · exact (hm.ok q hq).kept hk4' (fun j _ e3 e4 => by have e3 : newT w t 4 j = 0 := e3; omega)
    · obtain rfl := List.mem_singleton.1 hq
      have h1 : q.ok (fun j => newT w t 4 j = 0) w := Src.mono hp (fun j hj e => (e1 j hj).trans e) recs_some
      exact h1.kept hk4' (fun j _ e3 e4 => by have e3 : newT w t 4 j = 0 := e3; omega)
  · rcases List.mem_append.1 hq with hq | hq
    · exact h.sml q hq
    · obtain rfl := List.mem_singleton.1 hq
      exact hs
/-- One message less. -/
theorem CluIs.less (h : CluIs w b t x m) {n : Nat} (hn : n < m.ps.length) (hL : m.ps.length ≤ 1000) {A : Option Addr} (hA : n + 1 < m.xc → A = m.xa.map (·.add ((n + 1) * 9))) :
    ∃ a1 c1 w1 a2 c2 w2 t' m', (Builtin.append_ #[26, 26] 26 #[.slice (some ⟨w.heap.size, 0, none⟩) 0 0, .slice m.xa n m.xc]).run Try.prog (w.alloc (.cells #[] 39)) = .ok (.slice a1 n c1) w1 ∧
      (Builtin.append_ #[26, 26] 26 #[.slice a1 n c1, .slice A (m.ps.length - (n + 1)) (m.xc - (n + 1))]).run Try.prog w1 = .ok (.slice a2 (n + (m.ps.length - (n + 1))) c2) w2 ∧
      (∀ j, j < w.heap.size → t' j = t j) ∧ CluIs (w2.setCell ⟨b, 2, none⟩ (.slice a2 (n + (m.ps.length - (n + 1))) c2)) b t' { x with sent := x.sent.eraseIdx n } m' ∧ Below w.heap.size w w1 ∧ Below w.heap.size w w2 := by
  have hb0 := below_new w (.cells #[] 39)
  have hnew : MsgRow (w.alloc (.cells #[] 39)) w.heap.size (.slice (some ⟨w.heap.size, 0, none⟩) 0 0) [] := World.ownsRow_made w #[] 0 (Nat.le_refl _) (Nat.zero_le _) rfl
  have hsrc : Src (fun _ => True) w m.xa m.xc m.ps.length (msgsV m.ps) := h.sent.src (fun _ _ => trivial)
  have hf := hsrc.firstM (Nat.le_of_lt hn)
  have hd := hsrc.restM (A := A) (k := n + 1) hA (by omega)
  have e1 : (m.ps.take n).length = n := by rw [List.length_take]; omega
  have e2 : (m.ps.drop (n + 1)).length = m.ps.length - (n + 1) := List.length_drop
  obtain ⟨a1, c1, w1, hr1, ho1, _, hk1⟩ := app_msgs (w.alloc (.cells #[] 39)) w.heap.size _ [] hnew m.xa m.xc (m.ps.take n) (by rw [e1]; exact hf.on hb0) (by rw [e1]; simp; omega) (by simp)
  simp only [List.length_nil, Nat.zero_add, List.nil_append] at hr1 ho1
  rw [e1] at hr1 ho1
  have hbel1 : Below w.heap.size w w1 := hb0.trans (hk1.toBelow (by simp) (fun k hk => by simp [Value.ownBlock] at hk; omega))
  obtain ⟨a2, c2, w2, hr2, ho2, _, hk2⟩ := app_msgs w1 w.heap.size _ (m.ps.take n) ho1 A (m.xc - (n + 1)) (m.ps.drop (n + 1)) (by rw [e2]; exact hd.on hbel1) (by rw [e1, e2]; omega) hbel1.size
  rw [e1, e2] at hr2 ho2
  have hbel2 : Below w.heap.size w w2 := hbel1.trans (hk2.toBelow hbel1.size (fun k hk => ho1.above hk))
  have e3 : ∀ j, j < w.heap.size → newT w t 4 j = t j := fun j hj => newT_old hj
  have hm := h.mark e3
  have el : (m.ps.take n ++ m.ps.drop (n + 1)).length = n + (m.ps.length - (n + 1)) := by rw [List.length_append, e1, e2]
  have ho0 := ho2.low (Nat.zero_le _)
  rw [← el] at ho0 ho2
  have hsub : ∀ q ∈ m.ps.take n ++ m.ps.drop (n + 1), q ∈ m.ps := fun q hq => (List.mem_append.1 hq).elim List.mem_of_mem_take List.mem_of_mem_drop
  have hfl := hm.flight (Kept.below hbel2) ho0 (fun j e => newT_new (ho2.above e)) (fun q hq => (hm.ok q (hsub q hq)).on hbel2) (fun q hq => h.sml q (hsub q hq))
  have es : (m.ps.take n ++ m.ps.drop (n + 1)).map PM.m = x.sent.eraseIdx n := by
    rw [← List.eraseIdx_eq_take_drop_succ, ← h.ms]
    rw [List.eraseIdx_eq_take_drop_succ, List.eraseIdx_eq_take_drop_succ, List.map_append, List.map_take, List.map_drop]
  rw [el, es] at hfl
  exact ⟨a1, c1, w1, a2, c2, w2, newT w t 4, _, hr1, hr2, e3, hfl, hbel1, hbel2⟩
/-- A result beside a cluster: new blocks are free. -/
theorem CluIs.fresh (h : CluIs w b t x m) {v : Value} {o : Out} (hv : OutIs (fun j => t j = 0) w v o) : CluIs w b (newT w t 0) x m ∧ OutIs (fun j => newT w t 0 j = 0) w v o :=
  ⟨h.mark (fun _ hj => newT_old hj), hv.mono2 (fun _ hj e => (newT_old hj).trans e)⟩
theorem startC_some {i : Int} (h : startC x i = some x') : ∃ r, newR i (x.hd i) (x.lg i) = some r ∧ x' = { x with st := upd x.st i 0, r := upd x.r i r } := by
  unfold startC at h
  cases hr : newR i (x.hd i) (x.lg i) with
  | none => rw [hr] at h; cases h
  | some r => rw [hr] at h; injection h with h; exact ⟨r, rfl, h.symm⟩
theorem start_any (h : CluIs w b t x m) {k : Nat} (hk : k < 3) (hl : Sml (x.lg k)) (hx : startC x k = some x') :
    Calls Try.prog 50 #[.pointer (some ⟨b, 0, none⟩), .int .i64 k] w fun e w' => e = .returned (.bool true) ∧ Hid (Moved w w' b t x') := by
  obtain ⟨r, hr, rfl⟩ := startC_some hx
  exact start_c h hk hl hr
end
theorem upd_self {α : Type} (f : Int → α) (k : Int) : upd f k (f k) = f := by
  funext j
  by_cases e : j = k
  · subst e; exact upd_same _ _ _
  · exact upd_ne _ _ e
end Go.Proofs.Ytoghaogcekappaa
