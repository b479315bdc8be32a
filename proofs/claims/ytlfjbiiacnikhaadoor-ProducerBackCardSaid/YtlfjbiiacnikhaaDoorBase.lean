/-
  What the contracts of this seat ask of a world (the library's tables and sentinels as they are laid, and room for them), and the library's contracts in one form: a value, and of what was there nothing has turned.
-/
import Derived.Test.YtlfjbiiacnikhaaDoorShelf
import Derived.Test.YtlfjbiiacnikhaaDoorPlain
import Derived.WalkKit
import Derived.ProofKit
import Derived.WalkSmall
import Derived.OwnWalk
import Derived.Outline
import Derived.Lib.Hide
import Derived.Lib.AppendStr
namespace Go.Proofs.YtlfjbiiacnikhaaDoor
open Go Go.RowKit Go.Sort

theorem g_tab : Tryd.prog.globalNamed "internal/strconv.uint64pow10" = some 3 := by kernel_rfl
theorem g_syn : Tryd.prog.globalNamed "strconv.ErrSyntax" = some 1 := by kernel_rfl
theorem g_ran : Tryd.prog.globalNamed "strconv.ErrRange" = some 2 := by kernel_rfl

/-- The library's variables read as they are laid. -/
structure Good (w : World) : Prop where
  tab : Lib.TabIs Tryd.prog w "internal/strconv.uint64pow10" .u64 Lib.pow10Tab
  syn : ∃ tp p, w.var? Tryd.prog "strconv.ErrSyntax" = some #[.iface tp p]
  ran : ∃ tp p, w.var? Tryd.prog "strconv.ErrRange" = some #[.iface tp p]
  len : ∃ m, w.cell? ⟨0, 0, none⟩ = some (.int .i64 m)
  big : 4 ≤ w.heap.size

theorem Good.keep {B : Nat} {w w' : World} (h : Good w) (hb : Below B w w') (hB : 4 ≤ B) : Good w' := by
  obtain ⟨h1, ⟨t1, p1, h2⟩, ⟨t2, p2, h3⟩, ⟨m, h4⟩, h5⟩ := h
  refine ⟨var?_below hb g_tab (by omega) h1, ⟨t1, p1, var?_below hb g_syn (by omega) h2⟩, ⟨t2, p2, var?_below hb g_ran (by omega) h3⟩, ⟨m, ?_⟩, Nat.le_trans h5 hb.size⟩
  rw [hb.cell (show (0 : Nat) < B by omega)]
  exact h4
theorem Good.on {w w' : World} (h : Good w) (hb : Below w.heap.size w w') : Good w' := h.keep hb h.big

theorem below_grow (w : World) (k : Nat) (os : Array Obj) : Below w.heap.size w (grow (w.drewN k) os) :=
  ⟨rfl, rfl, rfl, by simp [grow, World.drewN], fun i hi => by simp [grow, World.drewN, Array.getElem?_append, hi]⟩
theorem below_drewN (w : World) (k : Nat) : Below w.heap.size w (w.drewN k) := ⟨rfl, rfl, rfl, Nat.le_refl _, fun _ _ => rfl⟩

/-! ### The library, in one form -/
theorem itoa_c (n : Int) (h : Wire.InR n) (w : World) (hg : Good w) : Calls Tryd.prog 42 #[.int .i64 n] w fun e w' => e = .returned (.string ⟨(Lib.itoa n).toArray⟩) ∧ Below w.heap.size w w' :=
  (Tryd.strconv_Itoa n h.1 h.2 w hg.tab).mono fun _ _ ⟨he, k, os, hw⟩ => ⟨he, hw ▸ below_grow w k os⟩

/-- 'found', 'before', 'after': strings.Cut at one byte. -/
def cutV (c : UInt8) (s : List UInt8) : Value := match Wire.cutAt c s with
  | some p => .tuple #[.string ⟨p.1.toArray⟩, .string ⟨p.2.toArray⟩, .bool true]
  | none => .tuple #[.string ⟨s.toArray⟩, .string ⟨#[]⟩, .bool false]
theorem cut_c (c : UInt8) (s : List UInt8) (w : World) (hs : s.length < 4294967281) (hg : Good w) : Calls Tryd.prog 51 #[.string ⟨s.toArray⟩, .string ⟨#[c]⟩] w fun e w' => e = .returned (cutV c s) ∧ Below w.heap.size w w' := by
  obtain ⟨m, hm⟩ := hg.len
  refine (Tryd.strings_Cut ⟨s.toArray⟩ ⟨#[c]⟩ m w (by show s.toArray.size < _; simpa using hs) hm).mono fun e w' ⟨he, n, hw⟩ => ⟨?_, hw ▸ below_drewN w n⟩
  rw [he]
  simp only [List.toArray, Wire.lib_cut]
  unfold cutV
  cases Wire.cutAt c s <;> rfl

theorem atoi_ok (s : List UInt8) (hs : s.length < 4294967281) (v : Int) (h : Lib.atoiAll s = .ok v) (w : World) : Calls Tryd.prog 52 #[.string ⟨s.toArray⟩] w fun e w' => e = .returned (.tuple #[.int .i64 v, .nilIface]) ∧ Below w.heap.size w w' := by
  refine (Tryd.strconv_Atoi_ok ⟨s.toArray⟩ (by show s.toArray.size ≤ _; simp; omega) v (by simpa using h) w).mono fun e w' ⟨he, hw⟩ => ⟨he, ?_⟩
  rcases hw with rfl | ⟨t, rfl⟩
  · exact Below.refl _ _
  · exact Lib.bytesWorld_below w _ t
theorem atoi_bad (s : List UInt8) (hs : s.length < 4294967281) (h : ∀ v, Lib.atoiAll s ≠ .ok v) (w : World) (hg : Good w) : Calls Tryd.prog 52 #[.string ⟨s.toArray⟩] w fun e w' => ∃ (v : Int) (N : Nat), e = .returned (.tuple #[.int .i64 v, .iface 97 (.pointer (some ⟨N, 0, none⟩))]) ∧ Below w.heap.size w w' := by
  have hz : (⟨s.toArray⟩ : ByteArray).size ≤ 281474976710656 := by show s.toArray.size ≤ _; simp; omega
  rcases ha : Lib.atoiAll s with v | _ | _
  · exact absurd ha (h v)
  · obtain ⟨tp, p, hv⟩ := hg.syn
    exact (Any.strconv_Atoi_syntax_var Tryd.laysC172 ⟨s.toArray⟩ hz (by simpa using ha) tp p w hv).mono fun e w' ⟨N, he, _, _, hb⟩ => ⟨_, N, he, hb⟩
  · obtain ⟨tp, p, hv⟩ := hg.ran
    exact (Any.strconv_Atoi_range_var Tryd.laysC172 ⟨s.toArray⟩ hz (by simpa using ha) tp p w hv).mono fun e w' ⟨N, he, _, _, hb⟩ => ⟨_, N, he, hb⟩

theorem cutPrefix_c (c : UInt8) (s : List UInt8) (w : World) : Calls Tryd.prog 53 #[.string ⟨s.toArray⟩, .string ⟨#[c]⟩] w fun e w' => e = .returned (.tuple #[.string ⟨((Wire.rClose c s).getD s).toArray⟩, .bool (Wire.rClose c s).isSome]) ∧ w = w' := by
  refine (Tryd.strings_CutPrefix ⟨s.toArray⟩ ⟨#[c]⟩ w).mono fun e w' ⟨he, hw⟩ => ⟨?_, hw.symm⟩
  rw [he]
  have e1 : (⟨s.toArray⟩ : ByteArray).data.toList = s := by simp
  have e2 : (⟨#[c]⟩ : ByteArray).data.toList = [c] := rfl
  rw [e1, e2]
  cases s with
  | nil => rfl
  | cons b r =>
    unfold Lib.trimPrefix Lib.hasPrefix Wire.rClose
    by_cases hb : b = c
    · subst hb; simp [List.isPrefixOf]
    · have : (([c] : List UInt8).isPrefixOf (b :: r)) = false := by simp [List.isPrefixOf, Ne.symm hb]
      simp [this, hb]

/-! ### A strings.Builder of the call's own -/
theorem sizeBuilder : (Tryd.prog.info? 50).map (·.size) = some 2 := by kernel_rfl
theorem liesBuilder : liesAt Tryd.prog Tryd.prog.depth 50 (2 / Tryd.prog.cellsOf 50) 0 50 1 = true := by kernel_rfl
theorem infoByte : (Tryd.prog.info? 5).map (fun i => (i.zero, i.size, i.bytes)) = some (some (.int .u8 0), 1, 1) := by kernel_rfl

theorem owned_on {w w' : World} {B : Nat} {e : TypeId} {k : Nat} {v : Value} {n : Nat} {xs : List Value} (h : w.ownsRow B e k v n xs) (hb : Below w.heap.size w w') : w'.ownsRow B e k v n xs :=
  h.kept (row := none) ⟨hb.os, hb.tape, hb.output, hb.size, fun i hi _ => hb.block i hi⟩ (by by_cases h0 : v.ownBlock = none; exact Or.inl h0; exact Or.inr h0)
theorem builder_on {w w' : World} {T e : TypeId} {B b : Nat} {p : Value} {bs : List Value} (h : Lib.BuilderAt T e B b p bs w) (hb : Below w.heap.size w w') : Lib.BuilderAt T e B b p bs w' := by
  have hlt := h.lt
  obtain ⟨hB, v, hk, hown, hne⟩ := h
  exact ⟨hB, v, (hb.block b hlt).trans hk, owned_on hown hb, hne⟩

set_option maxHeartbeats 1000000 in
set_option maxRecDepth 100000 in
theorem copyCheck_used (b : Nat) (w : World) (h0 : w.cell? ⟨b, 0, none⟩ = some (.pointer (some ⟨b, 0, none⟩))) :
    Calls Tryd.prog 41 #[.pointer (some ⟨b, 0, none⟩)] w fun e w' => e = .returned (.tuple #[]) ∧ w = w' := by
  obtain ⟨j, hj, _⟩ := Option.map_eq_some_iff.1 sizeBuilder
  go_enter Tryd.func41, Tryd.ntmps41
  go_wp2
  rw [Lib.run_neq_ptr_same w _ Tryd.underlying47 hj]
  go_wp2
  go_end0
  exact ⟨rfl, rfl⟩
set_option maxHeartbeats 1000000 in
set_option maxRecDepth 100000 in
theorem copyCheck_fresh (b : Nat) (w : World) (h0 : w.cell? ⟨b, 0, none⟩ = some (.pointer none)) (hsh : w.shape? b = some (50, 2)) (hfz : w.frozen? ⟨b, 0, none⟩ = false) :
    Calls Tryd.prog 41 #[.pointer (some ⟨b, 0, none⟩)] w fun e w' => e = .returned (.tuple #[]) ∧ w.setCell ⟨b, 0, none⟩ (.pointer (some ⟨b, 0, none⟩)) = w' := by
  obtain ⟨j, hj, hjs⟩ := Option.map_eq_some_iff.1 sizeBuilder
  go_enter Tryd.func41, Tryd.ntmps41
  go_wp2
  rw [Lib.run_to_unsafe w ⟨b, 0, none⟩ Tryd.underlying47 Tryd.underlying86 hj (by rw [hjs]; decide) hsh (Nat.zero_lt_succ 1)]
  simp only [Result.andThen]
  rw [Oper.upon_value]
  go_wp2
  rw [run_callFunc_extern Tryd.func54 (by kernel_rfl) (by kernel_rfl) (by kernel_rfl) (e := Extern.AbiNoEscape.same) (by kernel_rfl)]
  rw [Lib.run_noEscape]
  simp only [Result.andThen]
  rw [Oper.upon_value]
  go_wp2
  rw [Lib.run_from_unsafe w ⟨b, 0, none⟩ Tryd.underlying86 Tryd.underlying47 hj hsh liesBuilder]
  simp only [Result.andThen]
  rw [Oper.upon_value]
  go_wp2
  go_end0
  exact ⟨rfl, rfl⟩

/-- The builder in block b (of the call's own, from B on) holds these bytes; of what lies below B nothing has turned since w. -/
def Built (B b : Nat) (l : List UInt8) (w w' : World) : Prop := Lib.IsBuilder 50 5 B b (Lib.byteCells l) w' ∧ Below B w w'

/-- Blocks of cells that are no bytes, other than b, stand as they did. -/
def KeepsRows (b : Nat) (w w' : World) : Prop := ∀ (g : Nat) (cs : Array Value) (t : TypeId) (fz : Nat × Nat), g ≠ b → t ≠ 5 → w.heap[g]? = some (.cells cs t fz) → w'.heap[g]? = some (.cells cs t fz)
theorem KeepsRows.refl (b : Nat) (w : World) : KeepsRows b w w := fun _ _ _ _ _ _ h => h
theorem KeepsRows.trans {b : Nat} {x y z : World} (h : KeepsRows b x y) (k : KeepsRows b y z) : KeepsRows b x z := fun g cs t fz hg ht hx => k g cs t fz hg ht (h g cs t fz hg ht hx)
theorem KeepsRows.set (b o : Nat) (w : World) (v : Value) : KeepsRows b w (w.setCell ⟨b, o, none⟩ v) := fun _ _ _ _ hg _ h => (Below.heap_setCell _ _ _ _ hg).trans h
theorem KeepsRows.of {b : Nat} {w w' : World} (h : Below w.heap.size w w') : KeepsRows b w w' := fun g _ _ _ _ _ hx => (h.block g (Array.getElem?_eq_some_iff.1 hx).1).trans hx
theorem KeepsRows.alloc (b : Nat) (w : World) (o : Obj) : KeepsRows b w (w.alloc o) := .of ((Below.refl _ _).alloc (Nat.le_refl _) _)
theorem KeepsRows.grown {b B : Nat} {w w' : World} {v : Value} {n : Nat} {xs : List Value} (hg : w.grownBy w' v.ownBlock) (hown : w.ownsRow B 5 1 v n xs) : KeepsRows b w w' := by
  intro g cs t fz _ ht hx
  refine (hg.block g (Array.getElem?_eq_some_iff.1 hx).1 ?_).trans hx
  intro he
  rcases hown.2 with ⟨rfl, _⟩ | ⟨g', cap, cur, rfl, _, hh, _⟩
  · cases he
  · injection he with he
    subst he
    rw [hx] at hh
    injection hh with hh
    injection hh with _ h2
    exact ht h2

theorem copyCheck_f (B b : Nat) (l : List UInt8) (w : World) (h : Lib.IsBuilder 50 5 B b (Lib.byteCells l) w) :
    Calls Tryd.prog 41 #[.pointer (some ⟨b, 0, none⟩)] w fun e w' => e = .returned (.tuple #[]) ∧ Lib.BuilderAt 50 5 B b (.pointer (some ⟨b, 0, none⟩)) (Lib.byteCells l) w' ∧ Below B w w' ∧ KeepsRows b w w' := by
  rcases h with h | h
  · refine (copyCheck_fresh b w h.cell0 h.shape h.frozen0).mono ?_
    rintro e w' ⟨rfl, rfl⟩
    exact ⟨rfl, h.used _, (Below.refl B w).setCell (p := ⟨b, 0, none⟩) h.1 _, KeepsRows.set b 0 w _⟩
  · refine (copyCheck_used b w h.cell0).mono ?_
    rintro e w' ⟨rfl, rfl⟩
    exact ⟨rfl, h, Below.refl B _, KeepsRows.refl b _⟩
theorem Built.of {B b : Nat} {l : List UInt8} {w w' : World} (h : Lib.BuilderAt 50 5 B b (.pointer (some ⟨b, 0, none⟩)) (Lib.byteCells l) w') (hb : Below B w w') : Built B b l w w' := ⟨Or.inr h, hb⟩
theorem Built.on {B b : Nat} {l : List UInt8} {w w1 w2 : World} (h : Built B b l w w1) (hb : Below w1.heap.size w1 w2) (hB : B ≤ w1.heap.size) : Built B b l w w2 :=
  ⟨h.1.elim (fun k => Or.inl (builder_on k hb)) (fun k => Or.inr (builder_on k hb)), h.2.trans (hb.mono hB)⟩

set_option maxHeartbeats 2000000 in
set_option maxRecDepth 100000 in
theorem writeByte_f (B b : Nat) (l : List UInt8) (c : UInt8) (n : Int) (hn : n = c.toNat) (w0 w : World) (h : Built B b l w0 w) (hlen : l.length + 1 ≤ 140737488355328) (hBw : B ≤ w.heap.size) :
    Calls Tryd.prog 56 #[.pointer (some ⟨b, 0, none⟩), .int .u8 n] w fun e w' => e = .returned .nilIface ∧ Built B b (l ++ [c]) w0 w' ∧ B ≤ w'.heap.size ∧ KeepsRows b w w' := by
  obtain ⟨i0, hi, hz0, hz1, hz2⟩ := info_parts infoByte
  have HN := Lib.hid hn
  clear hn
  go_enter Tryd.func56, Tryd.ntmps56
  go_wp2_with (go_at_call 41; refine (copyCheck_f B b l _ h.1).mono ?_)
  rintro e w1 ⟨rfl, h1, hb1, hr1⟩
  obtain ⟨hB, v, hbk, hown, hne⟩ := h1
  have c0 : w1.cell? ⟨b, 0, none⟩ = some (.pointer (some ⟨b, 0, none⟩)) := by rw [Lib.cell_of_heap hbk]; rfl
  have c1 : w1.cell? ⟨b, 1, none⟩ = some v := by rw [Lib.cell_of_heap hbk]; rfl
  go_wp2_with (at_builtin; refine wpList_append_own _ rfl _ _ 48 rfl B 5 i0 (.int .u8 0) 1 1 Tryd.underlying48 hi hz0 hz1 hz2 rfl (by decide) _ _ _ rfl (hown.alloc _) ⟨w1.heap.size, 0, none⟩ 1 1 [.int .u8 n] rfl rfl ?c1 ?c2 ?c3 ?c4 ?c5 ?_)
  case c1 =>
    intro j u hj
    match j, hj with
    | 0, hj => simp at hj; subst hj; simp [Addr.add]
  case c2 => intro u hu; simp at hu; subst hu; rfl
  case c3 => rw [Lib.byteCells_length]; unfold maxLen; omega
  case c4 => rw [Lib.byteCells_length]; omega
  case c5 => have := hb1.size; simp; omega
  intro v' w2 hown' hgrow _
  have hlt : b < w1.heap.size := (Array.getElem?_eq_some_iff.1 hbk).1
  have hb2 : w2.heap[b]? = some (.cells #[.pointer (some ⟨b, 0, none⟩), v] 50 (0, 0)) := by
    rw [hgrow.block b (by simp; omega) (fun e => hne e.symm), Lib.alloc_old w1 _ b hlt]
    exact hbk
  have d0 : w2.cell? ⟨b, 0, none⟩ = some (.pointer (some ⟨b, 0, none⟩)) := by rw [Lib.cell_of_heap hb2]; rfl
  have d1 : w2.cell? ⟨b, 1, none⟩ = some v := by rw [Lib.cell_of_heap hb2]; rfl
  have f1 : w2.frozen? ⟨b, 1, none⟩ = false := Lib.frozen_of_heap hb2 1
  have hex : ∃ g cap, v' = .slice (some ⟨g, 0, none⟩) ((Lib.byteCells l).length + 1) cap := by
    rcases hown'.2 with ⟨_, h0⟩ | ⟨g, cap, cur, hv, _⟩
    · omega
    · exact ⟨g, cap, hv⟩
  obtain ⟨g, cap, rfl⟩ := hex
  go_wp2
  go_ret
  have hsz : w.heap.size ≤ w2.heap.size := by have := hb1.size; have := hgrow.size; simp at this; omega
  refine ⟨rfl, Built.of ?_ ?_, by simp [World.setCell]; omega, (hr1.trans ((KeepsRows.alloc b w1 _).trans (KeepsRows.grown hgrow (hown.alloc _)))).trans (KeepsRows.set b 1 w2 _)⟩
  · have key := Lib.BuilderAt.put (T := 50) (e := 5) (p := .pointer (some ⟨b, 0, none⟩)) hB hb2 (bs' := Lib.byteCells (l ++ [c])) (v' := .slice (some ⟨g, 0, none⟩) ((Lib.byteCells l).length + 1) cap) (by rw [Lib.byteCells_append, List.length_append]; rw [HN.out] at hown'; simpa [Lib.byteCells] using hown') (by decide)
    exact key
  · exact h.2.trans (((hb1.alloc (by have := hb1.size; omega) _).grown hgrow (by have := hb1.size; simp; omega) (fun k hk => (hown.lt k hk).1)).setCell (p := ⟨b, 1, none⟩) hB _)
theorem writeByte_c (B b : Nat) (l : List UInt8) (c : UInt8) (n : Int) (hn : n = c.toNat) (w0 w : World) (h : Built B b l w0 w) (hlen : l.length + 1 ≤ 140737488355328) (hBw : B ≤ w.heap.size) :
    Calls Tryd.prog 56 #[.pointer (some ⟨b, 0, none⟩), .int .u8 n] w fun e w' => e = .returned .nilIface ∧ Built B b (l ++ [c]) w0 w' ∧ B ≤ w'.heap.size :=
  (writeByte_f B b l c n hn w0 w h hlen hBw).mono fun _ _ ⟨h1, h2, h3, _⟩ => ⟨h1, h2, h3⟩

set_option maxHeartbeats 2000000 in
set_option maxRecDepth 100000 in
theorem writeString_f (B b : Nat) (l s : List UInt8) (w0 w : World) (h : Built B b l w0 w) (hlen : l.length + s.length ≤ 140737488355328) (hBw : B ≤ w.heap.size) :
    Calls Tryd.prog 21 #[.pointer (some ⟨b, 0, none⟩), .string ⟨s.toArray⟩] w fun e w' => (∃ n, e = .returned (.tuple #[.int .i64 n, .nilIface])) ∧ Built B b (l ++ s) w0 w' ∧ B ≤ w'.heap.size ∧ KeepsRows b w w' := by
  obtain ⟨i0, hi, hz0, hz1, hz2⟩ := info_parts infoByte
  obtain ⟨S, hS⟩ : ∃ S : ByteArray, S = ⟨s.toArray⟩ := ⟨_, rfl⟩
  have hSs : S.size = s.length := by rw [hS]; show s.toArray.size = _; simp
  have hSc : Lib.strCells S = Lib.byteCells s := by rw [hS, Lib.strCells_eq]
  rw [← hS]
  have H1 := Lib.hid hSs
  have H2 := Lib.hid hSc
  clear hSs hSc hS
  have hlen' : l.length + S.size ≤ 140737488355328 := by rw [H1.out]; exact hlen
  go_enter Tryd.func21, Tryd.ntmps21
  go_wp2_with (go_at_call 41; refine (copyCheck_f B b l _ h.1).mono ?_)
  rintro e w1 ⟨rfl, h1, hb1, hr1⟩
  obtain ⟨hB, v, hbk, hown, hne⟩ := h1
  have c0 : w1.cell? ⟨b, 0, none⟩ = some (.pointer (some ⟨b, 0, none⟩)) := by rw [Lib.cell_of_heap hbk]; rfl
  have c1 : w1.cell? ⟨b, 1, none⟩ = some v := by rw [Lib.cell_of_heap hbk]; rfl
  go_wp2_with (at_builtin; refine Lib.wpList_append_own_string _ rfl _ _ 48 9 rfl B 5 i0 Tryd.underlying48 Tryd.underlying9 hi hz0 hz1 hz2 _ _ _ rfl hown S rfl ?c3 ?c4 ?c5 ?_)
  case c3 => rw [Lib.byteCells_length]; unfold maxLen; omega
  case c4 => rw [Lib.byteCells_length]; omega
  case c5 => have := hb1.size; omega
  intro v' w2 hown' hgrow _
  have hlt : b < w1.heap.size := (Array.getElem?_eq_some_iff.1 hbk).1
  have hb2 : w2.heap[b]? = some (.cells #[.pointer (some ⟨b, 0, none⟩), v] 50 (0, 0)) := by
    rw [hgrow.block b hlt (fun e => hne e.symm)]
    exact hbk
  have d0 : w2.cell? ⟨b, 0, none⟩ = some (.pointer (some ⟨b, 0, none⟩)) := by rw [Lib.cell_of_heap hb2]; rfl
  have d1 : w2.cell? ⟨b, 1, none⟩ = some v := by rw [Lib.cell_of_heap hb2]; rfl
  have f1 : w2.frozen? ⟨b, 1, none⟩ = false := Lib.frozen_of_heap hb2 1
  have hex : ∃ ao n' cap, v' = .slice ao n' cap := by
    rcases hown'.2 with ⟨hv, _⟩ | ⟨g, cap, cur, hv, _⟩
    · exact ⟨_, _, _, hv⟩
    · exact ⟨_, _, _, hv⟩
  obtain ⟨ao, n', cap, rfl⟩ := hex
  go_wp2
  go_ret2
  have hsz : w.heap.size ≤ w2.heap.size := by have := hb1.size; have := hgrow.size; omega
  refine ⟨⟨_, rfl⟩, Built.of ?_ ?_, by simp [World.setCell]; omega, (hr1.trans (KeepsRows.grown hgrow hown)).trans (KeepsRows.set b 1 w2 _)⟩
  · have key := Lib.BuilderAt.put (T := 50) (e := 5) (p := .pointer (some ⟨b, 0, none⟩)) hB hb2 (bs' := Lib.byteCells (l ++ s)) (v' := .slice ao n' cap) (by rw [Lib.byteCells_append, List.length_append]; rw [H2.out, H1.out] at hown'; simpa [Lib.byteCells] using hown') (by decide)
    exact key
  · exact h.2.trans ((hb1.grown hgrow (by have := hb1.size; omega) (fun k hk => (hown.lt k hk).1)).setCell (p := ⟨b, 1, none⟩) hB _)
theorem writeString_c (B b : Nat) (l s : List UInt8) (w0 w : World) (h : Built B b l w0 w) (hlen : l.length + s.length ≤ 140737488355328) (hBw : B ≤ w.heap.size) :
    Calls Tryd.prog 21 #[.pointer (some ⟨b, 0, none⟩), .string ⟨s.toArray⟩] w fun e w' => (∃ n, e = .returned (.tuple #[.int .i64 n, .nilIface])) ∧ Built B b (l ++ s) w0 w' ∧ B ≤ w'.heap.size :=
  (writeString_f B b l s w0 w h hlen hBw).mono fun _ _ ⟨h1, h2, h3, _⟩ => ⟨h1, h2, h3⟩
theorem builderString_c (B b : Nat) (l : List UInt8) (w0 w : World) (h : Built B b l w0 w) (hBw : B ≤ w.heap.size) :
    Calls Tryd.prog 25 #[.pointer (some ⟨b, 0, none⟩)] w fun e w' => e = .returned (.string ⟨l.toArray⟩) ∧ Below B w0 w' :=
  (Tryd.Builder_String_any B b l w h.1 hBw).mono fun _ _ ⟨he, hb⟩ => ⟨he, h.2.trans hb⟩
end Go.Proofs.YtlfjbiiacnikhaaDoor
