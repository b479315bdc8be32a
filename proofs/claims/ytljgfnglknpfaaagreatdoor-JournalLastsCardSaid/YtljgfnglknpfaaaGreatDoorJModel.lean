/-
  A journal on a disk, as a model: what the log and the cell hold, what Open, Append and Cut do, and what a crash leaves.
  A journal's steps: what Open, Append and Cut leave of its two files, and what they may hold after a crash.
  Opening a journal: after a crash the list is one that may be there; with nothing lost it can be opened.
  A journal on a machine that nothing is scheduled for; a journal and other files; runs with crashes.
-/
import Derived.Test.YtljgfnglknpfaaaGreatDoorCModel
import Derived.Test.YtljgfnglknpfaaaGreatDoorPlain
namespace Go.Proofs.YtljgfnglknpfaaaGreatDoor
open Dk Wire
namespace Jn

/-- The form of a list of strings. -/
def form (l : List (List UInt8)) : List UInt8 := l.flatMap eText
/-- What the cell holds of a list. -/
def note (l : List (List UInt8)) : List UInt8 := eInt (form l).length ++ eInt l.length
/-- The two numbers that a cell's value holds. -/
def nums (v : List UInt8) : Option (Nat × Nat) := (rNum 59 v).bind fun p => (rNum 59 p.2).bind fun q => if q.2 = [] then some (p.1.toNat, q.1.toNat) else none
/-- The n strings that some bytes hold. -/
def listOf (n : Nat) (t : List UInt8) : Option (List (List UInt8)) := (rMany rText n t).bind fun p => if p.2 = [] then some p.1 else none

/-- A journal: its cell, its list, and whether an error of the disk came. -/
structure J where
  c : Ck.C
  l : List (List UInt8)
  bad : Bool

/-- Open behind the two syncs. -/
def openC (d : D) (f : Int) : Option J × Int :=
  match Ck.openM d (f + 1) with
  | (none, e) => (none, e)
  | (some c, _) =>
    if c.slot = 0 then (some ⟨c, [], false⟩, 0) else
    match nums c.val with
    | none => (none, 2)
    | some p =>
      let r := d.read f 0 p.1
      if r.2 ≠ 0 then (none, r.2) else
      if r.1.length < p.1 then (none, 2) else
      match listOf p.2 r.1 with
      | none => (none, 2)
      | some l => (some ⟨c, l, false⟩, 0)
def openJ (d : D) (f : Int) : D × Option J × Int :=
  if 0 ≤ f ∧ f ≤ 14 then
    let a := d.sync f
    if a.2 ≠ 0 then (a.1, none, a.2) else
    let b := a.1.sync (f + 1)
    if b.2 ≠ 0 then (b.1, none, b.2) else (b.1, openC b.1 f)
  else (d, none, 1)
def noteJ (d : D) (f : Int) (j : J) (l : List (List UInt8)) : D × J × Int :=
  let z := Ck.setM d (f + 1) j.c (note l)
  if z.2.2 ≠ 0 then (z.1, ⟨z.2.1, j.l, true⟩, z.2.2) else (z.1, ⟨z.2.1, l, false⟩, 0)
def appendJ (d : D) (f : Int) (j : J) (s : List (List UInt8)) : D × J × Int :=
  if j.bad then (d, j, 7) else if s = [] then (d, j, 0) else if 1048576 < (form (j.l ++ s)).length then (d, j, 6) else
  let a := d.write f (form j.l).length (form s)
  if a.2 ≠ 0 then (a.1, { j with bad := true }, a.2) else
  let b := a.1.sync f
  if b.2 ≠ 0 then (b.1, { j with bad := true }, b.2) else noteJ b.1 f j (j.l ++ s)
def cutJ (d : D) (f : Int) (j : J) (n : Int) : D × J × Int :=
  if j.bad then (d, j, 7) else if n < 0 ∨ (j.l.length : Int) < n then (d, j, 1) else if n = j.l.length then (d, j, 0) else noteJ d f j (j.l.take n.toNat)

/-! ### Forms and notes -/
theorem form_append (a b : List (List UInt8)) : form (a ++ b) = form a ++ form b := by unfold form; exact List.flatMap_append
theorem eText_len (s : List UInt8) : s.length + 3 ≤ (eText s).length := by
  unfold eText
  have : 0 < (Lib.itoa (s.length : Int)).length := List.length_pos_iff.2 (itoa_ne _)
  simp only [List.length_append, List.length_singleton]
  omega
theorem form_len : ∀ l : List (List UInt8), l.length ≤ (form l).length ∧ ∀ s ∈ l, s.length ≤ (form l).length
  | [] => ⟨Nat.le_refl _, fun _ h => by cases h⟩
  | x :: l => by
    obtain ⟨h1, h2⟩ := form_len l
    have h3 := eText_len x
    have e : (form (x :: l)).length = (eText x).length + (form l).length := by
      unfold form; rw [List.flatMap_cons, List.length_append]
    rw [e]
    refine ⟨by simp only [List.length_cons]; omega, fun s hs => ?_⟩
    rcases List.mem_cons.1 hs with rfl | hs
    · omega
    · have := h2 s hs; omega
theorem form_take (l : List (List UInt8)) (k : Nat) : form l = form (l.take k) ++ form (l.drop k) := by rw [← form_append, List.take_append_drop]
theorem listOf_form (l : List (List UInt8)) (h : (form l).length ≤ 9223372036854775807) : listOf l.length (form l) = some l := by
  unfold listOf
  have hk : rMany rText l.length (form l) = some (l, []) := (rMany_iff (enc := eText) (ok := fun s => InR s.length) rText_iff l.length (form l) l []).2 ⟨rfl, fun a ha => by
    have := (form_len l).2 a ha
    unfold InR
    omega, by rw [List.append_nil]; rfl⟩
  rw [hk]
  rfl
/-- A reading loop that has taken all n strings. -/
theorem listOf_end {n : Nat} {t r : List UInt8} {l : List (List UInt8)} (h : rMany rText n t = some (l, r)) : listOf n t = if r = [] then some l else none := by
  unfold listOf
  rw [h]
  rfl
/-- A reading loop that ends early, with nothing left. -/
theorem listOf_stop {n i : Nat} {t : List UInt8} {l : List (List UInt8)} (h : rMany rText i t = some (l, [])) (hi : i < n) : listOf n t = none := by
  have h1 : rMany rText (i + 1) t = none := by
    show (rMany rText i t).bind _ = none
    rw [h]
    rfl
  unfold listOf
  rw [rMany_none h1 (by omega)]
  rfl
/-- A reading loop that fails. -/
theorem listOf_fail {n i : Nat} {t r : List UInt8} {l : List (List UInt8)} (h : rMany rText i t = some (l, r)) (hr : rText r = none) (hi : i < n) : listOf n t = none := by
  have h1 : rMany rText (i + 1) t = none := by
    show (rMany rText i t).bind _ = none
    rw [h]
    simp only [Option.bind_some]
    rw [hr]
    rfl
  unfold listOf
  rw [rMany_none h1 (by omega)]
  rfl
theorem rMany_step {i : Nat} {t r r' x : List UInt8} {l : List (List UInt8)} (h : rMany rText i t = some (l, r)) (hr : rText r = some (x, r')) : rMany rText (i + 1) t = some (l ++ [x], r') := by
  show (rMany rText i t).bind _ = _
  rw [h]
  simp only [Option.bind_some]
  rw [hr]
  rfl
theorem rMany_len {i : Nat} {t r : List UInt8} {l : List (List UInt8)} (h : rMany rText i t = some (l, r)) : l.length = i := ((rMany_iff (enc := eText) (ok := fun s => InR s.length) rText_iff i t l r).1 h).1
theorem nums_no1 {v : List UInt8} (h : rNum 59 v = none) : nums v = none := by unfold nums; rw [h]; rfl
theorem nums_no2 {v r : List UInt8} {a : Int} (h : rNum 59 v = some (a, r)) (h2 : rNum 59 r = none) : nums v = none := by
  unfold nums
  rw [h]
  simp only [Option.bind_some]
  rw [h2]
  rfl
theorem nums_ok {v r q : List UInt8} {a b : Int} (h : rNum 59 v = some (a, r)) (h2 : rNum 59 r = some (b, q)) : nums v = if q = [] then some (a.toNat, b.toNat) else none := by
  unfold nums
  rw [h]
  simp only [Option.bind_some]
  rw [h2]
  rfl
theorem rNum_int (n : Nat) (h : n ≤ 9223372036854775807) (r : List UInt8) : rNum 59 (eInt n ++ r) = some ((n : Int), r) :=
  (rNum_iff 59 (by decide) _ _ _).2 ⟨by omega, by unfold InR; omega, by unfold eInt; simp⟩
theorem nums_note (l : List (List UInt8)) (h : (form l).length ≤ 9223372036854775807) : nums (note l) = some ((form l).length, l.length) := by
  have hl := (form_len l).1
  unfold nums note
  rw [rNum_int _ h]
  simp only [Option.bind_some]
  have := rNum_int l.length (by omega) []
  rw [List.append_nil] at this
  rw [this]
  simp
theorem note_len (l : List (List UInt8)) (h : (form l).length ≤ 9223372036854775807) : (note l).length ≤ 42 := by
  have hl := (form_len l).1
  have h1 := itoa_len ((form l).length : Int) (by unfold InR; omega)
  have h2 := itoa_len (l.length : Int) (by unfold InR; omega)
  unfold note eInt
  simp only [List.length_append, List.length_singleton]
  omega

/-! ### What the log holds -/
/-- The bytes begin with a. -/
def Pre (a N : List UInt8) : Prop := a.length ≤ N.length ∧ ∀ i, i < a.length → bt N i = bt a i
theorem Pre.left {a N B x : List UInt8} (hN : Pre a N) (hB : Pre a B) (h : Left N B x) : Pre a x := by
  have h1 := h.ge
  refine ⟨Nat.le_trans hB.1 h1, fun i hi => ?_⟩
  rcases Ck.left_byte h i with e | e
  · rw [e]; exact hN.2 i hi
  · rw [e]; exact hB.2 i hi
theorem Pre.take {a N : List UInt8} (h : Pre a N) : N.take a.length = a := by
  have h1 := h.1
  have hl : (N.take a.length).length = a.length := by simp; omega
  refine bt_ext hl fun i hi => ?_
  rw [hl] at hi
  rw [bt_take, if_pos hi]
  exact h.2 i hi
theorem Pre.short {a b N : List UInt8} (h : Pre (a ++ b) N) : Pre a N := by
  have h1 := h.1
  rw [List.length_append] at h1
  refine ⟨by omega, fun i hi => ?_⟩
  rw [h.2 i (by rw [List.length_append]; omega), bt_append, if_pos hi]
/-- The file begins with a, and so does what is durable. -/
def Log (a : List UInt8) (e : F) : Prop := Pre a e.now ∧ Pre a e.dur
theorem Log.gone {a N B : List UInt8} {e : F} (hN : Pre a N) (hB : Pre a B) (h : Ck.Gone N B e) : Log a e := by
  obtain ⟨x, hx, h1, h2⟩ := h
  unfold Log
  rw [h1, h2]
  exact ⟨hN.left hB hx, hN.left hB hx⟩
theorem Log.calm {a : List UInt8} {d e : D} {i : Nat} (h : Log a (d.file i)) (hc : Ck.Calm i d e) : Log a (e.file i) := by
  rcases hc with ⟨_, _, h3⟩ | ⟨_, _, h3⟩
  · rw [h3]; exact h
  · exact Log.gone h.1 h.2 h3
/-- Writing behind it. -/
theorem Pre.put {a N s : List UInt8} (h : Pre a N) : Pre a (put N a.length s) ∧ Pre (a ++ s) (put N a.length s) := by
  have h1 := h.1
  refine ⟨⟨by rw [put_length]; omega, fun i hi => ?_⟩, ⟨by rw [put_length, List.length_append]; omega, fun i hi => ?_⟩⟩
  · rw [put_bt, if_neg (by omega)]; exact h.2 i hi
  · rw [List.length_append] at hi
    rw [put_bt, bt_append]
    by_cases hc : i < a.length
    · rw [if_neg (by omega), if_pos hc]; exact h.2 i hc
    · rw [if_pos (by omega), if_neg hc]

theorem calm_trans {i : Nat} {a b c : D} (h : Ck.Calm i a b) (k : Ck.Calm i b c) : Ck.Calm i a c := by
  rcases h with ⟨h1, h2, h3⟩ | ⟨h1, h2, h3⟩ <;> rcases k with ⟨k1, k2, k3⟩ | ⟨k1, k2, k3⟩
  · exact .same k1 (k2.trans h2) (k3.trans h3)
  · rw [h3] at k3; exact .gone k1 k2 k3
  · exact .gone k1 (k2.trans h2) (by rw [k3]; exact h3)
  · refine .gone k1 k2 ?_
    obtain ⟨x, hx, g1, g2⟩ := h3
    obtain ⟨y, hy, q1, q2⟩ := k3
    rw [g1, g2] at hy
    rw [Ck.left_same hy] at q1 q2
    exact ⟨x, hx, q1, q2⟩
theorem calm_inv {i : Nat} {a b : D} (h : Ck.Calm i a b) : b.Inv := by rcases h with ⟨h1, _, _⟩ | ⟨h1, _, _⟩ <;> exact h1
theorem setB_calm {d : D} {i f : Nat} {c : Ck.C} {s : List UInt8} (hI : d.Inv) (hf : f < 16) (hi : i < 16) (hne : i ≠ f) (hs : s.length ≤ 65536) : Ck.Calm i d (Ck.setB d f c s).1 := by
  have hsl := Ck.start_le (Ck.other c.slot)
  unfold Ck.setB
  dsimp only
  have h1 := Ck.write_calm hI hf hi hne (a := Ck.start (Ck.other c.slot)) (s := s) (by omega)
  split
  · exact h1
  · have h2 := calm_trans h1 (Ck.sync_calm (calm_inv h1) hf hi hne)
    split
    · exact h2
    · have h3 := calm_trans h2 (Ck.write_calm (calm_inv h2) hf hi hne (a := 0) (s := Ck.header (Ck.other c.slot) s.length) (by rw [Ck.header_length]; omega))
      split
      · exact h3
      · exact calm_trans h3 (Ck.sync_calm (calm_inv h3) hf hi hne)
theorem setM_calm {d : D} {i f : Nat} {c : Ck.C} {s : List UInt8} (hI : d.Inv) (hf : f < 16) (hi : i < 16) (hne : i ≠ f) (hs : s.length ≤ 65536) : Ck.Calm i d (Ck.setM d f c s).1 := by
  unfold Ck.setM
  rw [if_neg (by omega)]
  split
  · dsimp only
    have h1 := Ck.sync_calm hI hf hi hne
    split
    · exact h1
    · exact calm_trans h1 (setB_calm (calm_inv h1) hf hi hne hs)
  · exact setB_calm hI hf hi hne hs

/-! ### The journal's two files -/
/-- The cell's value is that of a list. -/
def Noted (k : Nat) (v : List UInt8) (m : List (List UInt8)) : Prop := (k = 0 ∧ m = []) ∨ (k ≠ 0 ∧ v = note m)
theorem Noted.uniq {k : Nat} {v : List UInt8} {m m' : List (List UInt8)} {N : List UInt8} (h : Noted k v m) (h' : Noted k v m') (hm : (form m).length ≤ 1048576) (hm' : (form m').length ≤ 1048576) (hN : Pre (form m) N) (hN' : Pre (form m') N) : m = m' := by
  rcases h with ⟨h1, h2⟩ | ⟨h1, h2⟩ <;> rcases h' with ⟨k1, k2⟩ | ⟨k1, k2⟩
  · rw [h2, k2]
  · exact absurd h1 k1
  · exact absurd k1 h1
  · have e1 := nums_note m (by omega)
    have e2 := nums_note m' (by omega)
    rw [← h2] at e1
    rw [← k2, e1] at e2
    injection e2 with e2
    injection e2 with e3 e4
    have e5 : form m = form m' := by rw [← hN.take, ← hN'.take, e3]
    have g1 := listOf_form m (by omega)
    rw [e5, e4, listOf_form m' (by omega)] at g1
    injection g1 with g1
    exact g1.symm
def Held (e : F) (P : List (List UInt8) → Prop) (k : Nat) (v : List UInt8) : Prop := ∃ m, Noted k v m ∧ P m ∧ Log (form m) e ∧ (form m).length ≤ 1048576
theorem Held.mono {e : F} {P Q : List (List UInt8) → Prop} {k : Nat} {v : List UInt8} (h : Held e P k v) (hPQ : ∀ m, P m → Q m) : Held e Q k v := let ⟨m, h1, h2, h3, h4⟩ := h; ⟨m, h1, hPQ m h2, h3, h4⟩
theorem Held.turn {e e' : F} {P Q : List (List UInt8) → Prop} {k : Nat} {v : List UInt8} (h : Held e P k v) (hPQ : ∀ m, P m → Log (form m) e → Q m ∧ Log (form m) e') : Held e' Q k v := let ⟨m, h1, h2, h3, h4⟩ := h; ⟨m, h1, (hPQ m h2 h3).1, (hPQ m h2 h3).2, h4⟩
theorem Held.calm {P : List (List UInt8) → Prop} {k : Nat} {v : List UInt8} {d e : D} {i : Nat} (h : Held (d.file i) P k v) (hc : Ck.Calm i d e) : Held (e.file i) P k v := h.turn fun _ h1 h2 => ⟨h1, h2.calm hc⟩
/-- What both files may hold after a crash are lists with P. -/
def Two (d : D) (f : Nat) (c : Ck.C) (P : List (List UInt8) → Prop) : Prop := Ck.St d (f + 1) c (Held (d.file f) P)
theorem Two.mono {d : D} {f : Nat} {c : Ck.C} {P Q : List (List UInt8) → Prop} (h : Two d f c P) (hPQ : ∀ m, P m → Q m) : Two d f c Q := Ck.St.mono h fun _ _ hk => hk.mono hPQ
/-- An operation that is calm on both. -/
theorem Two.calm {d e : D} {f : Nat} {c : Ck.C} {P : List (List UInt8) → Prop} (h : Two d f c P) (h0 : Ck.Calm f d e) (h1 : Ck.Calm (f + 1) d e) : Two e f c P := Ck.St.mono (Ck.St.calm h h1) fun _ _ hk => hk.calm h0
theorem crash_calm {d : D} (hI : d.Inv) {i : Nat} (hi : i < 16) (keep : List Int) : Ck.Calm i d (d.crash keep) := by
  cases hd : d.down with
  | true =>
    have : d.crash keep = d := by unfold D.crash; rw [if_pos hd]
    rw [this]; exact .refl hI
  | false => exact .gone (D.crash_inv hI keep) (Ck.crash_down keep) (Ck.crash_gone hI hd keep hi)
theorem Two.crash {d : D} {f : Nat} {c : Ck.C} {P : List (List UInt8) → Prop} (h : Two d f c P) (hf : f < 15) (keep : List Int) : Two (d.crash keep) f c P := h.calm (crash_calm h.inv (by omega) keep) (crash_calm h.inv (by omega) keep)
theorem Two.lose {d : D} {f : Nat} {c : Ck.C} {P : List (List UInt8) → Prop} (h : Two d f c P) (n : Int) : Two (d.lose n) f c P := Ck.St.lose h n
theorem Two.arm {d : D} {f : Nat} {c : Ck.C} {P : List (List UInt8) → Prop} (h : Two d f c P) (n : Int) (keep : List Int) : Two (d.arm n keep) f c P := Ck.St.arm h n keep
/-- A crash, and a start. -/
theorem Two.again {d : D} {f : Nat} {c : Ck.C} {P : List (List UInt8) → Prop} (h : Two d f c P) (hf : f < 15) (keep : List Int) : ∃ c', Two (d.crash keep).start f c' P := by
  obtain ⟨k, v, _, h2, _, h4⟩ := Ck.St.again h (by omega) keep
  refine ⟨⟨k, v, false⟩, h4.mono ?_⟩
  rintro k' v' ⟨rfl, rfl⟩
  have := h2.calm (crash_calm h.inv (i := f) (by omega) keep)
  exact this
theorem Two.start {d : D} {f : Nat} {c : Ck.C} {P : List (List UInt8) → Prop} (h : Two d f c P) (hf : f < 15) : ∃ c', Two d.start f c' P := by
  cases hd : d.down with
  | true =>
    have := h.again hf []
    have e : d.crash [] = d := by unfold D.crash; rw [if_pos hd]
    rwa [e] at this
  | false => exact ⟨c, Ck.St.same h (D.set_inv h.inv _ _ _ _) hd.symm rfl⟩
end Jn
end Go.Proofs.YtljgfnglknpfaaaGreatDoor

namespace Go.Proofs.YtljgfnglknpfaaaGreatDoor
open Dk Wire
namespace Jn

/-- A journal and its files: what may be there after a crash has P; without an error it is the list. -/
structure JSt (d : D) (f : Nat) (j : J) (P : List (List UInt8) → Prop) : Prop where
  two : Two d f j.c P
  all : j.bad = false → ∀ m, P m → m = j.l
theorem JSt.held {d : D} {f : Nat} {j : J} {P : List (List UInt8) → Prop} (h : JSt d f j P) (hf : f < 15) (hb : j.bad = false) : P j.l ∧ Log (form j.l) (d.file f) ∧ (form j.l).length ≤ 1048576 := by
  obtain ⟨k, v, _, m, _, h2, h3, h4⟩ := h.two.may _ (Ck.left_self (h.two.inv.file (f + 1) (by omega)).le)
  have := h.all hb m h2
  subst this
  exact ⟨h2, h3, h4⟩
theorem JSt.calm {d e : D} {f : Nat} {j : J} {P : List (List UInt8) → Prop} (h : JSt d f j P) (h0 : Ck.Calm f d e) (h1 : Ck.Calm (f + 1) d e) : JSt e f j P := ⟨h.two.calm h0 h1, h.all⟩
theorem JSt.lose {d : D} {f : Nat} {j : J} {P : List (List UInt8) → Prop} (h : JSt d f j P) (n : Int) : JSt (d.lose n) f j P := ⟨h.two.lose n, h.all⟩
theorem JSt.arm {d : D} {f : Nat} {j : J} {P : List (List UInt8) → Prop} (h : JSt d f j P) (n : Int) (keep : List Int) : JSt (d.arm n keep) f j P := ⟨h.two.arm n keep, h.all⟩
theorem JSt.crash {d : D} {f : Nat} {j : J} {P : List (List UInt8) → Prop} (h : JSt d f j P) (hf : f < 15) (keep : List Int) : JSt (d.crash keep) f j P := ⟨h.two.crash hf keep, h.all⟩
theorem int_succ (f : Nat) : ((f : Int) + 1) = ((f + 1 : Nat) : Int) := by omega

/-- Noting a list with whose form the log begins. -/
theorem note_done {d : D} {f : Nat} {j : J} {P : List (List UInt8) → Prop} {l' : List (List UInt8)} (h : Two d f j.c P) (hf : f < 15) (hL : Log (form l') (d.file f)) (hl : (form l').length ≤ 1048576) :
    ∃ (e : D) (c' : Ck.C), (noteJ d f j l' = (e, ⟨c', l', false⟩, 0) ∧ e.down = false ∧ JSt e f ⟨c', l', false⟩ (fun m => m = l')) ∨
      ∃ z : Int, (z = 9 ∨ z = 10) ∧ noteJ d f j l' = (e, ⟨c', j.l, true⟩, z) ∧ JSt e f ⟨c', j.l, true⟩ (fun m => P m ∨ m = l') := by
  have hn := note_len l' (by omega)
  have hd := Ck.setM_done (s := note l') h (by omega) (by omega)
  have hc := setM_calm (d := d) (i := f) (f := f + 1) (c := j.c) (s := note l') h.inv (by omega) (by omega) (by omega) (by omega)
  unfold noteJ
  rw [int_succ]
  obtain ⟨r, hr⟩ : ∃ r, Ck.setM d ((f + 1 : Nat) : Int) j.c (note l') = r := ⟨_, rfl⟩
  rw [hr] at hd hc ⊢
  obtain ⟨e, c', z⟩ := r
  refine ⟨e, c', ?_⟩
  dsimp only
  have hto : ∀ (k : Nat) (v : List UInt8), (k ≠ 0 ∧ v = note l') → Held (e.file f) (fun m => m = l') k v := fun k v hk => ⟨l', Or.inr hk, rfl, hL.calm hc, hl⟩
  by_cases hz : z = 0
  · subst hz
    obtain ⟨g1, g2, _, _⟩ := hd.good rfl
    refine Or.inl ⟨by rw [if_neg (fun h => h rfl)], g2, ⟨g1.mono hto, fun _ m hm => hm⟩⟩
  · refine Or.inr ⟨z, ?_, by rw [if_pos hz], ⟨hd.st.mono ?_, fun h => by cases h⟩⟩
    · rcases hd.code with e | e | e
      · exact absurd e hz
      · exact Or.inl e
      · exact Or.inr e
    · rintro k v (hk | hk)
      · exact (hk.calm hc).mono fun m hm => Or.inl hm
      · exact (hto k v hk).mono fun m hm => Or.inr hm

/-- Two ways of Append. -/
structure Appended (d : D) (f : Nat) (j : J) (s : List (List UInt8)) (r : D × J × Int) : Prop where
  code : r.2.2 = 0 ∨ r.2.2 = 6 ∨ r.2.2 = 7 ∨ r.2.2 = 9 ∨ r.2.2 = 10
  full : r.2.2 = 6 ∨ r.2.2 = 7 → r = (d, j, r.2.2)
  good : r.2.2 = 0 → JSt r.1 f r.2.1 (fun m => m = j.l ++ s) ∧ r.2.1.l = j.l ++ s ∧ r.2.1.bad = false
  fail : r.2.2 = 9 ∨ r.2.2 = 10 → JSt r.1 f r.2.1 (fun m => m = j.l ∨ m = j.l ++ s) ∧ r.2.1.l = j.l ∧ r.2.1.bad = true

theorem append_done {d : D} {f : Nat} {j : J} {P : List (List UInt8) → Prop} {s : List (List UInt8)} (h : JSt d f j P) (hf : f < 15) : Appended d f j s (appendJ d f j s) := by
  have n00 : ¬ (0 : Int) ≠ 0 := fun h => h rfl
  have ne9 : ¬ (9 : Int) = 0 := by omega
  have ne10 : ¬ (10 : Int) = 0 := by omega
  cases hb : j.bad with
  | true =>
    have e0 : appendJ d f j s = (d, j, 7) := by unfold appendJ; rw [if_pos hb]
    rw [e0]
    exact ⟨by simp, fun _ => rfl, fun h => by simp at h, fun h => by simp at h⟩
  | false =>
    obtain ⟨hP, hL, hlen⟩ := h.held hf hb
    by_cases hs : s = []
    · subst hs
      have e0 : appendJ d f j [] = (d, j, 0) := by unfold appendJ; rw [hb]; rfl
      rw [e0]
      refine ⟨by simp, fun h => by simp at h, fun _ => ?_, fun h => by simp at h⟩
      rw [List.append_nil]
      exact ⟨⟨h.two.mono (h.all hb), fun _ m hm => hm⟩, rfl, hb⟩
    · by_cases hfull : 1048576 < (form (j.l ++ s)).length
      · have e0 : appendJ d f j s = (d, j, 6) := by unfold appendJ; rw [hb, if_neg (by simp), if_neg hs, if_pos hfull]
        rw [e0]
        exact ⟨by simp, fun _ => rfl, fun h => by simp at h, fun h => by simp at h⟩
      · have hlen' := hfull
        rw [form_append, List.length_append] at hlen'
        have hne : form s ≠ [] := by
          intro e
          have := (form_len s).1
          rw [e] at this
          exact hs (List.eq_nil_of_length_eq_zero (Nat.le_zero.1 this))
        have hone : ∀ m, P m → m = j.l := h.all hb
        have bad : ∀ (e : D) (c' : Ck.C) (z : Int) (Q : List (List UInt8) → Prop), (z = 9 ∨ z = 10) → Two e f c' Q → (∀ m, Q m → m = j.l ∨ m = j.l ++ s) → Appended d f j s (e, ⟨c', j.l, true⟩, z) := fun e c' z Q hz hT hQ =>
          ⟨by rcases hz with e | e <;> subst e <;> simp, fun h => by rcases hz with e | e <;> subst e <;> simp at h, fun h => by rcases hz with e | e <;> subst e <;> simp at h, fun _ => ⟨⟨hT.mono hQ, fun h => by cases h⟩, rfl, rfl⟩⟩
        have hstep : appendJ d f j s = (let a := d.write f (form j.l).length (form s)
            if a.2 ≠ 0 then (a.1, { j with bad := true }, a.2) else
            let b := a.1.sync f
            if b.2 ≠ 0 then (b.1, { j with bad := true }, b.2) else noteJ b.1 f j (j.l ++ s)) := by
          unfold appendJ
          rw [hb, if_neg (by simp), if_neg hs, if_neg hfull]
        rw [hstep]
        clear hstep
        cases hd : d.down with
        | true =>
          dsimp only
          rw [Ck.write_down hd, if_pos ne9]
          exact bad d j.c 9 P (Or.inl rfl) h.two fun m hm => Or.inl (hone m hm)
        | false =>
          obtain ⟨e1, hI1, hc1⟩ := Ck.write_cases (f := f) (a := (form j.l).length) (s := form s) h.two.inv hd (by omega) (by omega)
          have hn1 : ((d.file f).write (form j.l).length (form s)).now = put (d.file f).now (form j.l).length (form s) := by rw [Ck.fwrite_now, if_neg hne]
          have hb1 : ((d.file f).write (form j.l).length (form s)).dur = (d.file f).dur := Ck.fwrite_dur
          have hput := hL.1.put (s := form s)
          dsimp only
          rcases hc1 with ⟨hw1, hd1, hf1⟩ | ⟨hw1, hd1, hg1⟩
          · rw [hw1, if_neg n00]
            have hfile : e1.file f = (d.file f).write (form j.l).length (form s) := by rw [hf1, upd_same]
            have hT1 : Two e1 f j.c P := Ck.St.mono (Ck.St.calm h.two (.same hI1 (by rw [hd1, hd]) (by rw [hf1, upd_other _ _ (by omega)]))) fun k v hk => hk.turn fun m hm _ => ⟨hm, by
              rw [hone m hm, hfile]
              unfold Log
              rw [hn1, hb1]
              exact ⟨hput.1, hL.2⟩⟩
            obtain ⟨e2, hI2, hc2⟩ := Ck.sync_cases (f := f) hI1 hd1 (by omega)
            rcases hc2 with ⟨hs2, hd2, hf2⟩ | ⟨hs2, hd2, hf2⟩ | ⟨hs2, hd2, hg2⟩
            · dsimp only
              rw [hs2, if_neg n00]
              have hfile2 : (e2.file f).now = put (d.file f).now (form j.l).length (form s) ∧ (e2.file f).dur = put (d.file f).now (form j.l).length (form s) := by
                rw [hf2, upd_same]
                unfold F.settle
                rw [hfile]
                exact ⟨hn1, hn1⟩
              have hT2 : Two e2 f j.c P := Ck.St.mono (Ck.St.calm hT1 (.same hI2 (by rw [hd2, hd1]) (by rw [hf2, upd_other _ _ (by omega)]))) fun k v hk => hk.turn fun m hm _ => ⟨hm, by
                rw [hone m hm]
                unfold Log
                rw [hfile2.1, hfile2.2]
                exact ⟨hput.1, hput.1⟩⟩
              have hL2 : Log (form (j.l ++ s)) (e2.file f) := by
                rw [form_append]
                unfold Log
                rw [hfile2.1, hfile2.2]
                exact ⟨hput.2, hput.2⟩
              obtain ⟨e3, c', ⟨g1, _, g3⟩ | ⟨z, hz, g1, g2⟩⟩ := note_done (j := j) hT2 hf hL2 (by omega)
              · rw [g1]
                exact ⟨by simp, fun h => by simp at h, fun _ => ⟨g3, rfl, rfl⟩, fun h => by simp at h⟩
              · rw [g1]
                refine bad e3 c' z _ hz g2.two fun m hm => ?_
                rcases hm with hm | hm
                · exact Or.inl (hone m hm)
                · exact Or.inr hm
            · dsimp only
              rw [hs2, if_pos ne10]
              exact bad e2 j.c 10 P (Or.inr rfl) (hT1.calm (.same hI2 (by rw [hd2, hd1]) (by rw [hf2])) (.same hI2 (by rw [hd2, hd1]) (by rw [hf2]))) fun m hm => Or.inl (hone m hm)
            · dsimp only
              rw [hs2, if_pos ne9]
              exact bad e2 j.c 9 P (Or.inl rfl) (hT1.calm (.gone hI2 hd2 (hg2 f (by omega))) (.gone hI2 hd2 (hg2 (f + 1) (by omega)))) fun m hm => Or.inl (hone m hm)
          · rw [hw1, if_pos ne9]
            have hG0 := hg1 f (by omega)
            have hG1 := hg1 (f + 1) (by omega)
            rw [upd_same, hn1, hb1] at hG0
            rw [upd_other _ _ (by omega)] at hG1
            refine bad e1 j.c 9 P (Or.inl rfl) (Ck.St.mono (Ck.St.calm h.two (.gone hI1 hd1 hG1)) fun k v hk => hk.turn fun m hm _ => ⟨hm, ?_⟩) fun m hm => Or.inl (hone m hm)
            rw [hone m hm]
            exact Log.gone hput.1 hL.2 hG0

/-- The ways of Cut. -/
structure Cutted (d : D) (f : Nat) (j : J) (n : Int) (r : D × J × Int) : Prop where
  code : r.2.2 = 0 ∨ r.2.2 = 1 ∨ r.2.2 = 7 ∨ r.2.2 = 9 ∨ r.2.2 = 10
  full : r.2.2 = 1 ∨ r.2.2 = 7 → r = (d, j, r.2.2)
  good : r.2.2 = 0 → (0 ≤ n ∧ n ≤ j.l.length) ∧ JSt r.1 f r.2.1 (fun m => m = j.l.take n.toNat) ∧ r.2.1.l = j.l.take n.toNat ∧ r.2.1.bad = false
  fail : r.2.2 = 9 ∨ r.2.2 = 10 → (0 ≤ n ∧ n ≤ j.l.length) ∧ JSt r.1 f r.2.1 (fun m => m = j.l ∨ m = j.l.take n.toNat) ∧ r.2.1.l = j.l ∧ r.2.1.bad = true
theorem cut_done {d : D} {f : Nat} {j : J} {P : List (List UInt8) → Prop} {n : Int} (h : JSt d f j P) (hf : f < 15) : Cutted d f j n (cutJ d f j n) := by
  cases hb : j.bad with
  | true =>
    have e0 : cutJ d f j n = (d, j, 7) := by unfold cutJ; rw [if_pos hb]
    rw [e0]
    exact ⟨by simp, fun _ => rfl, fun h => by simp at h, fun h => by simp at h⟩
  | false =>
    obtain ⟨hP, hL, hlen⟩ := h.held hf hb
    have hone : ∀ m, P m → m = j.l := h.all hb
    by_cases hr : n < 0 ∨ (j.l.length : Int) < n
    · have e0 : cutJ d f j n = (d, j, 1) := by unfold cutJ; rw [hb, if_neg (by simp), if_pos hr]
      rw [e0]
      exact ⟨by simp, fun _ => rfl, fun h => by simp at h, fun h => by simp at h⟩
    · have hin : 0 ≤ n ∧ n ≤ j.l.length := by omega
      by_cases he : n = j.l.length
      · have e0 : cutJ d f j n = (d, j, 0) := by unfold cutJ; rw [hb, if_neg (by simp), if_neg hr, if_pos he]
        have e1 : j.l.take n.toNat = j.l := by rw [he]; simp
        rw [e0]
        refine ⟨by simp, fun h => by simp at h, fun _ => ⟨hin, ?_⟩, fun h => by simp at h⟩
        rw [e1]
        exact ⟨⟨h.two.mono hone, fun _ m hm => hm⟩, rfl, hb⟩
      · have e0 : cutJ d f j n = noteJ d f j (j.l.take n.toNat) := by unfold cutJ; rw [hb, if_neg (by simp), if_neg hr, if_neg he]
        rw [e0]
        have hft := form_take j.l n.toNat
        have hL' : Log (form (j.l.take n.toNat)) (d.file f) := by
          rw [hft] at hL
          exact ⟨hL.1.short, hL.2.short⟩
        have hlen' : (form (j.l.take n.toNat)).length ≤ 1048576 := by
          rw [hft, List.length_append] at hlen
          omega
        obtain ⟨e3, c', ⟨g1, _, g3⟩ | ⟨z, hz, g1, g2⟩⟩ := note_done (j := j) h.two hf hL' hlen'
        · rw [g1]
          exact ⟨by simp, fun h => by simp at h, fun _ => ⟨hin, g3, rfl, rfl⟩, fun h => by simp at h⟩
        · rw [g1]
          refine ⟨by rcases hz with e | e <;> subst e <;> simp, fun h => by rcases hz with e | e <;> subst e <;> simp at h, fun h => by rcases hz with e | e <;> subst e <;> simp at h, fun _ => ⟨hin, ⟨g2.two.mono fun m hm => ?_, fun h => by cases h⟩, rfl, rfl⟩⟩
          rcases hm with hm | hm
          · exact Or.inl (hone m hm)
          · exact Or.inr hm
end Jn
end Go.Proofs.YtljgfnglknpfaaaGreatDoor

namespace Go.Proofs.YtljgfnglknpfaaaGreatDoor
open Dk Wire
namespace Jn

/-- Open behind two syncs, of files that hold a list. -/
theorem openC_held {d : D} {f : Nat} {k : Nat} {v : List UInt8} {m : List (List UInt8)} (hf : f < 15) (hd : d.down = false) (hH : Ck.Holds (d.file (f + 1)).now k v) (hN : Noted k v m) (hL : Pre (form m) (d.file f).now) (hlen : (form m).length ≤ 1048576) :
    openC d f = (some ⟨⟨k, v, false⟩, m, false⟩, 0) := by
  have ho : Ck.openM d ((f + 1 : Nat) : Int) = (some ⟨k, v, false⟩, 0) := by
    unfold Ck.openM
    rw [if_neg (by rw [hd]; simp), Ck.ok_lt (by omega), if_pos rfl, Int.toNat_natCast]
    exact hH.open
  unfold openC
  rw [int_succ, ho]
  dsimp only
  rcases hN with ⟨h1, h2⟩ | ⟨h1, h2⟩
  · rw [if_pos h1, h2]
  · have hr : d.read f 0 ((form m).length : Nat) = (form m, 0) := by
      unfold D.read
      rw [if_neg (by rw [hd]; simp), Ck.ok_lt (by omega), decide_eq_true (show (0 : Int) ≤ 0 by omega), decide_eq_true (show (0 : Int) ≤ ((form m).length : Int) by omega), if_pos (by rfl)]
      simp only [Int.toNat_natCast, Int.toNat_zero, List.drop_zero]
      rw [hL.take]
    rw [if_neg h1, h2, nums_note m (by omega)]
    dsimp only
    rw [hr]
    dsimp only
    rw [if_neg (fun h => h rfl), if_neg (Nat.lt_irrefl _), listOf_form m (by omega)]

theorem openC_code {d : D} (hd : d.down = false) (f : Int) : (openC d f).2 = 0 ∨ (openC d f).2 = 1 ∨ (openC d f).2 = 2 := by
  have hm : (Ck.openM d (f + 1)).2 = 0 ∨ (Ck.openM d (f + 1)).2 = 1 ∨ (Ck.openM d (f + 1)).2 = 2 := by
    unfold Ck.openM Ck.openB
    rw [if_neg (by rw [hd]; simp)]
    repeat' split
    all_goals simp
  have hr : ∀ a, (d.read f 0 a).2 = 0 ∨ (d.read f 0 a).2 = 1 := fun a => by
    unfold D.read
    rw [if_neg (by rw [hd]; simp)]
    split <;> simp
  unfold openC
  split
  · next e he =>
    rw [he] at hm
    exact hm
  · split
    · exact Or.inl rfl
    · split
      · exact Or.inr (Or.inr rfl)
      · next p _ =>
        dsimp only
        split
        · rcases hr p.1 with e | e
          · exact Or.inl e
          · exact Or.inr (Or.inl e)
        · split
          · exact Or.inr (Or.inr rfl)
          · split
            · exact Or.inr (Or.inr rfl)
            · exact Or.inl rfl

/-- What Open does. -/
inductive Opened (f : Nat) (P : List (List UInt8) → Prop) : D × Option J × Int → Prop
  | good (e : D) (j : J) : e.down = false → P j.l → j.bad = false → JSt e f j (fun m => m = j.l) → Opened f P (e, some j, 0)
  | fail (e : D) (c' : Ck.C) (z : Int) : z = 9 ∨ z = 10 → Two e f c' P → Opened f P (e, none, z)
theorem open_done {d : D} {f : Nat} {c : Ck.C} {P : List (List UInt8) → Prop} (h : Two d f c P) (hf : f < 15) : Opened f P (openJ d f) := by
  have n00 : ¬ (0 : Int) ≠ 0 := fun h => h rfl
  have ne9 : ¬ (9 : Int) = 0 := by omega
  have ne10 : ¬ (10 : Int) = 0 := by omega
  unfold openJ
  rw [if_pos (by omega), int_succ]
  dsimp only
  cases hd : d.down with
  | true =>
    rw [Ck.sync_down hd, if_pos ne9]
    exact .fail d c 9 (Or.inl rfl) h
  | false =>
    obtain ⟨e1, hI1, hc1⟩ := Ck.sync_cases (f := f) h.inv hd (by omega)
    rcases hc1 with ⟨hs1, hd1, hf1⟩ | ⟨hs1, hd1, hf1⟩ | ⟨hs1, hd1, hg1⟩
    · rw [hs1, if_neg n00]
      dsimp only
      have hT1 : Two e1 f c P := Ck.St.mono (Ck.St.calm h (.same hI1 (by rw [hd1, hd]) (by rw [hf1, upd_other _ _ (by omega)]))) fun k v hk => hk.turn fun m hm hL => ⟨hm, by
        rw [hf1, upd_same]
        exact ⟨hL.1, hL.1⟩⟩
      obtain ⟨e2, hI2, hc2⟩ := Ck.sync_cases (f := f + 1) hI1 hd1 (by omega)
      rcases hc2 with ⟨hs2, hd2, hf2⟩ | ⟨hs2, hd2, hf2⟩ | ⟨hs2, hd2, hg2⟩
      · rw [hs2, if_neg n00]
        have hup := (hT1.up hd1).1
        have hn2 : (e2.file (f + 1)).now = (e1.file (f + 1)).now := by rw [hf2, upd_same]; rfl
        have hb2 : (e2.file (f + 1)).dur = (e1.file (f + 1)).now := by rw [hf2, upd_same]; rfl
        have hl2 : e2.file f = e1.file f := by rw [hf2, upd_other _ _ (by omega)]
        obtain ⟨m, g1, g2, g3, g4⟩ := hT1.now (by omega) hd1
        have ho := openC_held (d := e2) (m := m) hf hd2 (by rw [hn2]; exact hup) g1 (by rw [hl2]; exact g3.1) g4
        rw [ho]
        refine .good e2 _ hd2 g2 rfl ⟨⟨hI2, fun x hx => ?_, hT1.slot, fun _ => by rw [hn2, hb2]; exact ⟨hup, fun _ => hup⟩, fun e => (by rw [hd2] at e; cases e)⟩, fun _ m' hm' => hm'⟩
        rw [hn2, hb2] at hx
        rw [Ck.left_same hx]
        exact ⟨_, _, hup, m, g1, rfl, by rw [hl2]; exact g3, g4⟩
      · rw [hs2, if_pos ne10]
        exact .fail e2 c 10 (Or.inr rfl) (hT1.calm (.same hI2 (by rw [hd2, hd1]) (by rw [hf2])) (.same hI2 (by rw [hd2, hd1]) (by rw [hf2])))
      · rw [hs2, if_pos ne9]
        exact .fail e2 c 9 (Or.inl rfl) (hT1.calm (.gone hI2 hd2 (hg2 f (by omega))) (.gone hI2 hd2 (hg2 (f + 1) (by omega))))
    · rw [hs1, if_pos ne10]
      exact .fail e1 c 10 (Or.inr rfl) (h.calm (.same hI1 (by rw [hd1, hd]) (by rw [hf1])) (.same hI1 (by rw [hd1, hd]) (by rw [hf1])))
    · rw [hs1, if_pos ne9]
      exact .fail e1 c 9 (Or.inl rfl) (h.calm (.gone hI1 hd1 (hg1 f (by omega))) (.gone hI1 hd1 (hg1 (f + 1) (by omega))))

/-- A machine that nothing is scheduled for. -/
structure Plain (d : D) : Prop where
  up : d.down = false
  left : d.left = 0
  lost : d.lost = 0
theorem Plain.sync {d : D} (h : Plain d) {f : Nat} (hf : f < 16) : (d.sync f).2 = 0 ∧ Plain (d.sync f).1 := by
  have hs : d.strike = (d, false) := by unfold D.strike; rw [if_pos h.left]
  have e : d.sync f = (d.settle (f : Int).toNat, 0) := by
    unfold D.sync
    rw [if_neg (by rw [h.up]; simp)]
    dsimp only
    rw [hs, if_neg (by simp), Ck.ok_lt hf, if_pos rfl, if_neg (by rw [h.lost]; omega)]
  rw [e]
  exact ⟨rfl, h.up, h.left, h.lost⟩
theorem Plain.write {d : D} (h : Plain d) {f : Nat} (hf : f < 16) {a : Nat} {s : List UInt8} (ha : a + s.length ≤ 16777216) : (d.write f a s).2 = 0 ∧ Plain (d.write f a s).1 := by
  have hp : d.put f a s = ({ d with file := upd d.file f ((d.file f).write a s), queue := d.queue ++ ((d.file f).added a s).map fun n => (f, n) }, 0) := by
    unfold D.put
    rw [Ck.ok_lt hf, decide_eq_true (show (0 : Int) ≤ (a : Int) by omega), if_pos (show (true && true) = true from rfl), if_pos (by omega)]
    simp only [Int.toNat_natCast]
  unfold D.write
  rw [if_neg (by rw [h.up]; simp)]
  dsimp only
  rw [hp]
  obtain ⟨q, hq⟩ : ∃ q : D, q = { d with file := upd d.file f ((d.file f).write a s), queue := d.queue ++ ((d.file f).added a s).map fun n => (f, n) } := ⟨_, rfl⟩
  rw [← hq]
  have hl : q.left = 0 := by rw [hq]; exact h.left
  have hs : q.strike = (q, false) := by unfold D.strike; rw [if_pos hl]
  dsimp only
  rw [hs, if_neg (by simp)]
  exact ⟨rfl, by rw [hq]; exact h.up, hl, by rw [hq]; exact h.lost⟩
theorem Plain.setB {d : D} (h : Plain d) {f : Nat} (hf : f < 16) {c : Ck.C} {s : List UInt8} (hs : s.length ≤ 65536) : (Ck.setB d f c s).2.2 = 0 ∧ Plain (Ck.setB d f c s).1 := by
  have hsl := Ck.start_le (Ck.other c.slot)
  have n00 : ¬ (0 : Int) ≠ 0 := fun h => h rfl
  unfold Ck.setB
  dsimp only
  have h1 := h.write hf (a := Ck.start (Ck.other c.slot)) (s := s) (by omega)
  rw [if_neg (by rw [h1.1]; exact n00)]
  have h2 := h1.2.sync hf
  rw [if_neg (by rw [h2.1]; exact n00)]
  have h3 := h2.2.write hf (a := 0) (s := Ck.header (Ck.other c.slot) s.length) (by rw [Ck.header_length]; omega)
  rw [show ((0 : Nat) : Int) = 0 from rfl] at h3
  rw [if_neg (by rw [h3.1]; exact n00)]
  exact h3.2.sync hf
theorem Plain.setM {d : D} (h : Plain d) {f : Nat} (hf : f < 16) {c : Ck.C} {s : List UInt8} (hs : s.length ≤ 65536) : (Ck.setM d f c s).2.2 = 0 ∧ Plain (Ck.setM d f c s).1 := by
  have n00 : ¬ (0 : Int) ≠ 0 := fun h => h rfl
  unfold Ck.setM
  rw [if_neg (by omega)]
  split
  · dsimp only
    have h1 := h.sync hf
    rw [if_neg (by rw [h1.1]; exact n00)]
    exact h1.2.setB hf hs
  · exact h.setB hf hs
/-- With nothing lost, and nothing scheduled, it can be opened. -/
theorem open_plain {d : D} {f : Nat} {c : Ck.C} {P : List (List UInt8) → Prop} (h : Two d f c P) (hf : f < 15) (hp : Plain d) : ∃ (e : D) (j : J), openJ d f = (e, some j, 0) ∧ Plain e ∧ P j.l ∧ j.bad = false ∧ JSt e f j (fun m => m = j.l) := by
  have n00 : ¬ (0 : Int) ≠ 0 := fun h => h rfl
  have h1 := hp.sync (f := f) (by omega)
  have h2 := h1.2.sync (f := f + 1) (by omega)
  have ho := open_done h hf
  have hE : openJ d f = (((d.sync f).1.sync ((f + 1 : Nat) : Int)).1, openC ((d.sync f).1.sync ((f + 1 : Nat) : Int)).1 f) := by
    unfold openJ
    rw [if_pos (by omega), int_succ]
    dsimp only
    rw [if_neg (by rw [h1.1]; exact n00), if_neg (by rw [h2.1]; exact n00)]
  obtain ⟨r, hr⟩ : ∃ r, openJ d f = r := ⟨_, rfl⟩
  rw [hr] at ho hE ⊢
  cases ho with
  | good e j g1 g2 g3 g4 =>
    injection hE with hE1 hE2
    exact ⟨e, j, rfl, by rw [hE1]; exact h2.2, g2, g3, g4⟩
  | fail e c' z hz g =>
    exfalso
    injection hE with hE1 hE2
    have := openC_code h2.2.up f
    rw [← hE2] at this
    dsimp only at this
    omega
end Jn
end Go.Proofs.YtljgfnglknpfaaaGreatDoor

namespace Go.Proofs.YtljgfnglknpfaaaGreatDoor
open Dk Wire
namespace Jn

/-! ### Nothing scheduled: every step succeeds -/
theorem Plain.noted {d : D} (h : Plain d) {f : Nat} (hf : f < 15) {j : J} {l' : List (List UInt8)} (hl : (form l').length ≤ 1048576) : ∃ (e : D) (c' : Ck.C), noteJ d f j l' = (e, ⟨c', l', false⟩, 0) ∧ Plain e := by
  have hn := note_len l' (by omega)
  have h1 := h.setM (f := f + 1) (c := j.c) (s := note l') (by omega) (by omega)
  refine ⟨_, (Ck.setM d ((f + 1 : Nat) : Int) j.c (note l')).2.1, ?_, h1.2⟩
  unfold noteJ
  rw [int_succ]
  dsimp only
  rw [if_neg (by rw [h1.1]; exact fun h => h rfl)]
theorem Plain.append {d : D} (h : Plain d) {f : Nat} (hf : f < 15) {j : J} {s : List (List UInt8)} (hb : j.bad = false) (hl : (form (j.l ++ s)).length ≤ 1048576) : (appendJ d f j s).2.2 = 0 ∧ Plain (appendJ d f j s).1 := by
  have n00 : ¬ (0 : Int) ≠ 0 := fun h => h rfl
  unfold appendJ
  rw [hb, if_neg (by simp)]
  by_cases hs : s = []
  · rw [if_pos hs]; exact ⟨rfl, h⟩
  · rw [if_neg hs, if_neg (by omega)]
    dsimp only
    have hl' := hl
    rw [form_append, List.length_append] at hl'
    have h1 := h.write (f := f) (a := (form j.l).length) (s := form s) (by omega) (by omega)
    rw [if_neg (by rw [h1.1]; exact n00)]
    have h2 := h1.2.sync (f := f) (by omega)
    rw [if_neg (by rw [h2.1]; exact n00)]
    obtain ⟨e, c', g1, g2⟩ := h2.2.noted hf (j := j) hl
    rw [g1]
    exact ⟨rfl, g2⟩
theorem Plain.cut {d : D} (h : Plain d) {f : Nat} (hf : f < 15) {j : J} {n : Int} (hb : j.bad = false) (hl : (form j.l).length ≤ 1048576) :
    ((cutJ d f j n).2.2 = 0 ↔ 0 ≤ n ∧ n ≤ j.l.length) ∧ Plain (cutJ d f j n).1 := by
  unfold cutJ
  rw [hb, if_neg (by simp)]
  by_cases hr : n < 0 ∨ (j.l.length : Int) < n
  · rw [if_pos hr]
    exact ⟨⟨fun h => by simp at h, fun h => by omega⟩, h⟩
  · rw [if_neg hr]
    by_cases he : n = j.l.length
    · rw [if_pos he]
      exact ⟨⟨fun _ => by omega, fun _ => rfl⟩, h⟩
    · rw [if_neg he]
      have hft := form_take j.l n.toNat
      obtain ⟨e, c', g1, g2⟩ := h.noted hf (j := j) (l' := j.l.take n.toNat) (by rw [hft, List.length_append] at hl; omega)
      rw [g1]
      exact ⟨⟨fun _ => by omega, fun _ => rfl⟩, g2⟩
theorem plain_again (d : D) (keep : List Int) (h : d.lost = 0) (hl : d.left = 0) : Plain (d.crash keep).start := by
  unfold D.crash
  split
  · exact ⟨rfl, hl, h⟩
  · exact ⟨rfl, rfl, h⟩

/-! ### No crash is scheduled -/
theorem sync_left {d : D} (h : d.left = 0) (f : Int) : (d.sync f).1.left = 0 := by
  have hs : d.strike = (d, false) := by unfold D.strike; rw [if_pos h]
  unfold D.sync
  rw [hs]
  dsimp only
  repeat' split
  all_goals first | exact h | (next e => exact absurd e (by simp))
theorem write_left {d : D} (h : d.left = 0) (f a : Int) (s : List UInt8) : (d.write f a s).1.left = 0 := by
  have hp : (d.put f a s).1.left = 0 := by
    unfold D.put
    repeat' split
    all_goals exact h
  have hs : (d.put f a s).1.strike = ((d.put f a s).1, false) := by unfold D.strike; rw [if_pos hp]
  unfold D.write
  split
  · exact h
  · dsimp only
    rw [hs, if_neg (by simp)]
    exact hp
theorem crash_left0 {d : D} (h : d.left = 0) (keep : List Int) : (d.crash keep).left = 0 := by
  unfold D.crash
  split
  · exact h
  · rfl
theorem setB_left {d : D} (h : d.left = 0) (f : Int) (c : Ck.C) (s : List UInt8) : (Ck.setB d f c s).1.left = 0 := by
  unfold Ck.setB
  dsimp only
  split
  · exact write_left h _ _ _
  · split
    · exact sync_left (write_left h _ _ _) _
    · split
      · exact write_left (sync_left (write_left h _ _ _) _) _ _ _
      · exact sync_left (write_left (sync_left (write_left h _ _ _) _) _ _ _) _
theorem setM_left {d : D} (h : d.left = 0) (f : Int) (c : Ck.C) (s : List UInt8) : (Ck.setM d f c s).1.left = 0 := by
  unfold Ck.setM
  split
  · exact h
  · split
    · dsimp only
      split
      · exact sync_left h _
      · exact setB_left (sync_left h _) _ _ _
    · exact setB_left h _ _ _
theorem note_left {d : D} (h : d.left = 0) (f : Int) (j : J) (l : List (List UInt8)) : (noteJ d f j l).1.left = 0 := by
  unfold noteJ
  dsimp only
  split <;> exact setM_left h _ _ _
theorem append_left {d : D} (h : d.left = 0) (f : Int) (j : J) (s : List (List UInt8)) : (appendJ d f j s).1.left = 0 := by
  unfold appendJ
  split
  · exact h
  · split
    · exact h
    · split
      · exact h
      · dsimp only
        split
        · exact write_left h _ _ _
        · split
          · exact sync_left (write_left h _ _ _) _
          · exact note_left (sync_left (write_left h _ _ _) _) _ _ _
theorem cut_left {d : D} (h : d.left = 0) (f : Int) (j : J) (n : Int) : (cutJ d f j n).1.left = 0 := by
  unfold cutJ
  split
  · exact h
  · split
    · exact h
    · split
      · exact h
      · exact note_left h _ _ _
theorem open_left {d : D} (h : d.left = 0) (f : Int) : (openJ d f).1.left = 0 := by
  unfold openJ
  split
  · dsimp only
    split
    · exact sync_left h _
    · split <;> exact sync_left (sync_left h _) _
  · exact h

/-! ### Other files -/
theorem note_calm {d : D} {i f : Nat} {j : J} {l : List (List UInt8)} (hI : d.Inv) (hf : f < 15) (hi : i < 16) (h1 : i ≠ f + 1) (hl : (form l).length ≤ 1048576) : Ck.Calm i d (noteJ d f j l).1 := by
  have hn := note_len l (by omega)
  unfold noteJ
  rw [int_succ]
  dsimp only
  split <;> exact setM_calm hI (by omega) hi h1 (by omega)
theorem append_calm {d : D} {i f : Nat} {j : J} {s : List (List UInt8)} (hI : d.Inv) (hf : f < 15) (hi : i < 16) (h0 : i ≠ f) (h1 : i ≠ f + 1) : Ck.Calm i d (appendJ d f j s).1 := by
  unfold appendJ
  split
  · exact .refl hI
  · split
    · exact .refl hI
    · split
      · exact .refl hI
      · next hl =>
        have hl' := hl
        rw [form_append, List.length_append] at hl'
        dsimp only
        have g1 := Ck.write_calm hI (f := f) (by omega) hi h0 (a := (form j.l).length) (s := form s) (by omega)
        split
        · exact g1
        · have g2 := calm_trans g1 (Ck.sync_calm (calm_inv g1) (f := f) (by omega) hi h0)
          split
          · exact g2
          · exact calm_trans g2 (note_calm (calm_inv g2) hf hi h1 (by omega))
theorem cut_calm {d : D} {i f : Nat} {j : J} {n : Int} (hI : d.Inv) (hf : f < 15) (hi : i < 16) (h1 : i ≠ f + 1) (hl : (form j.l).length ≤ 1048576) : Ck.Calm i d (cutJ d f j n).1 := by
  unfold cutJ
  split
  · exact .refl hI
  · split
    · exact .refl hI
    · split
      · exact .refl hI
      · have hft := form_take j.l n.toNat
        exact note_calm hI hf hi h1 (by rw [hft, List.length_append] at hl; omega)
theorem open_calm {d : D} {i f : Nat} (hI : d.Inv) (hf : f < 15) (hi : i < 16) (h0 : i ≠ f) (h1 : i ≠ f + 1) : Ck.Calm i d (openJ d f).1 := by
  unfold openJ
  rw [int_succ]
  split
  · dsimp only
    have g1 := Ck.sync_calm hI (f := f) (by omega) hi h0
    split
    · exact g1
    · have g2 := calm_trans g1 (Ck.sync_calm (calm_inv g1) (f := f + 1) (by omega) hi h1)
      split <;> exact g2
  · exact .refl hI

/-! ### New files -/
theorem Two.new {f : Nat} : Two D.new f ⟨0, [], false⟩ (fun m => m = []) := by
  refine Ck.St.mono (Ck.St.new (i := f + 1)).2 ?_
  rintro k v ⟨h1, _⟩
  exact ⟨[], Or.inl ⟨h1, rfl⟩, rfl, ⟨⟨Nat.le_refl _, fun i hi => absurd hi (Nat.not_lt_zero _)⟩, ⟨Nat.le_refl _, fun i hi => absurd hi (Nat.not_lt_zero _)⟩⟩, Nat.zero_le _⟩
theorem plain_new : Plain D.new := ⟨rfl, rfl, rfl⟩

/-! ### What may be there: the list that is sure, or that of a call that failed -/
def May (sure maybe : List (List UInt8)) (failed : Bool) (m : List (List UInt8)) : Prop := m = sure ∨ (failed = true ∧ m = maybe)
/-- Between two rounds: a journal that is open, or none. -/
inductive Rnd (d : D) (f : Nat) (sure maybe : List (List UInt8)) (failed : Bool) : Option J → Prop
  | some (j : J) : JSt d f j (May sure maybe failed) → j.l = sure → (failed = true → j.bad = true) → Rnd d f sure maybe failed (some j)
  | none (c : Ck.C) : Two d f c (May sure maybe failed) → Rnd d f sure maybe failed none
theorem JSt.mono {d : D} {f : Nat} {j : J} {P Q : List (List UInt8) → Prop} (h : JSt d f j P) (hPQ : ∀ m, P m → Q m) (hQ : j.bad = false → ∀ m, Q m → m = j.l) : JSt d f j Q := ⟨h.two.mono hPQ, hQ⟩
theorem rnd_append {d : D} {f : Nat} {sure maybe : List (List UInt8)} {failed : Bool} {j : J} (h : Rnd d f sure maybe failed (some j)) (hf : f < 15) (s : List (List UInt8)) :
    ((appendJ d f j s).2.2 = 0 ∧ failed = false ∧ ∀ mb, Rnd (appendJ d f j s).1 f (sure ++ s) mb false (some (appendJ d f j s).2.1)) ∨
    (((appendJ d f j s).2.2 = 9 ∨ (appendJ d f j s).2.2 = 10) ∧ Rnd (appendJ d f j s).1 f sure (sure ++ s) true (some (appendJ d f j s).2.1)) ∨
    (((appendJ d f j s).2.2 = 6 ∨ (appendJ d f j s).2.2 = 7) ∧ (appendJ d f j s).1 = d ∧ (appendJ d f j s).2.1 = j) := by
  cases h with
  | some _ g1 g2 gb =>
    have ha := append_done (s := s) g1 hf
    have hz : (appendJ d f j s).2.2 = 0 → failed = false := fun e => by
      cases hfa : failed with
      | false => rfl
      | true =>
        have e0 : appendJ d f j s = (d, j, 7) := by unfold appendJ; rw [if_pos (gb hfa)]
        rw [e0] at e
        cases e
    rcases ha.code with e | e | e | e | e
    · refine Or.inl ⟨e, hz e, fun mb => ?_⟩
      obtain ⟨k1, k2, k3⟩ := ha.good e
      rw [g2] at k1 k2
      exact .some _ (k1.mono (fun m hm => Or.inl hm) fun _ m hm => by
        rw [k2]
        rcases hm with hm | ⟨hm, _⟩
        · exact hm
        · cases hm) k2 (fun h => by cases h)
    · exact Or.inr (Or.inr ⟨Or.inl e, by rw [ha.full (Or.inl e)], by rw [ha.full (Or.inl e)]⟩)
    · exact Or.inr (Or.inr ⟨Or.inr e, by rw [ha.full (Or.inr e)], by rw [ha.full (Or.inr e)]⟩)
    · refine Or.inr (Or.inl ⟨Or.inl e, ?_⟩)
      obtain ⟨k1, k2, k3⟩ := ha.fail (Or.inl e)
      rw [g2] at k1 k2
      exact .some _ (k1.mono (fun m hm => hm.imp id fun hm => ⟨rfl, hm⟩) fun hb => by rw [k3] at hb; cases hb) k2 (fun _ => k3)
    · refine Or.inr (Or.inl ⟨Or.inr e, ?_⟩)
      obtain ⟨k1, k2, k3⟩ := ha.fail (Or.inr e)
      rw [g2] at k1 k2
      exact .some _ (k1.mono (fun m hm => hm.imp id fun hm => ⟨rfl, hm⟩) fun hb => by rw [k3] at hb; cases hb) k2 (fun _ => k3)
theorem rnd_cut {d : D} {f : Nat} {sure maybe : List (List UInt8)} {failed : Bool} {j : J} (h : Rnd d f sure maybe failed (some j)) (hf : f < 15) (n : Int) :
    ((0 ≤ n ∧ n ≤ sure.length) ∧ (cutJ d f j n).2.2 = 0 ∧ failed = false ∧ ∀ mb, Rnd (cutJ d f j n).1 f (sure.take n.toNat) mb false (some (cutJ d f j n).2.1)) ∨
    ((0 ≤ n ∧ n ≤ sure.length) ∧ ((cutJ d f j n).2.2 = 9 ∨ (cutJ d f j n).2.2 = 10) ∧ Rnd (cutJ d f j n).1 f sure (sure.take n.toNat) true (some (cutJ d f j n).2.1)) ∨
    (((cutJ d f j n).2.2 = 1 ∨ (cutJ d f j n).2.2 = 7) ∧ (cutJ d f j n).1 = d ∧ (cutJ d f j n).2.1 = j) := by
  cases h with
  | some _ g1 g2 gb =>
    have ha := cut_done (n := n) g1 hf
    have hz : (cutJ d f j n).2.2 = 0 → failed = false := fun e => by
      cases hfa : failed with
      | false => rfl
      | true =>
        have e0 : cutJ d f j n = (d, j, 7) := by unfold cutJ; rw [if_pos (gb hfa)]
        rw [e0] at e
        cases e
    rcases ha.code with e | e | e | e | e
    · obtain ⟨k0, k1, k2, k3⟩ := ha.good e
      rw [g2] at k0 k1 k2
      refine Or.inl ⟨k0, e, hz e, fun mb => .some _ (k1.mono (fun m hm => Or.inl hm) fun _ m hm => ?_) k2 (fun h => by cases h)⟩
      rw [k2]
      rcases hm with hm | ⟨hm, _⟩
      · exact hm
      · cases hm
    · exact Or.inr (Or.inr ⟨Or.inl e, by rw [ha.full (Or.inl e)], by rw [ha.full (Or.inl e)]⟩)
    · exact Or.inr (Or.inr ⟨Or.inr e, by rw [ha.full (Or.inr e)], by rw [ha.full (Or.inr e)]⟩)
    · obtain ⟨k0, k1, k2, k3⟩ := ha.fail (Or.inl e)
      rw [g2] at k0 k1 k2
      exact Or.inr (Or.inl ⟨k0, Or.inl e, .some _ (k1.mono (fun m hm => hm.imp id fun hm => ⟨rfl, hm⟩) fun hb => by rw [k3] at hb; cases hb) k2 (fun _ => k3)⟩)
    · obtain ⟨k0, k1, k2, k3⟩ := ha.fail (Or.inr e)
      rw [g2] at k0 k1 k2
      exact Or.inr (Or.inl ⟨k0, Or.inr e, .some _ (k1.mono (fun m hm => hm.imp id fun hm => ⟨rfl, hm⟩) fun hb => by rw [k3] at hb; cases hb) k2 (fun _ => k3)⟩)
theorem Rnd.two {d : D} {f : Nat} {sure maybe : List (List UInt8)} {failed : Bool} {o : Option J} (h : Rnd d f sure maybe failed o) : ∃ c, Two d f c (May sure maybe failed) := by
  cases h with
  | some j g1 _ _ => exact ⟨_, g1.two⟩
  | none c g => exact ⟨c, g⟩
theorem Rnd.lose {d : D} {f : Nat} {sure maybe : List (List UInt8)} {failed : Bool} {o : Option J} (h : Rnd d f sure maybe failed o) (n : Int) : Rnd (d.lose n) f sure maybe failed o := by
  cases h with
  | some j g1 g2 g3 => exact .some j (g1.lose n) g2 g3
  | none c g => exact .none c (g.lose n)
theorem Rnd.arm {d : D} {f : Nat} {sure maybe : List (List UInt8)} {failed : Bool} {o : Option J} (h : Rnd d f sure maybe failed o) (n : Int) (keep : List Int) : Rnd (d.arm n keep) f sure maybe failed o := by
  cases h with
  | some j g1 g2 g3 => exact .some j (g1.arm n keep) g2 g3
  | none c g => exact .none c (g.arm n keep)
/-- Opening again, after a crash or not. -/
theorem rnd_open {d : D} {f : Nat} {c : Ck.C} {sure maybe : List (List UInt8)} {failed : Bool} (h : Two d f c (May sure maybe failed)) (hf : f < 15) :
    (∃ (e : D) (j : J), openJ d f = (e, some j, 0) ∧ (j.l = sure ∨ (failed = true ∧ j.l = maybe)) ∧ ∀ mb, Rnd e f j.l mb false (some j)) ∨
    ∃ (e : D) (z : Int), openJ d f = (e, none, z) ∧ (z = 9 ∨ z = 10) ∧ Rnd e f sure maybe failed none := by
  have ho := open_done h hf
  obtain ⟨r, hr⟩ : ∃ r, openJ d f = r := ⟨_, rfl⟩
  rw [hr] at ho ⊢
  cases ho with
  | good e j g1 g2 g3 g4 =>
    exact Or.inl ⟨e, j, rfl, g2, fun mb => .some j (g4.mono (fun m hm => Or.inl hm) fun _ m hm => by
      rcases hm with hm | ⟨hm, _⟩
      · exact hm
      · cases hm) rfl (fun h => by cases h)⟩
  | fail e c' z hz g => exact Or.inr ⟨e, z, rfl, hz, .none c' g⟩
end Jn
end Go.Proofs.YtljgfnglknpfaaaGreatDoor
