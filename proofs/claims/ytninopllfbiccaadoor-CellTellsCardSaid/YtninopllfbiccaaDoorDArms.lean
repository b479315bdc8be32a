/-
  A scheduled crash: what the model says; two disks in one memory; the law's helper same.
-/
import Derived.Test.YtninopllfbiccaaDoorDTN
import Derived.BigQuiet
namespace Go.Proofs.YtninopllfbiccaaDoor
set_option maxRecDepth 100000
open Go Go.RowKit Go.Maps Dk

/-! ### The model -/
/-- A disk on which a crash is scheduled. -/
def armed (X : D) (p : Nat) (keep : List Int) : D := { X with left := p, keep := keep }
theorem armed_strike (X : D) (p : Nat) (keep : List Int) (hp : 2 ≤ p) : (armed X p keep).strike = (armed X (p - 1) keep, false) := by
  unfold D.strike
  rw [if_neg (show ¬ (armed X p keep).left = 0 from fun e => by have e' : p = 0 := e; omega), if_neg (show ¬ (armed X p keep).left = 1 from fun e => by have e' : p = 1 := e; omega)]
  rfl
theorem armed_last (X : D) (keep : List Int) (hd : X.down = false) : (armed X 1 keep).strike = (X.crash keep, true) := by
  unfold D.strike
  rw [if_neg (show ¬ (armed X 1 keep).left = 0 from fun e => by have e' : 1 = 0 := e; omega), if_pos (show (armed X 1 keep).left = 1 from rfl)]
  have h1 : (({ armed X 1 keep with left := 0 } : D).crash (armed X 1 keep).keep) = X.crash keep := by
    unfold D.crash
    rw [if_neg (show ¬ ({ armed X 1 keep with left := 0 } : D).down = true by show ¬ X.down = true; rw [hd]; simp), if_neg (by rw [hd]; simp)]
    rfl
  rw [h1]
theorem armed_put (X : D) (p : Nat) (keep : List Int) (f a : Int) (s : List UInt8) : (armed X p keep).put f a s = (armed (X.put f a s).1 p keep, (X.put f a s).2) := by
  unfold D.put
  split
  · split <;> rfl
  · rfl
theorem put_left (X : D) (f a : Int) (s : List UInt8) : (X.put f a s).1.left = X.left ∧ (X.put f a s).1.down = X.down := by
  unfold D.put
  split
  · split <;> exact ⟨rfl, rfl⟩
  · exact ⟨rfl, rfl⟩
theorem sync_up {X S : D} (hd : X.down = false) (hs : X.strike = (S, false)) (f : Int) : X.sync f = if ok f then (if 0 < S.lost then ({ S with lost := S.lost - 1 }, 10) else (S.settle f.toNat, 0)) else (S, 1) := by
  unfold D.sync
  rw [hd, hs]
  rfl
theorem sync_hit {X S : D} (hd : X.down = false) (hs : X.strike = (S, true)) (f : Int) : X.sync f = (S, 9) := by
  unfold D.sync
  rw [hd, hs]
  rfl
theorem trunc_up {X S : D} (hd : X.down = false) (hs : X.strike = (S, false)) (f z : Int) : X.trunc f z = if ok f && decide (0 ≤ z) && decide (z ≤ (S.file f.toNat).now.length) then
      (let e := S.settle f.toNat; ({ e with file := upd e.file f.toNat ((e.file f.toNat).cut z.toNat) }, 0)) else (S, 1) := by
  unfold D.trunc
  rw [hd, hs]
  rfl
theorem trunc_hit {X S : D} (hd : X.down = false) (hs : X.strike = (S, true)) (f z : Int) : X.trunc f z = (S, 9) := by
  unfold D.trunc
  rw [hd, hs]
  rfl
theorem write_up {X S : D} (hd : X.down = false) (f a : Int) (s : List UInt8) (hs : (X.put f a s).1.strike = (S, false)) : X.write f a s = (S, (X.put f a s).2) := by
  unfold D.write
  dsimp only
  rw [hd, hs]
  rfl
theorem write_hit {X S : D} (hd : X.down = false) (f a : Int) (s : List UInt8) (hs : (X.put f a s).1.strike = (S, true)) : X.write f a s = (S, 9) := by
  unfold D.write
  dsimp only
  rw [hd, hs]
  rfl
theorem write_plain {X : D} (hl : X.left = 0) (hd : X.down = false) (f a : Int) (s : List UInt8) : X.write f a s = X.put f a s := by
  rw [write_up hd f a s (strike_zero (by rw [(put_left X f a s).1]; exact hl))]
theorem sync_armed {X : D} (hl : X.left = 0) (hd : X.down = false) (p : Nat) (keep : List Int) (hp : 2 ≤ p) (f : Int) : (armed X p keep).sync f = (armed (X.sync f).1 (p - 1) keep, (X.sync f).2) ∧ (X.sync f).1.left = 0 ∧ (X.sync f).1.down = false := by
  rw [sync_up (X := armed X p keep) hd (armed_strike X p keep hp), sync_up hd (strike_zero hl)]
  split
  · by_cases h : 0 < X.lost
    · rw [if_pos (show 0 < (armed X (p - 1) keep).lost from h), if_pos h]; exact ⟨rfl, hl, hd⟩
    · rw [if_neg (show ¬ 0 < (armed X (p - 1) keep).lost from h), if_neg h]; exact ⟨rfl, hl, hd⟩
  · exact ⟨rfl, hl, hd⟩
theorem trunc_armed {X : D} (hl : X.left = 0) (hd : X.down = false) (p : Nat) (keep : List Int) (hp : 2 ≤ p) (f z : Int) : (armed X p keep).trunc f z = (armed (X.trunc f z).1 (p - 1) keep, (X.trunc f z).2) ∧ (X.trunc f z).1.left = 0 ∧ (X.trunc f z).1.down = false := by
  rw [trunc_up (X := armed X p keep) hd (armed_strike X p keep hp), trunc_up hd (strike_zero hl)]
  cases h : ok f && decide (0 ≤ z) && decide (z ≤ (X.file f.toNat).now.length) with
  | true => rw [if_pos (show (ok f && decide (0 ≤ z) && decide (z ≤ ((armed X (p - 1) keep).file f.toNat).now.length)) = true from h), if_pos rfl]; exact ⟨rfl, hl, hd⟩
  | false => rw [if_neg (show ¬ (ok f && decide (0 ≤ z) && decide (z ≤ ((armed X (p - 1) keep).file f.toNat).now.length)) = true from fun e => by rw [show (ok f && decide (0 ≤ z) && decide (z ≤ ((armed X (p - 1) keep).file f.toNat).now.length)) = false from h] at e; cases e), if_neg (by simp)]; exact ⟨rfl, hl, hd⟩
theorem write_armed {X : D} (hl : X.left = 0) (hd : X.down = false) (p : Nat) (keep : List Int) (hp : 2 ≤ p) (f a : Int) (s : List UInt8) : (armed X p keep).write f a s = (armed (X.write f a s).1 (p - 1) keep, (X.write f a s).2) ∧ (X.write f a s).1.left = 0 ∧ (X.write f a s).1.down = false := by
  rw [write_plain hl hd]
  refine ⟨?_, by rw [(put_left X f a s).1]; exact hl, by rw [(put_left X f a s).2]; exact hd⟩
  rw [write_up (X := armed X p keep) hd f a s (by rw [armed_put]; exact armed_strike _ p keep hp), armed_put]
theorem act_armed {X : D} (hl : X.left = 0) (hd : X.down = false) (p : Nat) (keep : List Int) (hp : 2 ≤ p) (a : Act) (hc : code a < 4) : doM (armed X p keep) a = (armed (doM X a).1 (p - 1) keep, (doM X a).2) ∧ (doM X a).1.left = 0 ∧ (doM X a).1.down = false := by
  unfold doM
  by_cases h2 : code a = 2
  · rw [if_pos h2, if_pos h2]; exact sync_armed hl hd p keep hp _
  · rw [if_neg h2, if_neg h2]
    by_cases h3 : code a = 3
    · rw [if_pos h3, if_pos h3]; exact trunc_armed hl hd p keep hp _ _
    · rw [if_neg h3, if_neg h3, if_neg (show ¬ code a = 4 by omega), if_neg (show ¬ code a = 5 by omega), if_neg (show ¬ code a = 6 by omega), if_neg (show ¬ code a = 7 by omega),
        if_neg (show ¬ code a = 4 by omega), if_neg (show ¬ code a = 5 by omega), if_neg (show ¬ code a = 6 by omega), if_neg (show ¬ code a = 7 by omega)]
      exact write_armed hl hd p keep hp _ _ _
theorem act_lose {X : D} (hl : X.left = 0) (hd : X.down = false) (p : Nat) (keep : List Int) (a : Act) (hc : code a = 4) : doM (armed X p keep) a = (armed (doM X a).1 p keep, (doM X a).2) ∧ (doM X a).1.left = 0 ∧ (doM X a).1.down = false := by
  unfold doM
  rw [if_neg (show ¬ code a = 2 by omega), if_neg (show ¬ code a = 3 by omega), if_pos hc, if_neg (show ¬ code a = 2 by omega), if_neg (show ¬ code a = 3 by omega), if_pos hc]
  exact ⟨rfl, hl, hd⟩
/-- The act in which the crash happens. -/
theorem act_last {X : D} (hl : X.left = 0) (hd : X.down = false) (keep : List Int) (a : Act) (hc : code a < 4) : doM (armed X 1 keep) a = (if code a < 2 then (doM X a).1.crash keep else X.crash keep, 9) := by
  unfold doM
  by_cases h2 : code a = 2
  · rw [if_pos h2, if_neg (show ¬ code a < 2 by omega)]
    exact sync_hit (X := armed X 1 keep) hd (armed_last X keep hd) _
  · rw [if_neg h2]
    by_cases h3 : code a = 3
    · rw [if_pos h3, if_neg (show ¬ code a < 2 by omega)]
      exact trunc_hit (X := armed X 1 keep) hd (armed_last X keep hd) _ _
    · rw [if_neg h3, if_neg (show ¬ code a = 4 by omega), if_neg (show ¬ code a = 5 by omega), if_neg (show ¬ code a = 6 by omega), if_neg (show ¬ code a = 7 by omega)]
      rw [if_pos (show code a < 2 by omega), if_neg h2, if_neg h3, if_neg (show ¬ code a = 4 by omega), if_neg (show ¬ code a = 5 by omega), if_neg (show ¬ code a = 6 by omega), if_neg (show ¬ code a = 7 by omega)]
      rw [write_plain hl hd]
      exact write_hit (X := armed X 1 keep) hd _ _ _ (by rw [armed_put]; exact armed_last _ keep (by rw [(put_left X a.f a.n a.s).2]; exact hd))
theorem down_acts {X : D} (hd : X.down = true) (f a z : Int) (s : List UInt8) : X.sync f = (X, 9) ∧ X.trunc f z = (X, 9) ∧ X.write f a s = (X, 9) := by
  unfold D.sync D.trunc D.write
  rw [hd]
  exact ⟨rfl, rfl, rfl⟩
theorem act_down {X : D} (hd : X.down = true) (a : Act) (hc : code a < 4) : doM X a = (X, 9) := by
  have hda := down_acts hd a.f a.n a.n a.s
  unfold doM
  rw [hda.1, hda.2.1, hda.2.2, if_neg (show ¬ code a = 4 by omega), if_neg (show ¬ code a = 5 by omega), if_neg (show ¬ code a = 6 by omega), if_neg (show ¬ code a = 7 by omega)]
  split
  · rfl
  · split <;> rfl
theorem act_lose_down {X : D} (hd : X.down = true) (a : Act) (hc : code a = 4) : (doM X a).1.down = true ∧ (doM X a).1.file = X.file := by
  unfold doM
  rw [if_neg (show ¬ code a = 2 by omega), if_neg (show ¬ code a = 3 by omega), if_pos hc]
  exact ⟨hd, rfl⟩
theorem crash_isDown (X : D) (keep : List Int) : (X.crash keep).down = true := by
  unfold D.crash
  split
  · next h => exact h
  · rfl
/-- How the two disks of the law stand: as long as the crash has not come, and after it. -/
def Pair (n : Nat) (keep : List Int) (count : Nat) (X Y : D) : Prop := (count < n ∧ X = armed Y (n - count) keep ∧ Y.left = 0 ∧ Y.down = false) ∨ (n ≤ count ∧ X.down = true ∧ Y.down = true ∧ X.file = Y.file)
theorem Pair.same {n : Nat} {keep : List Int} {count : Nat} {X Y : D} (h : Pair n keep count X Y) : X.file = Y.file ∧ X.down = Y.down := by
  rcases h with ⟨_, h, _, _⟩ | ⟨_, h1, h2, h3⟩
  · subst h; exact ⟨rfl, rfl⟩
  · exact ⟨h3, h1.trans h2.symm⟩

/-! ### Two disks in one memory -/
def Two (w0 w : World) (d c : Nat) (X Y : D) : Prop :=
  ∃ S T : Nat → Prop, DiskIn w d S X ∧ DiskIn w c T Y ∧ (∀ k, S k → ¬ T k) ∧ (∀ k, S k → w0.heap.size ≤ k ∧ k < w.heap.size) ∧ ∀ k, T k → w0.heap.size ≤ k ∧ k < w.heap.size
theorem Two.swap {w0 w : World} {d c : Nat} {X Y : D} (h : Two w0 w d c X Y) : Two w0 w c d Y X := by
  obtain ⟨S, T, h1, h2, h3, h4, h5⟩ := h
  exact ⟨T, S, h2, h1, fun k hk hs => h3 k hs hk, h5, h4⟩
theorem Two.on {w0 w w' : World} {d c : Nat} {X Y : D} (h : Two w0 w d c X Y) (hb : Below w.heap.size w w') : Two w0 w' d c X Y := by
  obtain ⟨S, T, h1, h2, h3, h4, h5⟩ := h
  have hs := hb.size
  exact ⟨S, T, h1.kept (Kept.below (S := fun _ => False) hb) (fun _ _ e => e), h2.kept (Kept.below (S := fun _ => False) hb) (fun _ _ e => e), h3, fun k hk => ⟨(h4 k hk).1, Nat.lt_of_lt_of_le (h4 k hk).2 hs⟩, fun k hk => ⟨(h5 k hk).1, Nat.lt_of_lt_of_le (h5 k hk).2 hs⟩⟩
theorem Two.turn {w0 w w' : World} {d c : Nat} {X' Y : D} {S T : Nat → Prop} (h2 : DiskIn w c T Y) (h3 : ∀ k, S k → ¬ T k) (h4 : ∀ k, S k → w0.heap.size ≤ k ∧ k < w.heap.size) (h5 : ∀ k, T k → w0.heap.size ≤ k ∧ k < w.heap.size)
    (h0 : w0.heap.size ≤ w.heap.size) (hd : DiskIn w' d (After S w) X') (hk : Kept S w w') : Two w0 w' d c X' Y := by
  have hs := hk.size
  refine ⟨fun k => After S w k ∧ k < w'.heap.size, T, hd.mono (fun k hk e => ⟨e, hk⟩), h2.kept hk (fun k ht hs => h3 k hs ht), fun k hk ht => ?_, fun k hk => ?_, fun k ht => ⟨(h5 k ht).1, Nat.lt_of_lt_of_le (h5 k ht).2 hs⟩⟩
  · rcases hk.1 with e | e
    · exact h3 k e ht
    · have := (h5 k ht).2; omega
  · rcases hk.1 with e | e
    · exact ⟨(h4 k e).1, hk.2⟩
    · exact ⟨Nat.le_trans h0 e, hk.2⟩

theorem two_crash (v : Value) (l : List Int) (d c : Nat) (X Y : D) (w0 w : World) (h : Two w0 w d c X Y) (hb : Below w0.heap.size w0 w) (hk : SrcV w0 1 v l.length (intsV l)) (hl : l.length ≤ 9223372036854775807) (hin : ∀ k ∈ l, In64 k) :
    Calls Tryd.prog 25 #[.pointer (some ⟨d, 0, none⟩), v] w fun e w' => e = .returned (.tuple #[]) ∧ Two w0 w' d c (X.crash l) Y ∧ Below w0.heap.size w0 w' := by
  obtain ⟨S, T, h1, h2, h3, h4, h5⟩ := h
  refine (crash_c d S X v l w h1 (hk.keepAt hb (fun k e => (h4 k e).1)) hl hin).mono ?_
  rintro e w' ⟨rfl, hd, hkp⟩
  exact ⟨rfl, Two.turn h2 h3 h4 h5 hb.size hd hkp, hb.trans (hkp.toBelow hb.size (fun k e => (h4 k e).1))⟩
theorem two_arm (n : Int) (hn : n ≤ 9223372036854775807) (v : Value) (l : List Int) (d c : Nat) (X Y : D) (w0 w : World) (h : Two w0 w d c X Y) (hb : Below w0.heap.size w0 w) (hk : SrcV w0 1 v l.length (intsV l)) (hl : l.length ≤ 4398046511104) (hin : ∀ k ∈ l, In64 k) :
    Calls Tryd.prog 18 #[.pointer (some ⟨d, 0, none⟩), .int .i64 n, v] w fun e w' => e = .returned (.tuple #[]) ∧ Two w0 w' d c (X.arm n l) Y ∧ Below w0.heap.size w0 w' := by
  obtain ⟨S, T, h1, h2, h3, h4, h5⟩ := h
  refine (armIn_c d S X n hn v l w h1 (hk.on hb) hl hin).mono ?_
  rintro e w' ⟨rfl, hd, hkp⟩
  exact ⟨rfl, Two.turn h2 h3 h4 h5 hb.size hd hkp, hb.trans (hkp.toBelow hb.size (fun k e => (h4 k e).1))⟩
theorem two_start (d c : Nat) (X Y : D) (w0 w : World) (h : Two w0 w d c X Y) (hb : Below w0.heap.size w0 w) :
    Calls Tryd.prog 26 #[.pointer (some ⟨d, 0, none⟩)] w fun e w' => e = .returned (.tuple #[]) ∧ Two w0 w' d c X.start Y ∧ Below w0.heap.size w0 w' := by
  obtain ⟨S, T, h1, h2, h3, h4, h5⟩ := h
  refine (start_c d S X w h1).mono ?_
  rintro e w' ⟨rfl, hd, hkp⟩
  exact ⟨rfl, Two.turn h2 h3 h4 h5 hb.size (hd.plain (w0 := w)) hkp, hb.trans (hkp.toBelow hb.size (fun k e => (h4 k e).1))⟩
end Go.Proofs.YtninopllfbiccaaDoor
