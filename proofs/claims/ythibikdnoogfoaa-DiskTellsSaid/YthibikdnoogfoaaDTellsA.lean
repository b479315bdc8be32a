/-
  The program's disk and the reference's in one memory.
-/
import Derived.Test.YthibikdnoogfoaaDGs
namespace Go.Proofs.Ythibikdnoogfoaa
open Go Go.RowKit Go.Maps Dk

/-- The program's disk and the reference's, in memory of their own. -/
def Duo (w0 w : World) (d r : Nat) (Y : D) (X : R) : Prop :=
  ∃ S T : Nat → Prop, DiskIn w d S Y ∧ RIn w r T X ∧ (∀ k, S k → ¬ T k) ∧ (∀ k, S k → w0.heap.size ≤ k ∧ k < w.heap.size) ∧ ∀ k, T k → w0.heap.size ≤ k ∧ k < w.heap.size
theorem RIn.on {w w' : World} {r : Nat} {S : Nat → Prop} {X : R} (h : RIn w r S X) (hb : Below w.heap.size w w') : RIn w' r S X := h.kept (Kept.below (S := fun _ => False) hb) (fun _ _ e => e)
theorem DiskIn.on {w w' : World} {d : Nat} {S : Nat → Prop} {Y : D} (h : DiskIn w d S Y) (hb : Below w.heap.size w w') : DiskIn w' d S Y := h.kept (Kept.below (S := fun _ => False) hb) (fun _ _ e => e)
theorem Duo.on {w0 w w' : World} {d r : Nat} {Y : D} {X : R} (h : Duo w0 w d r Y X) (hb : Below w.heap.size w w') : Duo w0 w' d r Y X := by
  obtain ⟨S, T, h1, h2, h3, h4, h5⟩ := h
  have hs := hb.size
  exact ⟨S, T, h1.on hb, h2.on hb, h3, fun k hk => ⟨(h4 k hk).1, Nat.lt_of_lt_of_le (h4 k hk).2 hs⟩, fun k hk => ⟨(h5 k hk).1, Nat.lt_of_lt_of_le (h5 k hk).2 hs⟩⟩
theorem duo_do (a : Act) (ho : a.Ok) (ka : Option Addr) (kc : Nat) (d r : Nat) (Y : D) (X : R) (w0 w : World) (h : Duo w0 w d r Y X) (hb : Below w0.heap.size w0 w) (hk : SrcV w0 1 (.slice ka a.keep.length kc) a.keep.length (intsV a.keep)) :
    Calls Try.prog 12 #[.pointer (some ⟨d, 0, none⟩), .agg #[.int .i64 a.op, .int .i64 a.f, .int .i64 a.n, .string ⟨a.s.toArray⟩, .slice ka a.keep.length kc]] w
      fun e w' => e = .returned (.int .i64 (doM Y a).2) ∧ Duo w0 w' d r (doM Y a).1 X ∧ Below w0.heap.size w0 w' := by
  obtain ⟨S, T, h1, h2, h3, h4, h5⟩ := h
  refine (do_c a ho _ d S Y w h1 (hk.on hb) (hk.keepAt hb (fun k e => (h4 k e).1))).mono ?_
  rintro e w' ⟨rfl, hd, hkp⟩
  have hs := hkp.size
  refine ⟨rfl, ⟨fun k => After S w k ∧ k < w'.heap.size, T, hd.mono (fun k hk e => ⟨e, hk⟩), h2.kept hkp (fun k ht hs => h3 k hs ht), fun k hk ht => ?_, fun k hk => ?_, fun k ht => ⟨(h5 k ht).1, Nat.lt_of_lt_of_le (h5 k ht).2 hs⟩⟩, hb.trans (hkp.toBelow hb.size (fun k e => (h4 k e).1))⟩
  · rcases hk.1 with e | e
    · exact h3 k e ht
    · have := (h5 k ht).2; omega
  · rcases hk.1 with e | e
    · exact ⟨(h4 k e).1, hk.2⟩
    · exact ⟨Nat.le_trans hb.size e, hk.2⟩
theorem duo_tell (a : Act) (ho : a.Ok) (ka : Option Addr) (kc : Nat) (d r : Nat) (Y : D) (X : R) (ht : TellOk X a) (w0 w : World) (h : Duo w0 w d r Y X) (hb : Below w0.heap.size w0 w) (hk : SrcV w0 1 (.slice ka a.keep.length kc) a.keep.length (intsV a.keep)) :
    Calls Try.prog 13 #[.pointer (some ⟨r, 0, none⟩), .agg #[.int .i64 a.op, .int .i64 a.f, .int .i64 a.n, .string ⟨a.s.toArray⟩, .slice ka a.keep.length kc]] w
      fun e w' => e = .returned (.int .i64 (tellM X a).2) ∧ Duo w0 w' d r Y (tellM X a).1 ∧ Below w0.heap.size w0 w' := by
  obtain ⟨S, T, h1, h2, h3, h4, h5⟩ := h
  refine (tell_c a ho _ r T X ht w h2 (hk.on hb) (hk.keepAt hb (fun k e => (h5 k e).1))).mono ?_
  rintro e w' ⟨rfl, hd, hkp⟩
  have hs := hkp.size
  refine ⟨rfl, ⟨S, fun k => After T w k ∧ k < w'.heap.size, h1.kept hkp (fun k hs ht => h3 k hs ht), hd.mono (fun k hk e => ⟨e, hk⟩), fun k hs' hk => ?_, fun k hk => ⟨(h4 k hk).1, Nat.lt_of_lt_of_le (h4 k hk).2 hs⟩, fun k hk => ?_⟩, hb.trans (hkp.toBelow hb.size (fun k e => (h5 k e).1))⟩
  · rcases hk.1 with e | e
    · exact h3 k hs' e
    · have := (h4 k hs').2; omega
  · rcases hk.1 with e | e
    · exact ⟨(h5 k e).1, hk.2⟩
    · exact ⟨Nat.le_trans hb.size e, hk.2⟩
theorem duo_down (d r : Nat) (Y : D) (X : R) (w0 w : World) (h : Duo w0 w d r Y X) : Calls Try.prog 14 #[.pointer (some ⟨d, 0, none⟩)] w fun e w' => e = .returned (.bool Y.down) ∧ w' = w := by
  obtain ⟨S, T, h1, _⟩ := h
  exact down_c d S Y w h1
theorem duo_rdown (d r : Nat) (Y : D) (X : R) (w0 w : World) (h : Duo w0 w d r Y X) (hs : Sim X Y) : Calls Try.prog 15 #[.pointer (some ⟨r, 0, none⟩)] w fun e w' => e = .returned (.bool Y.down) ∧ w' = w := by
  obtain ⟨S, T, _, ⟨fv, qv, kv, h2, _⟩, _⟩ := h
  rw [← hs.down]
  exact rdown_c r fv qv kv X w h2
theorem duo_size (d r : Nat) (Y : D) (X : R) (f : Int) (hf : In64 f) (w0 w : World) (h : Duo w0 w d r Y X) : Calls Try.prog 16 #[.pointer (some ⟨d, 0, none⟩), .int .i64 f] w fun e w' => e = .returned (.int .i64 (Y.size f)) ∧ w' = w := by
  obtain ⟨S, T, h1, _⟩ := h
  exact size_c d S Y f hf w h1
theorem duo_rsize (d r : Nat) (Y : D) (X : R) (f : Int) (w0 w : World) (h : Duo w0 w d r Y X) (hs : Sim X Y) : Calls Try.prog 17 #[.pointer (some ⟨r, 0, none⟩), .int .i64 f] w fun e w' => e = .returned (.int .i64 (Y.size f)) ∧ Below w.heap.size w w' := by
  obtain ⟨S, T, _, ⟨fv, qv, kv, h2, _⟩, _⟩ := h
  rw [← hs.size]
  exact rsize_c r fv qv kv X f w h2 (by have := hs.rok.few; omega)
theorem duo_read (d r : Nat) (Y : D) (X : R) (f a n : Int) (hf : In64 f) (ha : In64 a) (hn : In64 n) (w0 w : World) (h : Duo w0 w d r Y X) :
    Calls Try.prog 20 #[.pointer (some ⟨d, 0, none⟩), .int .i64 f, .int .i64 a, .int .i64 n] w fun e w' => e = .returned (.tuple #[.string ⟨(Y.read f a n).1.toArray⟩, .int .i64 (Y.read f a n).2]) ∧ w' = w := by
  obtain ⟨S, T, h1, _⟩ := h
  exact read_c d S Y f a n hf ha.2 hn.2 w h1
theorem duo_rread (d r : Nat) (Y : D) (X : R) (f a n : Int) (hn : In64 n) (w0 w : World) (h : Duo w0 w d r Y X) (hs : Sim X Y) :
    Calls Try.prog 21 #[.pointer (some ⟨r, 0, none⟩), .int .i64 f, .int .i64 a, .int .i64 n] w fun e w' => e = .returned (.tuple #[.string ⟨(Y.read f a n).1.toArray⟩, .int .i64 (Y.read f a n).2]) ∧ Below w.heap.size w w' := by
  obtain ⟨S, T, _, ⟨fv, qv, kv, h2, _⟩, _⟩ := h
  rw [← hs.read]
  exact rread_c r fv qv kv X hs.rok f a n hn.2 w h2

/-- The copy beside the two. -/
def Trio (w0 w : World) (c d r : Nat) (Z Y : D) (X : R) : Prop :=
  ∃ U S T : Nat → Prop, DiskIn w c U Z ∧ DiskIn w d S Y ∧ RIn w r T X ∧ (∀ k, S k → ¬ U k) ∧ (∀ k, S k → ¬ T k) ∧ (∀ k, U k → ¬ T k) ∧ (∀ k, U k → w0.heap.size ≤ k ∧ k < w.heap.size) ∧ (∀ k, S k → w0.heap.size ≤ k) ∧ ∀ k, T k → w0.heap.size ≤ k ∧ k < w.heap.size
theorem Trio.duo {w0 w : World} {c d r : Nat} {Z Y : D} {X : R} (h : Trio w0 w c d r Z Y X) : Duo w0 w c r Z X := by
  obtain ⟨U, S, T, h1, h2, h3, h4, h5, h6, h7, h8, h9⟩ := h
  exact ⟨U, T, h1, h3, h6, h7, h9⟩
theorem duo_copy (d r : Nat) (Y : D) (X : R) (w0 w : World) (h : Duo w0 w d r Y X) (hb : Below w0.heap.size w0 w) : Calls Try.prog 18 #[.pointer (some ⟨d, 0, none⟩)] w fun e w' => ∃ c, e = .returned (.pointer (some ⟨c, 0, none⟩)) ∧ Trio w0 w' c d r Y Y X ∧ Below w0.heap.size w0 w' := by
  obtain ⟨S, T, h1, h2, h3, h4, h5⟩ := h
  refine (copy_c d S Y w h1).mono ?_
  rintro e w' ⟨c, rfl, hc, hb'⟩
  have hs := hb'.size
  exact ⟨c, rfl, ⟨fun k => w.heap.size ≤ k ∧ k < w'.heap.size, S, T, hc.mono (fun k hk e => ⟨e, hk⟩), h1.on hb', h2.on hb', fun k hs hu => by have := (h4 k hs).2; omega, h3, fun k hu ht => by have := (h5 k ht).2; omega, fun k hu => ⟨Nat.le_trans hb.size hu.1, hu.2⟩, fun k hk => (h4 k hk).1, fun k ht => ⟨(h5 k ht).1, Nat.lt_of_lt_of_le (h5 k ht).2 hs⟩⟩, hb.trans (hb'.mono hb.size)⟩
theorem Trio.turn {w0 w w' : World} {c d r : Nat} {Z Y' : D} {X : R} {U S T : Nat → Prop} (h1 : DiskIn w c U Z) (h3 : RIn w r T X) (h4 : ∀ k, S k → ¬ U k) (h5 : ∀ k, S k → ¬ T k) (h6 : ∀ k, U k → ¬ T k) (h7 : ∀ k, U k → w0.heap.size ≤ k ∧ k < w.heap.size) (h8 : ∀ k, S k → w0.heap.size ≤ k)
    (h9 : ∀ k, T k → w0.heap.size ≤ k ∧ k < w.heap.size) (h0 : w0.heap.size ≤ w.heap.size) (hd : DiskIn w' d (After S w) Y') (hk : Kept S w w') : Trio w0 w' c d r Z Y' X := by
  have hs := hk.size
  refine ⟨U, After S w, T, h1.kept hk (fun k hu hs => h4 k hs hu), hd, h3.kept hk (fun k ht hs => h5 k hs ht), fun k hk hu => ?_, fun k hk ht => ?_, h6, fun k hu => ⟨(h7 k hu).1, Nat.lt_of_lt_of_le (h7 k hu).2 hs⟩, fun k hk => ?_, fun k ht => ⟨(h9 k ht).1, Nat.lt_of_lt_of_le (h9 k ht).2 hs⟩⟩
  · rcases hk with e | e
    · exact h4 k e hu
    · have := (h7 k hu).2; omega
  · rcases hk with e | e
    · exact h5 k e ht
    · have := (h9 k ht).2; omega
  · rcases hk with e | e
    · exact h8 k e
    · omega
theorem trio_do (a : Act) (ho : a.Ok) (ka : Option Addr) (kc : Nat) (c d r : Nat) (Z Y : D) (X : R) (w0 w : World) (h : Trio w0 w c d r Z Y X) (hb : Below w0.heap.size w0 w) (hk : SrcV w0 1 (.slice ka a.keep.length kc) a.keep.length (intsV a.keep)) :
    Calls Try.prog 12 #[.pointer (some ⟨d, 0, none⟩), .agg #[.int .i64 a.op, .int .i64 a.f, .int .i64 a.n, .string ⟨a.s.toArray⟩, .slice ka a.keep.length kc]] w
      fun e w' => e = .returned (.int .i64 (doM Y a).2) ∧ Trio w0 w' c d r Z (doM Y a).1 X ∧ Below w0.heap.size w0 w' := by
  obtain ⟨U, S, T, h1, h2, h3, h4, h5, h6, h7, h8, h9⟩ := h
  refine (do_c a ho _ d S Y w h2 (hk.on hb) (hk.keepAt hb h8)).mono ?_
  rintro e w' ⟨rfl, hd, hkp⟩
  exact ⟨rfl, Trio.turn h1 h3 h4 h5 h6 h7 h8 h9 hb.size hd hkp, hb.trans (hkp.toBelow hb.size h8)⟩
theorem trio_sync (f : Int) (hf : In64 f) (c d r : Nat) (Z Y : D) (X : R) (w0 w : World) (h : Trio w0 w c d r Z Y X) (hb : Below w0.heap.size w0 w) :
    Calls Try.prog 19 #[.pointer (some ⟨d, 0, none⟩), .int .i64 f] w fun e w' => e = .returned (.int .i64 (Y.sync f).2) ∧ Duo w0 w' c r Z X ∧ Below w0.heap.size w0 w' := by
  obtain ⟨U, S, T, h1, h2, h3, h4, h5, h6, h7, h8, h9⟩ := h
  refine (sync_c d S Y f hf w h2).mono ?_
  rintro e w' ⟨rfl, hd, hkp⟩
  exact ⟨rfl, (Trio.turn h1 h3 h4 h5 h6 h7 h8 h9 hb.size hd hkp).duo, hb.trans (hkp.toBelow hb.size h8)⟩
end Go.Proofs.Ythibikdnoogfoaa
