/-
  size, within and matches of package text: each returns what chapter 2 says; of what was there nothing has turned.
-/
import Derived.Test.YtanjmljlpdhlnaaGreatDoorTInt
namespace Go.Proofs.YtanjmljlpdhlnaaGreatDoor
open Go Go.RowKit Go.Sort Wire Txt

theorem at0 (c : UInt8) (r : List UInt8) : (⟨(c :: r).toArray⟩ : ByteArray)[0]'(by show 0 < (c :: r).toArray.size; simp) = c := rfl
theorem at1 (a c : UInt8) (r : List UInt8) : (⟨(a :: c :: r).toArray⟩ : ByteArray)[1]'(by show 1 < (a :: c :: r).toArray.size; simp) = c := rfl
theorem at2 (a b c : UInt8) (r : List UInt8) : (⟨(a :: b :: c :: r).toArray⟩ : ByteArray)[2]'(by show 2 < (a :: b :: c :: r).toArray.size; simp) = c := rfl
theorem beq_no {a b : Int} (h : a ≠ b) : (a == b) = false := by simpa using h

set_option maxRecDepth 100000 in
theorem size_c (c : UInt8) (r : List UInt8) (hp : (c :: r).length ≤ 1000000000000) (w : World) :
    Calls Tryz.prog 53 #[.string ⟨(c :: r).toArray⟩] w fun e w' => e = .returned (.int .i64 (psize (c :: r))) ∧ w = w' := by
  have hp' := hp
  simp only [List.length_cons] at hp'
  by_cases h2 : c.toNat = 92
  · obtain rfl := byte_of c 92 h2
    clear h2
    have e0 := at0 (UInt8.ofNat 92) r
    cases r with
    | nil =>
      have HE := Lib.hid (show psize [UInt8.ofNat 92] = 1 by simp [psize])
      go_enter Tryz.func53, Tryz.ntmps53
      go_wp2_with fail
      go_ret
      exact ⟨ret_int (by rw [HE.out]; rfl), rfl⟩
    | cons d r =>
      have HE := Lib.hid (show psize (UInt8.ofNat 92 :: d :: r) = 2 by simp [psize])
      go_enter Tryz.func53, Tryz.ntmps53
      go_wp2_with fail
      go_ret
      exact ⟨ret_int (by rw [HE.out]; rfl), rfl⟩
  · have e0 := at0 c r
    have b2 : ((c.toNat : Int) == 92) = false := beq_no (by omega)
    by_cases h1 : c.toNat = 91
    · have HE := Lib.hid (show psize (c :: r) = classSize (c :: r) by simp [psize, h1])
      have b1 : ((c.toNat : Int) == 91) = true := by rw [h1]; rfl
      go_enter Tryz.func53, Tryz.ntmps53
      go_wp2_with fail
      refine (classSize_c (c :: r) hp _).mono ?_
      rintro e w1 ⟨rfl, rfl⟩
      go_wp2_with fail
      go_ret
      exact ⟨ret_int (by rw [HE.out]), rfl⟩
    · have HE := Lib.hid (show psize (c :: r) = 1 by simp [psize, h1, h2])
      have b1 : ((c.toNat : Int) == 91) = false := beq_no (by omega)
      go_enter Tryz.func53, Tryz.ntmps53
      go_wp2_with fail
      go_ret
      exact ⟨ret_int (by rw [HE.out]; rfl), rfl⟩

def strLen : Value → Nat
  | .string s => s.size
  | _ => 0
theorem below_drew {B : Nat} {w w' : World} (h : Below B w w') (k : Nat) : Below B w (w'.drewN k) := ⟨h.os, h.tape, h.output, h.size, h.block⟩
theorem str_ne_nil (a : UInt8) (r : List UInt8) : (a :: r == ([] : List UInt8)) = false := by simp

theorem within_hit (c a : UInt8) (s : List UInt8) (h : (∀ d b r, s = d :: b :: r → d.toNat ≠ 45)) (hc : a.toNat ≤ c.toNat ∧ c.toNat ≤ a.toNat) : within c (a :: s) = true := by
  have : a = c := by apply UInt8.toNat_inj.1; omega
  cases s with
  | nil => simp [within, this]
  | cons d s =>
    cases s with
    | nil => rw [within.eq_def]; simp [this]
    | cons b s => rw [within.eq_def]; simp [this, h d b s rfl]
theorem within_miss (c a : UInt8) (s : List UInt8) (h : (∀ d b r, s = d :: b :: r → d.toNat ≠ 45)) (hc : ¬ (a.toNat ≤ c.toNat ∧ c.toNat ≤ a.toNat)) : within c (a :: s) = within c s := by
  have : a ≠ c := by rintro rfl; omega
  cases s with
  | nil => simp [within, this]
  | cons d s =>
    cases s with
    | nil => rw [within.eq_def]; simp [this]
    | cons b s => rw [within.eq_def]; simp [this, h d b s rfl]
theorem within_hit3 (c a d b : UInt8) (s : List UInt8) (h : d.toNat = 45) (hc : a.toNat ≤ c.toNat ∧ c.toNat ≤ b.toNat) : within c (a :: d :: b :: s) = true := by
  rw [within.eq_def]; simp [h, hc]
theorem within_miss3 (c a d b : UInt8) (s : List UInt8) (h : d.toNat = 45) (hc : ¬ (a.toNat ≤ c.toNat ∧ c.toNat ≤ b.toNat)) : within c (a :: d :: b :: s) = within c s := by
  rw [within.eq_def]
  by_cases h1 : a.toNat ≤ c.toNat
  · have : ¬ c.toNat ≤ b.toNat := fun h2 => hc ⟨h1, h2⟩
    simp [h, this]
  · simp [h, h1]

set_option maxHeartbeats 1000000 in
set_option maxRecDepth 100000 in
theorem within_c (l : List UInt8) (c : UInt8) (hl : l.length ≤ 1000000000000) (w : World) :
    Calls Tryz.prog 54 #[.string ⟨l.toArray⟩, .int .u8 c.toNat] w fun e w' => e = .returned (.bool (within c l)) ∧ Below w.heap.size w w' := by
  go_enter Tryz.func54, Tryz.ntmps54
  go_wp2_with fail
  go_loopw [0] (fun s wr => ∃ r : List UInt8, r.length ≤ 1000000000000 ∧ s = .string ⟨r.toArray⟩ ∧ within c r = within c l ∧ Below w.heap.size w wr) (fun s _ => strLen s)
  case atStart => exact ⟨l, hl, rfl, rfl, Below.refl _ _⟩
  case round =>
    obtain ⟨s, hs, rfl, hw, hb⟩ := hrel
    have HW := Lib.hid hw
    clear hw
    cases s with
    | nil =>
      go_wp2_with fail
      go_ret
      exact ⟨ret_bool (by rw [← HW.out]; rfl), hb⟩
    | cons a s =>
      have hs0 := hs
      simp only [List.length_cons] at hs0
      cases s with
      | nil =>
        have e0 := at0 a []
        by_cases hc : a.toNat ≤ c.toNat ∧ c.toNat ≤ a.toNat
        · have HT := Lib.hid (within_hit c a [] (by intro d b r h; cases h) hc)
          obtain ⟨hc1, hc2⟩ := hc
          go_wp2_with fail
          go_quiet (fail)
          go_wp2_with fail
          go_ret
          exact ⟨ret_bool (by rw [← HW.out, HT.out]), below_drew hb _⟩
        · have HT := Lib.hid (within_miss c a [] (by intro d b r h; cases h) hc)
          by_cases hc1 : a.toNat ≤ c.toNat
          · have hc2 : ¬ c.toNat ≤ a.toNat := fun h2 => hc ⟨hc1, h2⟩
            clear hc
            go_wp2_with fail
            go_quiet (fail)
            go_wp2_with fail
            go_roundw
            case rel => exact ⟨[], by simp only [List.length_cons] at *; omega, rfl, HT.out.symm.trans HW.out, below_drew hb _⟩
            case measure => simp [strLen, ByteArray.size]; try omega
          · clear hc
            go_wp2_with fail
            go_quiet (fail)
            go_wp2_with fail
            go_roundw
            case rel => exact ⟨[], by simp only [List.length_cons] at *; omega, rfl, HT.out.symm.trans HW.out, below_drew hb _⟩
            case measure => simp [strLen, ByteArray.size]; try omega
      | cons d s =>
        cases s with
        | nil =>
          have e0 := at0 a [d]
          by_cases hc : a.toNat ≤ c.toNat ∧ c.toNat ≤ a.toNat
          · have HT := Lib.hid (within_hit c a [d] (by intro d b r h; cases h) hc)
            obtain ⟨hc1, hc2⟩ := hc
            go_wp2_with fail
            go_quiet (fail)
            go_wp2_with fail
            go_ret
            exact ⟨ret_bool (by rw [← HW.out, HT.out]), below_drew hb _⟩
          · have HT := Lib.hid (within_miss c a [d] (by intro d b r h; cases h) hc)
            by_cases hc1 : a.toNat ≤ c.toNat
            · have hc2 : ¬ c.toNat ≤ a.toNat := fun h2 => hc ⟨hc1, h2⟩
              clear hc
              go_wp2_with fail
              go_quiet (fail)
              go_wp2_with fail
              go_roundw
              case rel => exact ⟨[d], by simp only [List.length_cons] at *; omega, rfl, HT.out.symm.trans HW.out, below_drew hb _⟩
              case measure => simp [strLen, ByteArray.size]; try omega
            · clear hc
              go_wp2_with fail
              go_quiet (fail)
              go_wp2_with fail
              go_roundw
              case rel => exact ⟨[d], by simp only [List.length_cons] at *; omega, rfl, HT.out.symm.trans HW.out, below_drew hb _⟩
              case measure => simp [strLen, ByteArray.size]; try omega
        | cons b s =>
          have e0 := at0 a (d :: b :: s)
          have e1 := at1 a d (b :: s)
          have e2 := at2 a d b s
          by_cases h45 : d.toNat = 45
          · have b45 : ((d.toNat : Int) == 45) = true := by rw [h45]; rfl
            have H45 := Lib.hid h45
            clear h45
            by_cases hc : a.toNat ≤ c.toNat ∧ c.toNat ≤ b.toNat
            · have HT := Lib.hid (within_hit3 c a d b s H45.out hc)
              obtain ⟨hc1, hc2⟩ := hc
              go_wp2_with fail
              go_quiet (fail)
              go_wp2_with fail
              go_ret
              exact ⟨ret_bool (by rw [← HW.out, HT.out]), below_drew hb _⟩
            · have HT := Lib.hid (within_miss3 c a d b s H45.out hc)
              by_cases hc1 : a.toNat ≤ c.toNat
              · have hc2 : ¬ c.toNat ≤ b.toNat := fun h2 => hc ⟨hc1, h2⟩
                clear hc
                go_wp2_with fail
                go_quiet (fail)
                go_wp2_with fail
                go_roundw
                case rel => exact ⟨s, by simp only [List.length_cons] at *; omega, congrArg Value.string (ba_drop (a :: d :: b :: s) 3), HT.out.symm.trans HW.out, below_drew hb _⟩
                case measure => simp [strLen, ByteArray.size]; try omega
              · clear hc
                go_wp2_with fail
                go_quiet (fail)
                go_wp2_with fail
                go_roundw
                case rel => exact ⟨s, by simp only [List.length_cons] at *; omega, congrArg Value.string (ba_drop (a :: d :: b :: s) 3), HT.out.symm.trans HW.out, below_drew hb _⟩
                case measure => simp [strLen, ByteArray.size]; try omega
          · have b45 : ((d.toNat : Int) == 45) = false := beq_no (by omega)
            have H45 := Lib.hid (show ∀ d0 b0 r, d :: b :: s = d0 :: b0 :: r → d0.toNat ≠ 45 by intro d0 b0 r h; injection h with h1 h2; rw [← h1]; exact h45)
            clear h45
            by_cases hc : a.toNat ≤ c.toNat ∧ c.toNat ≤ a.toNat
            · have HT := Lib.hid (within_hit c a (d :: b :: s) H45.out hc)
              obtain ⟨hc1, hc2⟩ := hc
              go_wp2_with fail
              go_quiet (fail)
              go_wp2_with fail
              go_ret
              exact ⟨ret_bool (by rw [← HW.out, HT.out]), below_drew hb _⟩
            · have HT := Lib.hid (within_miss c a (d :: b :: s) H45.out hc)
              by_cases hc1 : a.toNat ≤ c.toNat
              · have hc2 : ¬ c.toNat ≤ a.toNat := fun h2 => hc ⟨hc1, h2⟩
                clear hc
                go_wp2_with fail
                go_quiet (fail)
                go_wp2_with fail
                go_roundw
                case rel => exact ⟨d :: b :: s, by simp only [List.length_cons] at *; omega, congrArg Value.string (ba_drop (a :: d :: b :: s) 1), HT.out.symm.trans HW.out, below_drew hb _⟩
                case measure => simp [strLen, ByteArray.size]; try omega
              · clear hc
                go_wp2_with fail
                go_quiet (fail)
                go_wp2_with fail
                go_roundw
                case rel => exact ⟨d :: b :: s, by simp only [List.length_cons] at *; omega, congrArg Value.string (ba_drop (a :: d :: b :: s) 1), HT.out.symm.trans HW.out, below_drew hb _⟩
                case measure => simp [strLen, ByteArray.size]; try omega

theorem fits_any (c : UInt8) : fits [63] c = true := rfl
theorem fits_byte (x : List UInt8) (c d : UInt8) (h0 : x ≠ [63]) (h1 : x.length ≤ 2) (hd : x.getLast? = some d) : fits x c = decide (d = c) := by
  unfold fits
  rw [if_neg h0, if_pos h1, hd]
  simp
theorem fits_not (x : List UInt8) (c : UInt8) (h1 : 2 < x.length) (h2 : x[1]? = some 33 ∧ 3 < x.length) : fits x c = !within c ((x.drop 2).take (x.length - 3)) := by
  unfold fits
  rw [if_neg (by rintro rfl; simp at h1), if_neg (by omega), if_pos h2]
theorem fits_set (x : List UInt8) (c : UInt8) (h1 : 2 < x.length) (h2 : ¬ (x[1]? = some 33 ∧ 3 < x.length)) : fits x c = within c ((x.drop 1).take (x.length - 2)) := by
  unfold fits
  rw [if_neg (by rintro rfl; simp at h1), if_neg (by omega), if_neg h2]

set_option maxRecDepth 100000 in
theorem matches_any (c : UInt8) (w : World) :
    Calls Tryz.prog 40 #[.string ⟨#[63]⟩, .int .u8 c.toNat] w fun e w' => e = .returned (.bool true) ∧ Below w.heap.size w w' := by
  go_enter Tryz.func40, Tryz.ntmps40
  go_wp2_with fail
  go_ret
  exact ⟨rfl, Below.refl _ _⟩
theorem slice_mid (l : List UInt8) (i j : Int) (h0 : 0 ≤ i) (h1 : i ≤ j) (h2 : j ≤ l.length) (wx : World) :
    (Instr.slice 9 (.string ⟨l.toArray⟩) (some (.int .i64 i)) (some (.int .i64 j)) none).run Tryz.prog wx = .ok (.string ⟨((l.take j.toNat).drop i.toNat).toArray⟩) wx := by
  rw [run_slice_string wx 9 ⟨l.toArray⟩ .i64 .i64 i j Tryz.underlying9 h0 h1 (by rw [ba_size]; exact h2), ba_extract]
theorem byte_beq (a b : UInt8) : ((a.toNat : Int) == (b.toNat : Int)) = decide (a = b) := by
  rw [Bool.eq_iff_iff]
  simp only [beq_iff_eq, decide_eq_true_eq]
  constructor
  · intro h; apply UInt8.toNat_inj.1; omega
  · rintro rfl; rfl
theorem last_at (x : List UInt8) (d : UInt8) (h : x.getLast? = some d) (hl : x.length - 1 < (⟨x.toArray⟩ : ByteArray).size) : (⟨x.toArray⟩ : ByteArray)[x.length - 1] = d := by
  rw [List.getLast?_eq_getElem?] at h
  show x.toArray[x.length - 1]'hl = d
  rw [List.getElem_toArray]
  exact (List.getElem?_eq_some_iff.1 h).2
set_option maxRecDepth 100000 in
theorem matches_byte (x : List UInt8) (c d : UInt8) (h0 : x ≠ [63]) (h1 : x.length ≤ 2) (hd : x.getLast? = some d) (w : World) :
    Calls Tryz.prog 40 #[.string ⟨x.toArray⟩, .int .u8 c.toNat] w fun e w' => e = .returned (.bool (decide (d = c))) ∧ Below w.heap.size w w' := by
  have hq : (x == [63]) = false := by simpa using h0
  have hl : 1 ≤ x.length := by
    cases x with
    | nil => cases hd
    | cons a x => simp
  clear h0
  go_enter Tryz.func40, Tryz.ntmps40
  go_wp2_with fail
  refine (isClass_f x _ h1).mono ?_
  rintro e w1 ⟨rfl, rfl⟩
  go_wp2_with fail
  go_ret
  exact ⟨ret_bool (by rw [last_at x d hd]; exact byte_beq d c), Below.refl _ _⟩
set_option maxRecDepth 100000 in
theorem matches_class (a b : UInt8) (s : List UInt8) (c : UInt8) (hs : s ≠ []) (hl : (a :: b :: s).length ≤ 1000000000000) (w : World) :
    Calls Tryz.prog 40 #[.string ⟨(a :: b :: s).toArray⟩, .int .u8 c.toNat] w fun e w' => e = .returned (.bool (fits (a :: b :: s) c)) ∧ Below w.heap.size w w' := by
  have hq : (a :: b :: s == [63]) = false := by simp
  have e1 := at1 a b s
  have hl' := hl
  simp only [List.length_cons] at hl'
  have h2 : 2 < (a :: b :: s).length := by
    cases s with
    | nil => exact absurd rfl hs
    | cons d s => simp
  have h2' : 1 ≤ s.length := by simp at h2; omega
  by_cases h33 : b.toNat = 33
  · have b33 : ((b.toNat : Int) == 33) = true := by rw [h33]; rfl
    by_cases h3 : 1 < s.length
    · have HF := Lib.hid (fits_not (a :: b :: s) c h2 ⟨by rw [byte_of b 33 h33]; rfl, by simp; omega⟩)
      have hsl := slice_mid (a :: b :: s) 2 (s.length + 1) (by omega) (by omega) (by simp only [List.length_cons]; omega)
      have hlt : ((List.take ((s.length : Int) + 1).toNat (a :: b :: s)).drop (2 : Int).toNat).length ≤ 1000000000000 := by simp; omega
      obtain ⟨q, hq1⟩ : ∃ q, q = (List.take ((s.length : Int) + 1).toNat (a :: b :: s)).drop (2 : Int).toNat := ⟨_, rfl⟩
      have hq2 : q = ((a :: b :: s).drop 2).take ((a :: b :: s).length - 3) := by
        rw [hq1, List.drop_take]
        congr 1
      have HQ := Lib.hid hq2
      rw [← hq1] at hsl hlt
      clear h33 hq1 hq2
      go_enter Tryz.func40, Tryz.ntmps40
      go_wp2_with fail
      refine (isClass_t _ _ h2).mono ?_
      rintro e w1 ⟨rfl, rfl⟩
      go_wp2_with fail
      refine (within_c q c hlt _).mono ?_
      rintro e w1 ⟨rfl, hb⟩
      go_wp2_with fail
      go_ret
      exact ⟨ret_bool (by rw [HF.out, HQ.out]), hb⟩
    · have hs1 : s.length = 1 := by omega
      have HF := Lib.hid (fits_set (a :: b :: s) c h2 (by simp; omega))
      have hsl := slice_mid (a :: b :: s) 1 (s.length + 1) (by omega) (by omega) (by simp only [List.length_cons]; omega)
      have hlt : ((List.take ((s.length : Int) + 1).toNat (a :: b :: s)).drop (1 : Int).toNat).length ≤ 1000000000000 := by simp; omega
      obtain ⟨q, hq1⟩ : ∃ q, q = (List.take ((s.length : Int) + 1).toNat (a :: b :: s)).drop (1 : Int).toNat := ⟨_, rfl⟩
      have hq2 : q = ((a :: b :: s).drop 1).take ((a :: b :: s).length - 2) := by
        rw [hq1, List.drop_take]
        congr 1
      have HQ := Lib.hid hq2
      rw [← hq1] at hsl hlt
      clear h33 hs1 hq1 hq2
      go_enter Tryz.func40, Tryz.ntmps40
      go_wp2_with fail
      refine (isClass_t _ _ h2).mono ?_
      rintro e w1 ⟨rfl, rfl⟩
      go_wp2_with fail
      refine (within_c q c hlt _).mono ?_
      rintro e w1 ⟨rfl, hb⟩
      go_wp2_with fail
      go_ret
      exact ⟨ret_bool (by rw [HF.out, HQ.out]), hb⟩
  · have b33 : ((b.toNat : Int) == 33) = false := beq_no (by omega)
    have HF := Lib.hid (fits_set (a :: b :: s) c h2 (by rintro ⟨h, _⟩; exact h33 (by simp at h; rw [h]; rfl)))
    have hsl := slice_mid (a :: b :: s) 1 (s.length + 1) (by omega) (by omega) (by simp only [List.length_cons]; omega)
    have hlt : ((List.take ((s.length : Int) + 1).toNat (a :: b :: s)).drop (1 : Int).toNat).length ≤ 1000000000000 := by simp; omega
    obtain ⟨q, hq1⟩ : ∃ q, q = (List.take ((s.length : Int) + 1).toNat (a :: b :: s)).drop (1 : Int).toNat := ⟨_, rfl⟩
    have hq2 : q = ((a :: b :: s).drop 1).take ((a :: b :: s).length - 2) := by
      rw [hq1, List.drop_take]
      congr 1
    have HQ := Lib.hid hq2
    rw [← hq1] at hsl hlt
    clear h33 hq1 hq2
    go_enter Tryz.func40, Tryz.ntmps40
    go_wp2_with fail
    refine (isClass_t _ _ h2).mono ?_
    rintro e w1 ⟨rfl, rfl⟩
    go_wp2_with fail
    refine (within_c q c hlt _).mono ?_
    rintro e w1 ⟨rfl, hb⟩
    go_wp2_with fail
    go_ret
    exact ⟨ret_bool (by rw [HF.out, HQ.out]), hb⟩
end Go.Proofs.YtanjmljlpdhlnaaGreatDoor
