/-
  The reference's digit and Unquote: each returns what chapter 2 says; of what was there nothing has turned.
-/
import Derived.Test.YthibikdnoogfoaaGreatDoorTRefC
import Derived.Test.YthibikdnoogfoaaGreatDoorTUnq
import Derived.Deep.QuietTactic
import Derived.BigQuiet
namespace Go.Proofs.YthibikdnoogfoaaGreatDoor
open Go Go.RowKit Go.Sort Wire Txt

def digR (c : UInt8) : Nat := if 48 ≤ c.toNat ∧ c.toNat ≤ 57 then c.toNat - 48 else if 97 ≤ c.toNat ∧ c.toNat ≤ 102 then c.toNat - 87 else 0
theorem digR_lt (c : UInt8) : digR c < 16 := by unfold digR; split; omega; split <;> omega
theorem digR_hexd : ∀ k, k < 16 → digR (hexd k) = k := by decide +kernel
theorem digR_of : ∀ n, n < 256 → (∀ k, k < 16 → hexd k ≠ UInt8.ofNat n) → digR (UInt8.ofNat n) = 0 := by decide +kernel
theorem digR_no (c : UInt8) (h : ∀ k, k < 16 → hexd k ≠ c) : digR c = 0 := by
  have e := byte_of c c.toNat rfl
  rw [e]
  exact digR_of c.toNat c.toNat_lt (fun k hk => by rw [← e]; exact h k hk)
theorem wrap_u8_id (n : Nat) (h : n < 256) : IntKind.u8.wrap (n : Int) = n := wrap_u8 n h

set_option maxHeartbeats 1000000 in
set_option maxRecDepth 100000 in
theorem digitR_c (c : UInt8) (w : World) :
    Calls Tryz.prog 91 #[.int .u8 c.toNat] w fun e w' => e = .returned (.int .u8 (digR c)) ∧ w' = w := by
  go_enter Tryz.func91, Tryz.ntmps91
  go_wp2_with fail
  go_loopg [3] 16 (fun g i wr => ∃ k : Nat, k ≤ 16 ∧ g = 16 - k ∧ i = .int .i64 k ∧ Hid (∀ j, j < k → hexd j ≠ c) ∧ w = wr)
  case atStart => exact ⟨0, by omega, rfl, rfl, Lib.hid (fun j hj => by omega), rfl⟩
  case round =>
    obtain ⟨k, hk, rfl, rfl, hno, rfl⟩ := hrel
    by_cases hlt : k < 16
    · have ek := dig_at k hlt
      have hcl := c.toNat_lt
      by_cases he : hexd k = c
      · have HD := Lib.hid (show digR c = k by rw [← he]; exact digR_hexd k hlt)
        have be : (((hexd k).toNat : Int) == (c.toNat : Int)) = true := by rw [he]; simp
        clear he hno
        go_wp2_with fail
        go_ret
        exact ⟨by rw [HD.out]; rfl, rfl⟩
      · have be : (((hexd k).toNat : Int) == (c.toNat : Int)) = false := beq_no (by
          intro e
          exact he (UInt8.toNat_inj.1 (by omega)))
        have HN := Lib.hid (show ∀ j, j < k + 1 → hexd j ≠ c by
          intro j hj
          rcases Nat.lt_succ_iff_lt_or_eq.1 hj with h | rfl
          · exact hno.out j h
          · exact he)
        clear he hno
        go_wp2_with fail
        go_roundg (16 - (k + 1))
        case measure => omega
        case rel => exact ⟨k + 1, by omega, rfl, by go_num, HN, rfl⟩
    · obtain rfl : k = 16 := by omega
      have HD := Lib.hid (digR_no c hno.out)
      clear hno
      go_wp2_with fail
      go_ret
      exact ⟨by rw [HD.out]; rfl, rfl⟩

def hexR (a b : UInt8) : UInt8 := UInt8.ofNat (digR a * 16 + digR b)
theorem hexR_nat (a b : UInt8) : (hexR a b).toNat = digR a * 16 + digR b := by
  have := digR_lt a
  have := digR_lt b
  unfold hexR
  rw [UInt8.toNat_ofNat']
  omega
/-- What the reference reads of the bytes between the first and the last one. -/
def fR : List UInt8 → List UInt8
  | [] => []
  | c :: r => if c = 92 then (match r with
      | [] => [92]
      | d :: r1 => if d = 110 then 10 :: fR r1 else if d = 120 then (match r1 with
          | a :: b :: r2 => hexR a b :: fR r2
          | [a] => 120 :: fR [a]
          | [] => 120 :: fR []) else d :: fR r1) else c :: fR r
theorem fR_plain (c : UInt8) (r : List UInt8) (h : c ≠ 92) : fR (c :: r) = c :: fR r := by
  rw [fR.eq_def]
  simp [h]
theorem fR_last : fR [92] = [92] := by
  rw [fR.eq_def]
  simp
theorem fR_n (r : List UInt8) : fR (92 :: 110 :: r) = 10 :: fR r := by
  rw [fR.eq_def]
  simp
theorem fR_x (a b : UInt8) (r : List UInt8) : fR (92 :: 120 :: a :: b :: r) = hexR a b :: fR r := by
  rw [fR.eq_def]
  simp
theorem fR_x1 (a : UInt8) : fR [92, 120, a] = 120 :: fR [a] := by
  rw [fR.eq_def]
  simp
theorem fR_x0 : fR [92, 120] = 120 :: fR [] := by
  rw [fR.eq_def]
  simp
theorem fR_bs (d : UInt8) (r : List UInt8) (h1 : d ≠ 110) (h2 : d ≠ 120) : fR (92 :: d :: r) = d :: fR r := by
  rw [fR.eq_def]
  simp [h1, h2]
theorem fR_nil : fR [] = [] := by rw [fR.eq_def]
theorem fR_qb (c : UInt8) (r : List UInt8) : fR (qb c ++ r) = c :: fR r := by
  unfold qb
  have hc := c.toNat_lt
  by_cases h1 : c.toNat = 34 ∨ c.toNat = 92
  · rw [if_pos h1, List.cons_append]
    have n1 : c ≠ 110 := by rintro rfl; simp at h1
    have n2 : c ≠ 120 := by rintro rfl; simp at h1
    exact fR_bs c r n1 n2
  · rw [if_neg h1]
    by_cases h2 : c.toNat = 10
    · rw [if_pos h2]
      have : c = 10 := byte_of c 10 h2
      subst this
      exact fR_n r
    · rw [if_neg h2]
      by_cases h3 : c.toNat < 32 ∨ 126 < c.toNat
      · rw [if_pos h3]
        have : hexR (hexd (c.toNat / 16)) (hexd (c.toNat % 16)) = c := by
          apply UInt8.toNat_inj.1
          rw [hexR_nat, digR_hexd _ (by omega), digR_hexd _ (by omega)]
          omega
        exact (fR_x _ _ r).trans (by rw [this])
      · rw [if_neg h3]
        exact fR_plain c r (by rintro rfl; simp at h1)
theorem fR_flat (l : List UInt8) : fR (l.flatMap qb) = l := by
  induction l with
  | nil => exact fR_nil
  | cons c l ih => rw [List.flatMap_cons, fR_qb, ih]
def unqR (s : List UInt8) : List UInt8 := fR (s.drop 1).dropLast
theorem unqR_quote (l : List UInt8) : unqR (quote l) = l := by
  unfold unqR quote
  rw [List.drop_succ_cons, List.drop_zero, List.dropLast_concat, fR_flat]
theorem fR_len_aux : ∀ (n : Nat) (s : List UInt8), s.length ≤ n → (fR s).length ≤ s.length := by
  intro n
  induction n with
  | zero =>
    intro s h
    have : s = [] := List.eq_nil_of_length_eq_zero (by omega)
    subst this
    rw [fR_nil]
    exact Nat.le_refl _
  | succ n ih =>
    intro s h
    cases s with
    | nil => rw [fR_nil]; exact Nat.le_refl _
    | cons c r =>
      simp only [List.length_cons] at h
      by_cases hc : c = 92
      · subst hc
        cases r with
        | nil => rw [fR_last]; exact Nat.le_refl _
        | cons d r =>
          simp only [List.length_cons] at h
          by_cases h1 : d = 110
          · subst h1
            rw [fR_n]
            have := ih r (by omega)
            simp only [List.length_cons]; omega
          · by_cases h2 : d = 120
            · subst h2
              cases r with
              | nil => rw [fR_x0, fR_nil]; simp
              | cons a r =>
                cases r with
                | nil =>
                  rw [fR_x1]
                  have := ih [a] (by simp at h ⊢; omega)
                  simp only [List.length_cons] at *; omega
                | cons b r =>
                  rw [fR_x]
                  simp only [List.length_cons] at h
                  have := ih r (by omega)
                  simp only [List.length_cons]; omega
            · rw [fR_bs d r h1 h2]
              have := ih r (by omega)
              simp only [List.length_cons]; omega
      · rw [fR_plain c r hc]
        have := ih r (by omega)
        simp only [List.length_cons]; omega
theorem unqR_len (s : List UInt8) : (unqR s).length ≤ s.length := by
  have h1 := fR_len_aux _ (s.drop 1).dropLast (Nat.le_refl _)
  have h2 : (s.drop 1).dropLast.length ≤ s.length := by rw [List.length_dropLast, List.length_drop]; omega
  exact Nat.le_trans h1 h2
/-- What is left of the bytes between the first and the last one, from a place on. -/
def restR (s : List UInt8) (i : Nat) : List UInt8 := (s.take (s.length - 1)).drop i
theorem restR_one (s : List UInt8) : restR s 1 = (s.drop 1).dropLast := by
  unfold restR
  rw [List.dropLast_eq_take, List.length_drop, ← List.drop_take]
theorem restR_at {s q : List UInt8} {i : Nat} (h : restR s i = q) (j : Nat) (c : UInt8) (hq : q[j]? = some c) : s[i + j]? = some c := by
  subst h
  unfold restR at hq
  rw [List.getElem?_drop, List.getElem?_take] at hq
  split at hq
  · exact hq
  · cases hq
theorem restR_drop {s q : List UInt8} {i : Nat} (h : restR s i = q) (n : Nat) : restR s (i + n) = q.drop n := by
  subst h
  unfold restR
  rw [List.drop_drop]
theorem restR_len (s : List UInt8) (i : Nat) : (restR s i).length = s.length - 1 - i := by
  unfold restR
  rw [List.length_drop, List.length_take]
  omega

set_option maxHeartbeats 4000000 in
set_option maxRecDepth 100000 in
theorem unquoteR_c (s : List UInt8) (hs : s.length ≤ 10000000) (w : World) :
    Calls Tryz.prog 65 #[.string ⟨s.toArray⟩] w fun e w' => e = .returned (unqV s) ∧ Below w.heap.size w w' := by
  obtain ⟨i0, hi, hz0, hz1, hz2⟩ := info_parts infoByte
  have HA := Lib.hid (unquote_any unqR unqR_quote s)
  have hul := unqR_len s
  go_enter Tryz.func65, Tryz.ntmps65
  go_wp2_with fail
  go_loopg [4, 5, 6] (s.length - 2) (fun g v i _c wr => ∃ (k : Nat) (q acc : List UInt8), g = q.length ∧ 1 ≤ k ∧ i = .int .i64 k ∧ OwnBytes w.heap.size v acc wr ∧ Hid (acc ++ fR q = unqR s) ∧ Hid (restR s k = q) ∧ Below w.heap.size w wr ∧ acc.length + q.length ≤ s.length ∧ q.length = s.length - 1 - k)
  case atStart => exact ⟨1, restR s 1, [], by rw [restR_len]; omega, Nat.le_refl _, rfl, World.ownsRow_nil _ _ _ _, Lib.hid (by rw [restR_one]; rfl), Lib.hid rfl, Below.refl _ _, by rw [restR_len, List.length_nil]; omega, restR_len s 1⟩
  case round =>
    obtain ⟨k, q, acc, rfl, hk1, rfl, hown, HQ, HS, hb, hacc, hql⟩ := hrel
    have hz := hb.size
    cases q with
    | nil =>
      have HU := Lib.hid (show acc = unqR s by rw [← HQ.out, fR_nil, List.append_nil])
      simp only [List.length_nil] at hql hacc
      have hcv := conv_own hown
      have hge : ¬ ((k : Int) < (s.length : Int) - 1) := by omega
      by_cases hqu : quote acc = s
      · have HV := Lib.hid (unqV_some (show unquote s = some acc by rw [HA.out, ← HU.out, if_pos hqu]))
        have b1 : (!quote acc == s) = false := by rw [hqu]; simp
        clear hqu hql
        go_wp2_with fail
        refine (quoteR_c acc (by omega) _).mono ?_
        rintro e w2 ⟨rfl, hb2⟩
        have hcv2 := conv_own (hown.on hb2)
        go_wp2_with fail
        go_ret2
        exact ⟨congrArg Ending.returned HV.out.symm, chain hb hb2⟩
      · have HV := Lib.hid (unqV_none (show unquote s = none by rw [HA.out, ← HU.out, if_neg hqu]))
        have b1 : (!quote acc == s) = true := by simp [hqu]
        clear hqu hql
        go_wp2_with fail
        refine (quoteR_c acc (by omega) _).mono ?_
        rintro e w2 ⟨rfl, hb2⟩
        go_wp2_with fail
        go_ret2
        exact ⟨congrArg Ending.returned HV.out.symm, chain hb hb2⟩
    | cons c r =>
      have hat := restR_at HS.out
      simp only [List.length_cons] at hql hacc
      have hlt : (k : Int) < (s.length : Int) - 1 := by omega
      have e0 := at_k s k c (hat 0 c rfl) (by rw [ba_size]; omega)
      by_cases hc : c.toNat = 92
      · have b92 : ((c.toNat : Int) == 92) = true := by rw [hc]; rfl
        obtain rfl : c = 92 := byte_of c 92 hc
        clear hc
        cases r with
        | nil =>
          have HN := Lib.hid (show (acc ++ [92]) ++ fR [] = unqR s by rw [← HQ.out, fR_nil]; simp [fR_last])
          have HS2 := Lib.hid (restR_drop HS.out 1)
          simp only [List.drop_succ_cons, List.drop_zero, List.length_nil] at HS2 hql hacc
          have hge : ¬ ((k : Int) + 1 < (s.length : Int) - 1) := by omega
          clear hat
          go_wp2_with (at_builtin; refine wpList_append_own _ rfl _ _ 45 rfl w.heap.size 5 i0 (.int .u8 0) 1 1 Tryz.underlying45 hi hz0 hz1 hz2 rfl (by decide) _ _ _ rfl (hown.alloc _) ⟨wr.heap.size, 0, none⟩ 1 1 (Lib.byteCells [92]) rfl rfl ?c1 ?c2 ?c3 ?c4 ?c5 ?_)
          case c1 => (intro j u hj; first | (refine cells_at wr _ _ j u ?_; exact hj) | exact hj)
          case c2 => exact bytes_one _
          case c3 => unfold maxLen; omega
          case c4 => omega
          case c5 => first | omega | (simp; omega)
          intro v' w3 hown3 hgrow _
          have hb3 : Below w.heap.size w w3 := (hb.alloc hz _).grown hgrow (by simp; omega) (fun k hk => (hown.lt k hk).1)
          rw [← Lib.byteCells_append] at hown3
          clear hgrow
          go_wp2_with fail
          go_roundg ([] : List UInt8).length
          case measure => first | omega | (simp only [List.length_cons, List.length_append, List.length_nil] at *; omega)
          case rel => exact ⟨k + 1, [], acc ++ [92], rfl, by first | omega | (simp only [List.length_cons, List.length_append, List.length_nil] at *; omega), by go_num, by unfold OwnBytes; rw [List.length_append]; exact hown3, HN, HS2, hb3, by first | omega | (simp only [List.length_cons, List.length_append, List.length_nil] at *; omega), by first | omega | (simp only [List.length_cons, List.length_append, List.length_nil] at *; omega)⟩
        | cons d r =>
          simp only [List.length_cons] at hql hacc
          have hlt2 : (k : Int) + 1 < (s.length : Int) - 1 := by omega
          have e1 := at_k s (k + 1) d (hat 1 d rfl) (by rw [ba_size]; omega)
          by_cases hn : d.toNat = 110
          · have b110 : ((d.toNat : Int) == 110) = true := by rw [hn]; rfl
            obtain rfl : d = 110 := byte_of d 110 hn
            have HN := Lib.hid (show (acc ++ [10]) ++ fR r = unqR s by rw [← HQ.out]; simp [fR_n])
            have HS2 := Lib.hid (restR_drop HS.out 2)
            simp only [List.drop_succ_cons, List.drop_zero] at HS2
            clear hat hn
            go_wp2_with (at_builtin; refine wpList_append_own _ rfl _ _ 45 rfl w.heap.size 5 i0 (.int .u8 0) 1 1 Tryz.underlying45 hi hz0 hz1 hz2 rfl (by decide) _ _ _ rfl (hown.alloc _) ⟨wr.heap.size, 0, none⟩ 1 1 (Lib.byteCells [10]) rfl rfl ?c1 ?c2 ?c3 ?c4 ?c5 ?_)
            case c1 => (intro j u hj; first | (refine cells_at wr _ _ j u ?_; exact hj) | exact hj)
            case c2 => exact bytes_one _
            case c3 => unfold maxLen; omega
            case c4 => omega
            case c5 => first | omega | (simp; omega)
            intro v' w3 hown3 hgrow _
            have hb3 : Below w.heap.size w w3 := (hb.alloc hz _).grown hgrow (by simp; omega) (fun k hk => (hown.lt k hk).1)
            rw [← Lib.byteCells_append] at hown3
            clear hgrow
            go_wp2_with fail
            go_roundg (r : List UInt8).length
            case measure => first | omega | (simp only [List.length_cons, List.length_append, List.length_nil] at *; omega)
            case rel => exact ⟨k + 2, r, acc ++ [10], rfl, by first | omega | (simp only [List.length_cons, List.length_append, List.length_nil] at *; omega), by go_num, by unfold OwnBytes; rw [List.length_append]; exact hown3, HN, HS2, hb3, by first | omega | (simp only [List.length_cons, List.length_append, List.length_nil] at *; omega), by first | omega | (simp only [List.length_cons, List.length_append, List.length_nil] at *; omega)⟩
          · have b110 : ((d.toNat : Int) == 110) = false := beq_no (by omega)
            have n1 : d ≠ 110 := by rintro rfl; exact hn rfl
            by_cases hx : d.toNat = 120
            · have b120 : ((d.toNat : Int) == 120) = true := by rw [hx]; rfl
              obtain rfl : d = 120 := byte_of d 120 hx
              clear hx hn n1
              match r, hat, hql, hacc, HS, HQ with
              | [], hat, hql, hacc, HS, HQ =>
                have HN := Lib.hid (show (acc ++ [120]) ++ fR [] = unqR s by rw [← HQ.out]; simp [fR_x0])
                have HS2 := Lib.hid (restR_drop HS.out 2)
                simp only [List.drop_succ_cons, List.drop_zero, List.length_nil] at HS2 hql hacc
                have hge : ¬ ((k : Int) + 1 + 1 + 1 < (s.length : Int) - 1) := by omega
                clear hat
                go_wp2_with (at_builtin; refine wpList_append_own _ rfl _ _ 45 rfl w.heap.size 5 i0 (.int .u8 0) 1 1 Tryz.underlying45 hi hz0 hz1 hz2 rfl (by decide) _ _ _ rfl (hown.alloc _) ⟨wr.heap.size, 0, none⟩ 1 1 (Lib.byteCells [120]) rfl rfl ?c1 ?c2 ?c3 ?c4 ?c5 ?_)
                case c1 => (intro j u hj; first | (refine cells_at wr _ _ j u ?_; exact hj) | exact hj)
                case c2 => exact bytes_one _
                case c3 => unfold maxLen; omega
                case c4 => omega
                case c5 => first | omega | (simp; omega)
                intro v' w3 hown3 hgrow _
                have hb3 : Below w.heap.size w w3 := (hb.alloc hz _).grown hgrow (by simp; omega) (fun k hk => (hown.lt k hk).1)
                rw [← Lib.byteCells_append] at hown3
                clear hgrow
                go_wp2_with fail
                go_roundg ([] : List UInt8).length
                case measure => first | omega | (simp only [List.length_cons, List.length_append, List.length_nil] at *; omega)
                case rel => exact ⟨k + 2, [], acc ++ [120], rfl, by first | omega | (simp only [List.length_cons, List.length_append, List.length_nil] at *; omega), by go_num, by unfold OwnBytes; rw [List.length_append]; exact hown3, HN, HS2, hb3, by first | omega | (simp only [List.length_cons, List.length_append, List.length_nil] at *; omega), by first | omega | (simp only [List.length_cons, List.length_append, List.length_nil] at *; omega)⟩
              | [a], hat, hql, hacc, HS, HQ =>
                have HN := Lib.hid (show (acc ++ [120]) ++ fR [a] = unqR s by rw [← HQ.out]; simp [fR_x1])
                have HS2 := Lib.hid (restR_drop HS.out 2)
                simp only [List.drop_succ_cons, List.drop_zero, List.length_nil, List.length_cons] at HS2 hql hacc
                have hge : ¬ ((k : Int) + 1 + 1 + 1 < (s.length : Int) - 1) := by omega
                clear hat
                go_wp2_with (at_builtin; refine wpList_append_own _ rfl _ _ 45 rfl w.heap.size 5 i0 (.int .u8 0) 1 1 Tryz.underlying45 hi hz0 hz1 hz2 rfl (by decide) _ _ _ rfl (hown.alloc _) ⟨wr.heap.size, 0, none⟩ 1 1 (Lib.byteCells [120]) rfl rfl ?c1 ?c2 ?c3 ?c4 ?c5 ?_)
                case c1 => (intro j u hj; first | (refine cells_at wr _ _ j u ?_; exact hj) | exact hj)
                case c2 => exact bytes_one _
                case c3 => unfold maxLen; omega
                case c4 => omega
                case c5 => first | omega | (simp; omega)
                intro v' w3 hown3 hgrow _
                have hb3 : Below w.heap.size w w3 := (hb.alloc hz _).grown hgrow (by simp; omega) (fun k hk => (hown.lt k hk).1)
                rw [← Lib.byteCells_append] at hown3
                clear hgrow
                go_wp2_with fail
                go_roundg ([a] : List UInt8).length
                case measure => first | omega | (simp only [List.length_cons, List.length_append, List.length_nil] at *; omega)
                case rel => exact ⟨k + 2, [a], acc ++ [120], rfl, by first | omega | (simp only [List.length_cons, List.length_append, List.length_nil] at *; omega), by go_num, by unfold OwnBytes; rw [List.length_append]; exact hown3, HN, HS2, hb3, by first | omega | (simp only [List.length_cons, List.length_append, List.length_nil] at *; omega), by first | omega | (simp only [List.length_cons, List.length_append, List.length_nil] at *; omega)⟩
              | a :: b :: r2, hat, hql, hacc, HS, HQ =>
                have HN := Lib.hid (show (acc ++ [hexR a b]) ++ fR r2 = unqR s by rw [← HQ.out]; simp [fR_x])
                have HS2 := Lib.hid (restR_drop HS.out 4)
                simp only [List.drop_succ_cons, List.drop_zero, List.length_cons] at HS2 hql hacc
                have hlt3 : (k : Int) + 1 + 1 + 1 < (s.length : Int) - 1 := by omega
                have e2 := at_k s (k + 2) a (hat 2 a rfl) (by rw [ba_size]; omega)
                have e3 := at_k s (k + 3) b (hat 3 b rfl) (by rw [ba_size]; omega)
                obtain ⟨x, hx⟩ : ∃ x, x = hexR a b := ⟨_, rfl⟩
                rw [← hx] at HN
                have hxn := hexR_nat a b
                rw [← hx] at hxn
                have ha := digR_lt a
                have hbb := digR_lt b
                have hm1 : IntKind.u8.wrap ((digR a : Int) * 16) = (digR a : Int) * 16 := by
                  rw [show (digR a : Int) * 16 = ((digR a * 16 : Nat) : Int) by omega]; exact wrap_u8 _ (by omega)
                have hm2 : IntKind.u8.wrap ((digR a : Int) * 16 + (digR b : Int)) = (x.toNat : Int) := by
                  rw [show (digR a : Int) * 16 + (digR b : Int) = (x.toNat : Int) by omega]; exact wrap_u8 _ x.toNat_lt
                clear hat hx hxn
                go_wp2_with fail
                have z2 : (0 : Int) ≤ (k : Int) + 1 + 1 := by omega
                have z3 : (0 : Int) ≤ (k : Int) + 1 + 1 + 1 := by omega
                have y2 : (k : Int) + 1 + 1 < (s.length : Int) := by omega
                have y3 : (k : Int) + 1 + 1 + 1 < (s.length : Int) := by omega
                have hw3 : IntKind.i64.wrap ((k : Int) + 1 + 1 + 1) = (k : Int) + 1 + 1 + 1 := IntWalk.i64_in _ (by omega)
                have e2' : ∀ h, (⟨s.toArray⟩ : ByteArray)[((k : Int) + 1 + 1).toNat]'h = a := fun h => e2
                have e3' : ∀ h, (⟨s.toArray⟩ : ByteArray)[((k : Int) + 1 + 1 + 1).toNat]'h = b := fun h => e3
                go_quiet ((go_at_call 91; exact Calls.quiet_of_same (digitR_c _ _)))
                clear z2 z3 y2 y3 hw3 e2' e3' e2 e3 hm1
                generalize hwd : World.drewN _ _ = w1
                have hb1 : Below w.heap.size w w1 := by rw [← hwd]; exact below_drew hb _
                have hown1 : OwnBytes w.heap.size u4 acc w1 := by rw [← hwd]; exact hown.on (below_drewN _ _)
                have hz1' := hb1.size
                clear hwd hown hb hz
                go_wp2_with (at_builtin; refine wpList_append_own _ rfl _ _ 45 rfl w.heap.size 5 i0 (.int .u8 0) 1 1 Tryz.underlying45 hi hz0 hz1 hz2 rfl (by decide) _ _ _ rfl (hown1.alloc _) ⟨w1.heap.size, 0, none⟩ 1 1 (Lib.byteCells [x]) rfl rfl ?c1 ?c2 ?c3 ?c4 ?c5 ?_)
                case c1 => (intro j u hj; first | (refine cells_at w1 _ _ j u ?_; exact hj) | exact hj)
                case c2 => exact bytes_one _
                case c3 => unfold maxLen; omega
                case c4 => omega
                case c5 => first | omega | (simp; omega)
                intro v' w3 hown3 hgrow _
                have hb3 : Below w.heap.size w w3 := (hb1.alloc hz1' _).grown hgrow (by simp; omega) (fun k hk => (hown1.lt k hk).1)
                rw [← Lib.byteCells_append] at hown3
                clear hgrow
                go_wp2_with fail
                go_roundg (r2 : List UInt8).length
                case measure => first | omega | (simp only [List.length_cons, List.length_append, List.length_nil] at *; omega)
                case rel => exact ⟨k + 4, r2, acc ++ [x], rfl, by first | omega | (simp only [List.length_cons, List.length_append, List.length_nil] at *; omega), by go_num, by unfold OwnBytes; rw [List.length_append]; exact hown3, HN, HS2, hb3, by first | omega | (simp only [List.length_cons, List.length_append, List.length_nil] at *; omega), by first | omega | (simp only [List.length_cons, List.length_append, List.length_nil] at *; omega)⟩
            · have b120 : ((d.toNat : Int) == 120) = false := beq_no (by omega)
              have n2 : d ≠ 120 := by rintro rfl; exact hx rfl
              have HN := Lib.hid (show (acc ++ [d]) ++ fR r = unqR s by rw [← HQ.out]; simp [fR_bs d r n1 n2])
              have HS2 := Lib.hid (restR_drop HS.out 2)
              simp only [List.drop_succ_cons, List.drop_zero] at HS2
              clear hat hn hx n1 n2
              go_wp2_with (at_builtin; refine wpList_append_own _ rfl _ _ 45 rfl w.heap.size 5 i0 (.int .u8 0) 1 1 Tryz.underlying45 hi hz0 hz1 hz2 rfl (by decide) _ _ _ rfl (hown.alloc _) ⟨wr.heap.size, 0, none⟩ 1 1 (Lib.byteCells [d]) rfl rfl ?c1 ?c2 ?c3 ?c4 ?c5 ?_)
              case c1 => (intro j u hj; first | (refine cells_at wr _ _ j u ?_; exact hj) | exact hj)
              case c2 => exact bytes_one _
              case c3 => unfold maxLen; omega
              case c4 => omega
              case c5 => first | omega | (simp; omega)
              intro v' w3 hown3 hgrow _
              have hb3 : Below w.heap.size w w3 := (hb.alloc hz _).grown hgrow (by simp; omega) (fun k hk => (hown.lt k hk).1)
              rw [← Lib.byteCells_append] at hown3
              clear hgrow
              go_wp2_with fail
              go_roundg (r : List UInt8).length
              case measure => first | omega | (simp only [List.length_cons, List.length_append, List.length_nil] at *; omega)
              case rel => exact ⟨k + 2, r, acc ++ [d], rfl, by first | omega | (simp only [List.length_cons, List.length_append, List.length_nil] at *; omega), by go_num, by unfold OwnBytes; rw [List.length_append]; exact hown3, HN, HS2, hb3, by first | omega | (simp only [List.length_cons, List.length_append, List.length_nil] at *; omega), by first | omega | (simp only [List.length_cons, List.length_append, List.length_nil] at *; omega)⟩
      · have b92 : ((c.toNat : Int) == 92) = false := beq_no (by omega)
        have n92 : c ≠ 92 := by rintro rfl; exact hc rfl
        have HN := Lib.hid (show (acc ++ [c]) ++ fR r = unqR s by rw [← HQ.out, fR_plain c r n92]; simp)
        have HS2 := Lib.hid (restR_drop HS.out 1)
        simp only [List.drop_succ_cons, List.drop_zero] at HS2
        clear hat hc n92
        go_wp2_with (at_builtin; refine wpList_append_own _ rfl _ _ 45 rfl w.heap.size 5 i0 (.int .u8 0) 1 1 Tryz.underlying45 hi hz0 hz1 hz2 rfl (by decide) _ _ _ rfl (hown.alloc _) ⟨wr.heap.size, 0, none⟩ 1 1 (Lib.byteCells [c]) rfl rfl ?c1 ?c2 ?c3 ?c4 ?c5 ?_)
        case c1 => (intro j u hj; first | (refine cells_at wr _ _ j u ?_; exact hj) | exact hj)
        case c2 => exact bytes_one _
        case c3 => unfold maxLen; omega
        case c4 => omega
        case c5 => first | omega | (simp; omega)
        intro v' w3 hown3 hgrow _
        have hb3 : Below w.heap.size w w3 := (hb.alloc hz _).grown hgrow (by simp; omega) (fun k hk => (hown.lt k hk).1)
        rw [← Lib.byteCells_append] at hown3
        clear hgrow
        go_wp2_with fail
        go_roundg (r : List UInt8).length
        case measure => first | omega | (simp only [List.length_cons, List.length_append, List.length_nil] at *; omega)
        case rel => exact ⟨k + 1, r, acc ++ [c], rfl, by first | omega | (simp only [List.length_cons, List.length_append, List.length_nil] at *; omega), by go_num, by unfold OwnBytes; rw [List.length_append]; exact hown3, HN, HS2, hb3, by first | omega | (simp only [List.length_cons, List.length_append, List.length_nil] at *; omega), by first | omega | (simp only [List.length_cons, List.length_append, List.length_nil] at *; omega)⟩
end Go.Proofs.YthibikdnoogfoaaGreatDoor
