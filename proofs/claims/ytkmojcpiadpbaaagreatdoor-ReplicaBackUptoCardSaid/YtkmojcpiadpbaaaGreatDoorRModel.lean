/-
  A replica as the document describes it, with any numbers in its messages: Tick, Hear, Propose; New.
-/
import Derived.Test.YtkmojcpiadpbaaaGreatDoorRLog
namespace Go.Proofs.YtkmojcpiadpbaaaGreatDoor
namespace Rp

structure Msg where
  k : Int
  fr : Int
  dst : Int
  tm : Int
  ix : Int
  pv : Int
  cm : Int
  yes : Bool
  rs : List Rec
deriving DecidableEq
structure Hard where
  tm : Int
  vt : Int
deriving DecidableEq
structure Out where
  save : Bool
  h : Hard
  fr : Int
  rs : List Rec
  send : List Msg
deriving DecidableEq
def Out.zero : Out := ⟨false, ⟨0, 0⟩, 0, [], []⟩
def Out.just (l : List Msg) : Out := ⟨false, ⟨0, 0⟩, 0, [], l⟩
/-- A replica. -/
structure R where
  id : Int
  h : Hard
  l : List Rec
  role : Int
  cm : Int
  votes : Int → Bool
  nxt : Int → Int
  mat : Int → Int
/-- The term of an entry, by any number. -/
def tI (l : List Rec) (n : Int) : Int := if 1 ≤ n then tAt l n.toNat else 0
def sound : List Rec → Int → Int → Bool
  | [], _, _ => true
  | x :: l, least, most => if x.t < least ∨ most < x.t ∨ 2000 < x.d.length then false else sound l x.t most
def newR (id : Int) (h : Hard) (l : List Rec) : Option R :=
  if id < 0 ∨ 2 < id ∨ h.tm < 0 ∨ 1099511627776 < h.tm ∨ h.vt < -1 ∨ 2 < h.vt ∨ 4000 < l.length ∨ sound l 1 h.tm = false then none
  else some ⟨id, h, l, 0, 0, fun _ => false, fun _ => 0, fun _ => 0⟩
def msg (r : R) (k dst : Int) : Msg := ⟨k, r.id, dst, r.h.tm, 0, 0, 0, false, []⟩
/-- The message that sends entries. -/
def ents (r : R) (dst : Int) : Msg := { msg r 2 dst with ix := r.nxt dst - 1, pv := tI r.l (r.nxt dst - 1), cm := r.cm, rs := (r.l.drop (r.nxt dst - 1).toNat).take 8 }
def others (id : Int) : List Int := if id = 0 then [1, 2] else if id = 1 then [0, 2] else [0, 1]
def all (r : R) : List Msg := (others r.id).map (ents r)
def tickR (r : R) : R × Out :=
  if r.role = 2 then (r, Out.just (all r)) else
  if r.h.tm = 1099511627776 then (r, Out.zero) else
  let r' : R := { r with h := ⟨r.h.tm + 1, r.id⟩, role := 1, votes := fun v => decide (v = r.id) }
  (r', ⟨true, r'.h, 0, [], (others r.id).map fun i => { msg r' 0 i with ix := (r.l.length : Int), pv := lastT r.l }⟩)
def right (id : Int) (m : Msg) : Bool :=
  decide (0 ≤ m.k ∧ m.k ≤ 3 ∧ m.dst = id ∧ m.fr ≠ id ∧ 0 ≤ m.fr ∧ m.fr ≤ 2 ∧ 1 ≤ m.tm ∧ m.tm ≤ 1099511627776 ∧ 0 ≤ m.ix ∧ m.ix ≤ 4000 ∧ 0 ≤ m.pv ∧ m.pv ≤ m.tm ∧ 0 ≤ m.cm ∧ m.cm ≤ 4000 ∧ m.rs.length ≤ 8 ∧ (0 < m.ix ∨ m.pv = 0) ∧ m.ix + m.rs.length ≤ 4000) && sound m.rs (max 1 m.pv) m.tm
def voteR (r : R) (m : Msg) : R × Out :=
  if m.tm = r.h.tm ∧ (r.h.vt = -1 ∨ r.h.vt = m.fr) ∧ (lastT r.l < m.pv ∨ (m.pv = lastT r.l ∧ (r.l.length : Int) ≤ m.ix)) then
    ({ r with h := ⟨r.h.tm, m.fr⟩ }, Out.just [{ msg r 1 m.fr with yes := true }])
  else (r, Out.just [msg r 1 m.fr])
def cnt (f : Int → Bool) : Nat := (if f 0 then 1 else 0) + (if f 1 then 1 else 0) + (if f 2 then 1 else 0)
def votedR (r : R) (m : Msg) : R × Out :=
  if r.role = 1 ∧ m.tm = r.h.tm ∧ m.yes = true then
    let vs : Int → Bool := fun v => r.votes v || decide (v = m.fr)
    if cnt vs < 2 then ({ r with votes := vs }, Out.zero)
    else
      let r' : R := { r with votes := vs, role := 2, nxt := fun _ => (r.l.length : Int) + 1, mat := fun _ => 0 }
      (r', Out.just (all r'))
  else (r, Out.zero)
/-- How many of the entries behind the number j the log has already. -/
def agree (l : List Rec) : Nat → List Rec → Nat
  | _, [] => 0
  | j, x :: xs => if j + 1 ≤ l.length ∧ tAt l (j + 1) = x.t then agree l (j + 1) xs + 1 else 0
def appendR (r : R) (m : Msg) : R × Out :=
  if m.tm < r.h.tm then (r, Out.just [msg r 3 m.fr]) else
  if r.role = 2 then (r, Out.zero) else
  if (r.l.length : Int) < m.ix ∨ tI r.l m.ix ≠ m.pv then ({ r with role := 0 }, Out.just [{ msg r 3 m.fr with ix := min (r.l.length : Int) (m.ix - 1) }]) else
  let k := agree r.l m.ix.toNat m.rs
  let n := m.ix + m.rs.length
  let cm := max r.cm (min m.cm n)
  if k < m.rs.length then
    if m.ix + k + 1 ≤ r.cm then ({ r with role := 0 }, Out.zero)
    else ({ r with role := 0, cm := cm, l := r.l.take (m.ix.toNat + k) ++ m.rs.drop k }, ⟨false, ⟨0, 0⟩, m.ix + k + 1, m.rs.drop k, [{ msg r 3 m.fr with yes := true, ix := n }]⟩)
  else ({ r with role := 0, cm := cm }, Out.just [{ msg r 3 m.fr with yes := true, ix := n }])
/-- The greatest number of an entry of a term up to which another replica has the log, if it is greater than what is committed. -/
def best (l : List Rec) (t mm c : Int) : Nat → Int
  | 0 => c
  | n + 1 => if c < (n : Int) + 1 ∧ tAt l (n + 1) = t ∧ (n : Int) + 1 ≤ mm then (n : Int) + 1 else best l t mm c n
def appendedR (r : R) (m : Msg) : R × Out :=
  if r.role = 2 ∧ m.tm = r.h.tm then
    if m.yes = true then
      if (r.l.length : Int) < m.ix then (r, Out.zero)
      else
        let mt : Int → Int := upd r.mat m.fr (max (r.mat m.fr) m.ix)
        let r' : R := { r with mat := mt, nxt := upd r.nxt m.fr (mt m.fr + 1), cm := best r.l r.h.tm (max (mt ((r.id + 1) % 3)) (mt ((r.id + 2) % 3))) r.cm r.l.length }
        if r'.nxt m.fr ≤ (r.l.length : Int) then (r', Out.just [ents r' m.fr]) else (r', Out.zero)
    else
      let r' : R := { r with nxt := upd r.nxt m.fr (max (r.mat m.fr + 1) (min (r.nxt m.fr - 1) (m.ix + 1))) }
      (r', Out.just [ents r' m.fr])
  else (r, Out.zero)
def kindR (r : R) (m : Msg) : R × Out :=
  if m.k = 0 then voteR r m else if m.k = 1 then votedR r m else if m.k = 2 then appendR r m else appendedR r m
def later (r : R) (m : Msg) : R := if r.h.tm < m.tm then { r with h := ⟨m.tm, -1⟩, role := 0 } else r
def hearR (r : R) (m : Msg) : R × Out :=
  if right r.id m = false then (r, Out.zero) else
  let p := kindR (later r m) m
  (p.1, if p.1.h = r.h then p.2 else { p.2 with save := true, h := p.1.h })
/-- Propose: the replica, the number, the error (0, ErrArg 1, ErrFull 6, ErrLeader 24), what is to be done. -/
def proposeR (r : R) (d : List UInt8) : R × Int × Int × Out :=
  if r.role ≠ 2 then (r, 0, 24, Out.zero) else
  if 2000 < d.length then (r, 0, 1, Out.zero) else
  if r.l.length = 4000 then (r, 0, 6, Out.zero) else
  let r' : R := { r with l := r.l ++ [⟨r.h.tm, d⟩] }
  (r', (r.l.length : Int) + 1, 0, ⟨false, ⟨0, 0⟩, (r.l.length : Int) + 1, [⟨r.h.tm, d⟩], all r'⟩)
end Rp
end Go.Proofs.YtkmojcpiadpbaaaGreatDoor
