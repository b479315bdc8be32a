/-
  No cell of these rows narrows 'for every input' (looked for: loops, veiled, ifaces, maps, wideKeys, modest, calm, conditions, laid).
  DERIVED. THE GIVEN ROWS OF THIS SEAT. 2 by the template 'for every input the law returns true; each argument reads behind the call as it read before'; 0 by the template 'total and deterministic' (their statements: YtmgpfkckafdbmaaTotals.lean).
  GIVEN WITH THE SEED: the statements are not yours to turn. If you find one false, say at which input.
  Laid BY PROGRAM, IN A SANDBOX (cutbox-rows.mjs): the forced cells as the released guide's own fill.sh prints them over the translation 3fd48a2f520bc6a8… (all of the seat's roots in one cut). By AI agents, Wed Nov 11 2026. No macro, syntax, notation, axiom, sorry.
-/
import Derived.Test.YtmgpfkckafdbmaaChecked
import GoSem.Claim
import GoSem.ClaimJoined
import GoSem.ClaimMapViews
import Derived.JoinedTies
import Derived.KernelRfl
namespace Go.Proofs.Ytmgpfkckafdbmaa
/- THE CELL 'sum', in the pinned program and in every row, IS THE sha256 OF THE DUMP (.gsa) THAT YtmgpfkckafdbmaaProg.lean LOADS. Nothing in Lean hashes anything: it is a label: what it is worth is what the hold of that sum in a sandbox is worth. -/
noncomputable def Try.pinned : Pinned := { name := "ytmgpfkckafdbmaa", sum := "3fd48a2f520bc6a82368611f95e156d089317449b501da31352316d4eb66daa8", checked := Try.checked }
namespace Rows
def none {H : Type} : Left H := { results := [], args := [] }

/-- 'erratalaw11.IntakeFinal': WHATEVER THE INPUT: true; the input reads as it did. -/
def intakeFinalSpec : ChangeSpec := { name := "intakeFinal", fn := fun _ => fun
  | [d1, d2] => { results := [.lit (.bool true)], args := [d1, d2] }
  | _ => none }
def intakeFinalRow : OpenClaim := { program := "ytmgpfkckafdbmaa", sum := "3fd48a2f520bc6a82368611f95e156d089317449b501da31352316d4eb66daa8", func := "errata/erratalaw11.IntakeFinal", spec := "intakeFinal", inPlace := ["slices.overlaps[errata/api.Producer]"], unfollowed := true, recurses := true, apart := false }
def IntakeFinalSaid : Prop := intakeFinalRow.holds Try.pinned (OpenSpec.ofChange intakeFinalSpec)

/-- ITS FALSE NEIGHBOUR: 'it returns false'. Refute it at one input. -/
def intakeFinalWrong : ChangeSpec := { name := "intakeFinal", fn := fun _ => fun
  | [d1, d2] => { results := [.lit (.bool false)], args := [d1, d2] }
  | _ => none }
def IntakeFinalWrongFalsely : Prop := intakeFinalRow.holds Try.pinned (OpenSpec.ofChange intakeFinalWrong)

/-- 'erratalaw11.IntakeOnce': WHATEVER THE INPUT: true; the input reads as it did. -/
def intakeOnceSpec : ChangeSpec := { name := "intakeOnce", fn := fun _ => fun
  | [d1, d2, d3] => { results := [.lit (.bool true)], args := [d1, d2, d3] }
  | _ => none }
def intakeOnceRow : OpenClaim := { program := "ytmgpfkckafdbmaa", sum := "3fd48a2f520bc6a82368611f95e156d089317449b501da31352316d4eb66daa8", func := "errata/erratalaw11.IntakeOnce", spec := "intakeOnce", inPlace := ["slices.overlaps[errata/api.Producer]"], unfollowed := true, recurses := true, apart := false }
def IntakeOnceSaid : Prop := intakeOnceRow.holds Try.pinned (OpenSpec.ofChange intakeOnceSpec)

/-- ITS FALSE NEIGHBOUR: 'it returns false'. Refute it at one input. -/
def intakeOnceWrong : ChangeSpec := { name := "intakeOnce", fn := fun _ => fun
  | [d1, d2, d3] => { results := [.lit (.bool false)], args := [d1, d2, d3] }
  | _ => none }
def IntakeOnceWrongFalsely : Prop := intakeOnceRow.holds Try.pinned (OpenSpec.ofChange intakeOnceWrong)

/- THE SECOND FORM. 'bulk': how many values and letters a reading holds, each counted each time it is reached (what is shared counts as often as it is met; a slice's spare places count too). A statement '..UptoSaid' is the law's where the arguments, and the package variables that the reading takes, are together of bulk at most 1048576: NARROWER than '..Said'. Prove '..Said' where nothing that the law and all that it calls make is longer than what came in: it says more and counts as full. Else prove '..UptoSaid'. A law counts once. -/
mutual
def uptoBulk {H : Type} : DataW H → Nat
  | .lit (.string bytes) => bytes.length + 1
  | .lit _ => 1
  | .nil => 1
  | .ptr d => uptoBulk d + 1
  | .slice elems spare => uptoBulkAll elems + uptoBulkAll spare + 1
  | .agg parts => uptoBulkAll parts + 1
  | .iface _ d => uptoBulk d + 1
  | .map entries => uptoBulkEntries entries + 1
  | .held _ => 1
def uptoBulkAll {H : Type} : List (DataW H) → Nat
  | [] => 0
  | d :: r => uptoBulk d + uptoBulkAll r
def uptoBulkEntries {H : Type} : List (Lit × DataW H) → Nat
  | [] => 0
  | x :: r => uptoBulkEntry x + uptoBulkEntries r
def uptoBulkEntry {H : Type} : Lit × DataW H → Nat
  | (.string bytes, d) => bytes.length + uptoBulk d + 1
  | (_, d) => uptoBulk d + 1
 end
def uptoSmall : (H : Type) → List (DataW H) → Bool := fun _ ds => decide (uptoBulkAll ds ≤ 1048576)
def OpenSpec.upto (s : _root_.Go.ChangeSpec) : _root_.Go.OpenSpec := { _root_.Go.OpenSpec.ofChange s with cond := some uptoSmall }

/-- 'erratalaw11.IntakeFinal', WHERE WHAT IT READS IS OF BULK AT MOST 1048576: true; the input reads as it did. -/
def intakeFinalUptoRow : OpenClaim := { program := "ytmgpfkckafdbmaa", sum := "3fd48a2f520bc6a82368611f95e156d089317449b501da31352316d4eb66daa8", func := "errata/erratalaw11.IntakeFinal", spec := "intakeFinal", inPlace := ["slices.overlaps[errata/api.Producer]"], unfollowed := true, recurses := true, apart := false, narrowed := true }
def IntakeFinalUptoSaid : Prop := intakeFinalUptoRow.holds Try.pinned (OpenSpec.upto intakeFinalSpec)

/-- 'erratalaw11.IntakeOnce', WHERE WHAT IT READS IS OF BULK AT MOST 1048576: true; the input reads as it did. -/
def intakeOnceUptoRow : OpenClaim := { program := "ytmgpfkckafdbmaa", sum := "3fd48a2f520bc6a82368611f95e156d089317449b501da31352316d4eb66daa8", func := "errata/erratalaw11.IntakeOnce", spec := "intakeOnce", inPlace := ["slices.overlaps[errata/api.Producer]"], unfollowed := true, recurses := true, apart := false, narrowed := true }
def IntakeOnceUptoSaid : Prop := intakeOnceUptoRow.holds Try.pinned (OpenSpec.upto intakeOnceSpec)

end Rows
end Go.Proofs.Ytmgpfkckafdbmaa
