/-
  No cell of these rows narrows 'for every input' (looked for: loops, veiled, ifaces, maps, wideKeys, modest, calm, conditions, laid).
  DERIVED. THE GIVEN ROWS OF THIS SEAT. 3 by the template 'for every input the law returns true; each argument reads behind the call as it read before'; 0 by the template 'total and deterministic' (their statements: YthkndkbffiaknaaTotals.lean).
  GIVEN WITH THE SEED: the statements are not yours to turn. If you find one false, say at which input.
  Laid BY PROGRAM, IN A SANDBOX (cutbox-rows.mjs): the forced cells as the released guide's own fill.sh prints them over the translation 489698729faf92cf… (all of the seat's roots in one cut). By AI agents, Wed Nov 11 2026. No macro, syntax, notation, axiom, sorry.
-/
import Derived.Test.YthkndkbffiaknaaChecked
import GoSem.Claim
import GoSem.ClaimJoined
import GoSem.ClaimMapViews
import Derived.JoinedTies
import Derived.KernelRfl
namespace Go.Proofs.Ythkndkbffiaknaa
/- THE CELL 'sum', in the pinned program and in every row, IS THE sha256 OF THE DUMP (.gsa) THAT YthkndkbffiaknaaProg.lean LOADS. Nothing in Lean hashes anything: it is a label: what it is worth is what the hold of that sum in a sandbox is worth. -/
noncomputable def Try.pinned : Pinned := { name := "ythkndkbffiaknaa", sum := "489698729faf92cf8b93f420b42895af971ea314e6f4520c41378c103ea1c6a4", checked := Try.checked }
namespace Rows
def none {H : Type} : Left H := { results := [], args := [] }

/-- 'argosylaw20.TraceTells': WHATEVER THE INPUT: true; the input reads as it did. -/
def traceTellsSpec : ChangeSpec := { name := "traceTells", fn := fun _ => fun
  | [d1, d2] => { results := [.lit (.bool true)], args := [d1, d2] }
  | _ => none }
def traceTellsRow : OpenClaim := { program := "ythkndkbffiaknaa", sum := "489698729faf92cf8b93f420b42895af971ea314e6f4520c41378c103ea1c6a4", func := "argosy/argosylaw20.TraceTells", spec := "traceTells", unfollowed := true, recurses := true, plainKeys := false, apart := false }
def TraceTellsSaid : Prop := traceTellsRow.holds Try.pinned (OpenSpec.ofChange traceTellsSpec)

/-- ITS FALSE NEIGHBOUR: 'it returns false'. Refute it at one input. -/
def traceTellsWrong : ChangeSpec := { name := "traceTells", fn := fun _ => fun
  | [d1, d2] => { results := [.lit (.bool false)], args := [d1, d2] }
  | _ => none }
def TraceTellsWrongFalsely : Prop := traceTellsRow.holds Try.pinned (OpenSpec.ofChange traceTellsWrong)

/-- 'argosylaw20.TraceFew': WHATEVER THE INPUT: true; the input reads as it did. -/
def traceFewSpec : ChangeSpec := { name := "traceFew", fn := fun _ => fun
  | [d] => { results := [.lit (.bool true)], args := [d] }
  | _ => none }
def traceFewRow : OpenClaim := { program := "ythkndkbffiaknaa", sum := "489698729faf92cf8b93f420b42895af971ea314e6f4520c41378c103ea1c6a4", func := "argosy/argosylaw20.TraceFew", spec := "traceFew", unfollowed := true, recurses := true, plainKeys := false, apart := false }
def TraceFewSaid : Prop := traceFewRow.holds Try.pinned (OpenSpec.ofChange traceFewSpec)

/-- ITS FALSE NEIGHBOUR: 'it returns false'. Refute it at one input. -/
def traceFewWrong : ChangeSpec := { name := "traceFew", fn := fun _ => fun
  | [d] => { results := [.lit (.bool false)], args := [d] }
  | _ => none }
def TraceFewWrongFalsely : Prop := traceFewRow.holds Try.pinned (OpenSpec.ofChange traceFewWrong)

/-- 'argosylaw20.TraceLeft': WHATEVER THE INPUT: true; the input reads as it did. -/
def traceLeftSpec : ChangeSpec := { name := "traceLeft", fn := fun _ => fun
  | [d1, d2] => { results := [.lit (.bool true)], args := [d1, d2] }
  | _ => none }
def traceLeftRow : OpenClaim := { program := "ythkndkbffiaknaa", sum := "489698729faf92cf8b93f420b42895af971ea314e6f4520c41378c103ea1c6a4", func := "argosy/argosylaw20.TraceLeft", spec := "traceLeft", unfollowed := true, recurses := true, plainKeys := false, apart := false }
def TraceLeftSaid : Prop := traceLeftRow.holds Try.pinned (OpenSpec.ofChange traceLeftSpec)

/-- ITS FALSE NEIGHBOUR: 'it returns false'. Refute it at one input. -/
def traceLeftWrong : ChangeSpec := { name := "traceLeft", fn := fun _ => fun
  | [d1, d2] => { results := [.lit (.bool false)], args := [d1, d2] }
  | _ => none }
def TraceLeftWrongFalsely : Prop := traceLeftRow.holds Try.pinned (OpenSpec.ofChange traceLeftWrong)

/- THE SECOND FORM. 'bulk': how many values and letters a reading holds, each counted each time it is reached (what is shared counts as often as it is met; a slice's spare places count too). A statement '..UptoSaid' is the law's where the arguments, and the package variables that the reading takes, are together of bulk at most 1048576: NARROWER than '..Said'. Prove '..Said' where nothing that the law and all that it calls make is longer than what came in: it says more and counts as full. Else prove '..UptoSaid'. A law counts once. -/
mutual
def uptoBulk {H : Type} : DataW H → Nat
  | .lit (.string bytes) => bytes.length + 1
  | .lit _ => 1
  | .nil => 1
  | .ptr d => uptoBulk d + 1
  | .slice elems spare => uptoBulkAll elems + uptoBulkAll spare + 1
  | .agg parts => uptoBulkAll parts + 1
  | .iface _ d => uptoBulk d + 1
  | .map entries => uptoBulkEntries entries + 1
  | .held _ => 1
def uptoBulkAll {H : Type} : List (DataW H) → Nat
  | [] => 0
  | d :: r => uptoBulk d + uptoBulkAll r
def uptoBulkEntries {H : Type} : List (Lit × DataW H) → Nat
  | [] => 0
  | x :: r => uptoBulkEntry x + uptoBulkEntries r
def uptoBulkEntry {H : Type} : Lit × DataW H → Nat
  | (.string bytes, d) => bytes.length + uptoBulk d + 1
  | (_, d) => uptoBulk d + 1
 end
def uptoSmall : (H : Type) → List (DataW H) → Bool := fun _ ds => decide (uptoBulkAll ds ≤ 1048576)
def OpenSpec.upto (s : _root_.Go.ChangeSpec) : _root_.Go.OpenSpec := { _root_.Go.OpenSpec.ofChange s with cond := some uptoSmall }

/-- 'argosylaw20.TraceTells', WHERE WHAT IT READS IS OF BULK AT MOST 1048576: true; the input reads as it did. -/
def traceTellsUptoRow : OpenClaim := { program := "ythkndkbffiaknaa", sum := "489698729faf92cf8b93f420b42895af971ea314e6f4520c41378c103ea1c6a4", func := "argosy/argosylaw20.TraceTells", spec := "traceTells", unfollowed := true, recurses := true, plainKeys := false, apart := false, narrowed := true }
def TraceTellsUptoSaid : Prop := traceTellsUptoRow.holds Try.pinned (OpenSpec.upto traceTellsSpec)

/-- 'argosylaw20.TraceFew', WHERE WHAT IT READS IS OF BULK AT MOST 1048576: true; the input reads as it did. -/
def traceFewUptoRow : OpenClaim := { program := "ythkndkbffiaknaa", sum := "489698729faf92cf8b93f420b42895af971ea314e6f4520c41378c103ea1c6a4", func := "argosy/argosylaw20.TraceFew", spec := "traceFew", unfollowed := true, recurses := true, plainKeys := false, apart := false, narrowed := true }
def TraceFewUptoSaid : Prop := traceFewUptoRow.holds Try.pinned (OpenSpec.upto traceFewSpec)

/-- 'argosylaw20.TraceLeft', WHERE WHAT IT READS IS OF BULK AT MOST 1048576: true; the input reads as it did. -/
def traceLeftUptoRow : OpenClaim := { program := "ythkndkbffiaknaa", sum := "489698729faf92cf8b93f420b42895af971ea314e6f4520c41378c103ea1c6a4", func := "argosy/argosylaw20.TraceLeft", spec := "traceLeft", unfollowed := true, recurses := true, plainKeys := false, apart := false, narrowed := true }
def TraceLeftUptoSaid : Prop := traceLeftUptoRow.holds Try.pinned (OpenSpec.upto traceLeftSpec)

end Rows
end Go.Proofs.Ythkndkbffiaknaa
