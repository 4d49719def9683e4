/-
  No cell of these rows narrows 'for every input' (looked for: loops, veiled, ifaces, maps, wideKeys, modest, calm, conditions, laid).
  DERIVED. THE GIVEN ROWS OF THIS SEAT. 4 by the template 'for every input the law returns true; each argument reads behind the call as it read before'; 0 by the template 'total and deterministic' (their statements: YtccippplpcjaiaaTotals.lean).
  GIVEN WITH THE SEED: the statements are not yours to turn. If you find one false, say at which input.
  Laid BY PROGRAM, IN A SANDBOX (cutbox-rows.mjs): the forced cells as the released guide's own fill.sh prints them over the translation 2544dba75ed60bd1… (all of the seat's roots in one cut). By AI agents, Wed Nov 11 2026. No macro, syntax, notation, axiom, sorry.
-/
import Derived.Test.YtccippplpcjaiaaChecked
import GoSem.Claim
import GoSem.ClaimJoined
import GoSem.ClaimMapViews
import Derived.JoinedTies
import Derived.KernelRfl
namespace Go.Proofs.Ytccippplpcjaiaa
/- THE CELL 'sum', in the pinned program and in every row, IS THE sha256 OF THE DUMP (.gsa) THAT YtccippplpcjaiaaProg.lean LOADS. Nothing in Lean hashes anything: it is a label: what it is worth is what the hold of that sum in a sandbox is worth. -/
noncomputable def Try.pinned : Pinned := { name := "ytccippplpcjaiaa", sum := "2544dba75ed60bd132811caf5ca0373d35c7b361d1e0c9599e296e05660d36bb", checked := Try.checked }
namespace Rows
def none {H : Type} : Left H := { results := [], args := [] }

/-- 'scantlinglaw19.RunsOf': WHATEVER THE INPUT: true; the input reads as it did. -/
def runsOfSpec : ChangeSpec := { name := "runsOf", fn := fun _ => fun
  | [d] => { results := [.lit (.bool true)], args := [d] }
  | _ => none }
def runsOfRow : OpenClaim := { program := "ytccippplpcjaiaa", sum := "2544dba75ed60bd132811caf5ca0373d35c7b361d1e0c9599e296e05660d36bb", func := "scantling/scantlinglaw19.RunsOf", spec := "runsOf", unfollowed := true, recurses := true, apart := false }
def RunsOfSaid : Prop := runsOfRow.holds Try.pinned (OpenSpec.ofChange runsOfSpec)

/-- ITS FALSE NEIGHBOUR: 'it returns false'. Refute it at one input. -/
def runsOfWrong : ChangeSpec := { name := "runsOf", fn := fun _ => fun
  | [d] => { results := [.lit (.bool false)], args := [d] }
  | _ => none }
def RunsOfWrongFalsely : Prop := runsOfRow.holds Try.pinned (OpenSpec.ofChange runsOfWrong)

/-- 'scantlinglaw19.RunsMaps': WHATEVER THE INPUT: true; the input reads as it did. -/
def runsMapsSpec : ChangeSpec := { name := "runsMaps", fn := fun _ => fun
  | [d] => { results := [.lit (.bool true)], args := [d] }
  | _ => none }
def runsMapsRow : OpenClaim := { program := "ytccippplpcjaiaa", sum := "2544dba75ed60bd132811caf5ca0373d35c7b361d1e0c9599e296e05660d36bb", func := "scantling/scantlinglaw19.RunsMaps", spec := "runsMaps", unfollowed := true, recurses := true, apart := false }
def RunsMapsSaid : Prop := runsMapsRow.holds Try.pinned (OpenSpec.ofChange runsMapsSpec)

/-- ITS FALSE NEIGHBOUR: 'it returns false'. Refute it at one input. -/
def runsMapsWrong : ChangeSpec := { name := "runsMaps", fn := fun _ => fun
  | [d] => { results := [.lit (.bool false)], args := [d] }
  | _ => none }
def RunsMapsWrongFalsely : Prop := runsMapsRow.holds Try.pinned (OpenSpec.ofChange runsMapsWrong)

/-- 'scantlinglaw19.RunsBack': WHATEVER THE INPUT: true; the input reads as it did. -/
def runsBackSpec : ChangeSpec := { name := "runsBack", fn := fun _ => fun
  | [d] => { results := [.lit (.bool true)], args := [d] }
  | _ => none }
def runsBackRow : OpenClaim := { program := "ytccippplpcjaiaa", sum := "2544dba75ed60bd132811caf5ca0373d35c7b361d1e0c9599e296e05660d36bb", func := "scantling/scantlinglaw19.RunsBack", spec := "runsBack", unfollowed := true, recurses := true, apart := false }
def RunsBackSaid : Prop := runsBackRow.holds Try.pinned (OpenSpec.ofChange runsBackSpec)

/-- ITS FALSE NEIGHBOUR: 'it returns false'. Refute it at one input. -/
def runsBackWrong : ChangeSpec := { name := "runsBack", fn := fun _ => fun
  | [d] => { results := [.lit (.bool false)], args := [d] }
  | _ => none }
def RunsBackWrongFalsely : Prop := runsBackRow.holds Try.pinned (OpenSpec.ofChange runsBackWrong)

/-- 'scantlinglaw19.RunsMerged': WHATEVER THE INPUT: true; the input reads as it did. -/
def runsMergedSpec : ChangeSpec := { name := "runsMerged", fn := fun _ => fun
  | [d] => { results := [.lit (.bool true)], args := [d] }
  | _ => none }
def runsMergedRow : OpenClaim := { program := "ytccippplpcjaiaa", sum := "2544dba75ed60bd132811caf5ca0373d35c7b361d1e0c9599e296e05660d36bb", func := "scantling/scantlinglaw19.RunsMerged", spec := "runsMerged", unfollowed := true, recurses := true, apart := false }
def RunsMergedSaid : Prop := runsMergedRow.holds Try.pinned (OpenSpec.ofChange runsMergedSpec)

/-- ITS FALSE NEIGHBOUR: 'it returns false'. Refute it at one input. -/
def runsMergedWrong : ChangeSpec := { name := "runsMerged", fn := fun _ => fun
  | [d] => { results := [.lit (.bool false)], args := [d] }
  | _ => none }
def RunsMergedWrongFalsely : Prop := runsMergedRow.holds Try.pinned (OpenSpec.ofChange runsMergedWrong)

/- THE SECOND FORM. 'bulk': how many values and letters a reading holds, each counted each time it is reached (what is shared counts as often as it is met; a slice's spare places count too). A statement '..UptoSaid' is the law's where the arguments, and the package variables that the reading takes, are together of bulk at most 1048576: NARROWER than '..Said'. Prove '..Said' where nothing that the law and all that it calls make is longer than what came in: it says more and counts as full. Else prove '..UptoSaid'. A law counts once. -/
mutual
def uptoBulk {H : Type} : DataW H → Nat
  | .lit (.string bytes) => bytes.length + 1
  | .lit _ => 1
  | .nil => 1
  | .ptr d => uptoBulk d + 1
  | .slice elems spare => uptoBulkAll elems + uptoBulkAll spare + 1
  | .agg parts => uptoBulkAll parts + 1
  | .iface _ d => uptoBulk d + 1
  | .map entries => uptoBulkEntries entries + 1
  | .held _ => 1
def uptoBulkAll {H : Type} : List (DataW H) → Nat
  | [] => 0
  | d :: r => uptoBulk d + uptoBulkAll r
def uptoBulkEntries {H : Type} : List (Lit × DataW H) → Nat
  | [] => 0
  | x :: r => uptoBulkEntry x + uptoBulkEntries r
def uptoBulkEntry {H : Type} : Lit × DataW H → Nat
  | (.string bytes, d) => bytes.length + uptoBulk d + 1
  | (_, d) => uptoBulk d + 1
 end
def uptoSmall : (H : Type) → List (DataW H) → Bool := fun _ ds => decide (uptoBulkAll ds ≤ 1048576)
def OpenSpec.upto (s : _root_.Go.ChangeSpec) : _root_.Go.OpenSpec := { _root_.Go.OpenSpec.ofChange s with cond := some uptoSmall }

/-- 'scantlinglaw19.RunsOf', WHERE WHAT IT READS IS OF BULK AT MOST 1048576: true; the input reads as it did. -/
def runsOfUptoRow : OpenClaim := { program := "ytccippplpcjaiaa", sum := "2544dba75ed60bd132811caf5ca0373d35c7b361d1e0c9599e296e05660d36bb", func := "scantling/scantlinglaw19.RunsOf", spec := "runsOf", unfollowed := true, recurses := true, apart := false, narrowed := true }
def RunsOfUptoSaid : Prop := runsOfUptoRow.holds Try.pinned (OpenSpec.upto runsOfSpec)

/-- 'scantlinglaw19.RunsMaps', WHERE WHAT IT READS IS OF BULK AT MOST 1048576: true; the input reads as it did. -/
def runsMapsUptoRow : OpenClaim := { program := "ytccippplpcjaiaa", sum := "2544dba75ed60bd132811caf5ca0373d35c7b361d1e0c9599e296e05660d36bb", func := "scantling/scantlinglaw19.RunsMaps", spec := "runsMaps", unfollowed := true, recurses := true, apart := false, narrowed := true }
def RunsMapsUptoSaid : Prop := runsMapsUptoRow.holds Try.pinned (OpenSpec.upto runsMapsSpec)

/-- 'scantlinglaw19.RunsBack', WHERE WHAT IT READS IS OF BULK AT MOST 1048576: true; the input reads as it did. -/
def runsBackUptoRow : OpenClaim := { program := "ytccippplpcjaiaa", sum := "2544dba75ed60bd132811caf5ca0373d35c7b361d1e0c9599e296e05660d36bb", func := "scantling/scantlinglaw19.RunsBack", spec := "runsBack", unfollowed := true, recurses := true, apart := false, narrowed := true }
def RunsBackUptoSaid : Prop := runsBackUptoRow.holds Try.pinned (OpenSpec.upto runsBackSpec)

/-- 'scantlinglaw19.RunsMerged', WHERE WHAT IT READS IS OF BULK AT MOST 1048576: true; the input reads as it did. -/
def runsMergedUptoRow : OpenClaim := { program := "ytccippplpcjaiaa", sum := "2544dba75ed60bd132811caf5ca0373d35c7b361d1e0c9599e296e05660d36bb", func := "scantling/scantlinglaw19.RunsMerged", spec := "runsMerged", unfollowed := true, recurses := true, apart := false, narrowed := true }
def RunsMergedUptoSaid : Prop := runsMergedUptoRow.holds Try.pinned (OpenSpec.upto runsMergedSpec)

end Rows
end Go.Proofs.Ytccippplpcjaiaa
