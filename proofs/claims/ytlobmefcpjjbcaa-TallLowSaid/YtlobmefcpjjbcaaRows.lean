/-
  No cell of these rows narrows 'for every input' (looked for: loops, veiled, ifaces, maps, wideKeys, modest, calm, conditions, laid).
  DERIVED. THE GIVEN ROWS OF THIS SEAT. 3 by the template 'for every input the law returns true; each argument reads behind the call as it read before'; 0 by the template 'total and deterministic' (their statements: YtlobmefcpjjbcaaTotals.lean).
  GIVEN WITH THE SEED: the statements are not yours to turn. If you find one false, say at which input.
  Laid BY PROGRAM, IN A SANDBOX (cutbox-rows.mjs): the forced cells as the released guide's own fill.sh prints them over the translation 5b185b2d6a4aa7d0… (all of the seat's roots in one cut). By AI agents, Wed Nov 11 2026. No macro, syntax, notation, axiom, sorry.
-/
import Derived.Test.YtlobmefcpjjbcaaChecked
import GoSem.Claim
import GoSem.ClaimJoined
import GoSem.ClaimMapViews
import Derived.JoinedTies
import Derived.KernelRfl
namespace Go.Proofs.Ytlobmefcpjjbcaa
/- THE CELL 'sum', in the pinned program and in every row, IS THE sha256 OF THE DUMP (.gsa) THAT YtlobmefcpjjbcaaProg.lean LOADS. Nothing in Lean hashes anything: it is a label: what it is worth is what the hold of that sum in a sandbox is worth. -/
noncomputable def Try.pinned : Pinned := { name := "ytlobmefcpjjbcaa", sum := "5b185b2d6a4aa7d087e8c97e8ace1d31e78bfd78f7b264d3dfee4dbcfc1137fa", checked := Try.checked }
namespace Rows
def none {H : Type} : Left H := { results := [], args := [] }

/-- 'scantlinglaw15.TallTells': WHATEVER THE INPUT: true; the input reads as it did. -/
def tallTellsSpec : ChangeSpec := { name := "tallTells", fn := fun _ => fun
  | [d1, d2, d3] => { results := [.lit (.bool true)], args := [d1, d2, d3] }
  | _ => none }
def tallTellsRow : OpenClaim := { program := "ytlobmefcpjjbcaa", sum := "5b185b2d6a4aa7d087e8c97e8ace1d31e78bfd78f7b264d3dfee4dbcfc1137fa", func := "scantling/scantlinglaw15.TallTells", spec := "tallTells", apart := false }
def TallTellsSaid : Prop := tallTellsRow.holds Try.pinned (OpenSpec.ofChange tallTellsSpec)

/-- ITS FALSE NEIGHBOUR: 'it returns false'. Refute it at one input. -/
def tallTellsWrong : ChangeSpec := { name := "tallTells", fn := fun _ => fun
  | [d1, d2, d3] => { results := [.lit (.bool false)], args := [d1, d2, d3] }
  | _ => none }
def TallTellsWrongFalsely : Prop := tallTellsRow.holds Try.pinned (OpenSpec.ofChange tallTellsWrong)

/-- 'scantlinglaw15.TallAdds': WHATEVER THE INPUT: true; the input reads as it did. -/
def tallAddsSpec : ChangeSpec := { name := "tallAdds", fn := fun _ => fun
  | [d1, d2, d3] => { results := [.lit (.bool true)], args := [d1, d2, d3] }
  | _ => none }
def tallAddsRow : OpenClaim := { program := "ytlobmefcpjjbcaa", sum := "5b185b2d6a4aa7d087e8c97e8ace1d31e78bfd78f7b264d3dfee4dbcfc1137fa", func := "scantling/scantlinglaw15.TallAdds", spec := "tallAdds", apart := false }
def TallAddsSaid : Prop := tallAddsRow.holds Try.pinned (OpenSpec.ofChange tallAddsSpec)

/-- ITS FALSE NEIGHBOUR: 'it returns false'. Refute it at one input. -/
def tallAddsWrong : ChangeSpec := { name := "tallAdds", fn := fun _ => fun
  | [d1, d2, d3] => { results := [.lit (.bool false)], args := [d1, d2, d3] }
  | _ => none }
def TallAddsWrongFalsely : Prop := tallAddsRow.holds Try.pinned (OpenSpec.ofChange tallAddsWrong)

/-- 'scantlinglaw15.TallLow': WHATEVER THE INPUT: true; the input reads as it did. -/
def tallLowSpec : ChangeSpec := { name := "tallLow", fn := fun _ => fun
  | [d1, d2] => { results := [.lit (.bool true)], args := [d1, d2] }
  | _ => none }
def tallLowRow : OpenClaim := { program := "ytlobmefcpjjbcaa", sum := "5b185b2d6a4aa7d087e8c97e8ace1d31e78bfd78f7b264d3dfee4dbcfc1137fa", func := "scantling/scantlinglaw15.TallLow", spec := "tallLow", apart := false }
def TallLowSaid : Prop := tallLowRow.holds Try.pinned (OpenSpec.ofChange tallLowSpec)

/-- ITS FALSE NEIGHBOUR: 'it returns false'. Refute it at one input. -/
def tallLowWrong : ChangeSpec := { name := "tallLow", fn := fun _ => fun
  | [d1, d2] => { results := [.lit (.bool false)], args := [d1, d2] }
  | _ => none }
def TallLowWrongFalsely : Prop := tallLowRow.holds Try.pinned (OpenSpec.ofChange tallLowWrong)

/- THE SECOND FORM. 'bulk': how many values and letters a reading holds, each counted each time it is reached (what is shared counts as often as it is met; a slice's spare places count too). A statement '..UptoSaid' is the law's where the arguments, and the package variables that the reading takes, are together of bulk at most 1048576: NARROWER than '..Said'. Prove '..Said' where nothing that the law and all that it calls make is longer than what came in: it says more and counts as full. Else prove '..UptoSaid'. A law counts once. -/
mutual
def uptoBulk {H : Type} : DataW H → Nat
  | .lit (.string bytes) => bytes.length + 1
  | .lit _ => 1
  | .nil => 1
  | .ptr d => uptoBulk d + 1
  | .slice elems spare => uptoBulkAll elems + uptoBulkAll spare + 1
  | .agg parts => uptoBulkAll parts + 1
  | .iface _ d => uptoBulk d + 1
  | .map entries => uptoBulkEntries entries + 1
  | .held _ => 1
def uptoBulkAll {H : Type} : List (DataW H) → Nat
  | [] => 0
  | d :: r => uptoBulk d + uptoBulkAll r
def uptoBulkEntries {H : Type} : List (Lit × DataW H) → Nat
  | [] => 0
  | x :: r => uptoBulkEntry x + uptoBulkEntries r
def uptoBulkEntry {H : Type} : Lit × DataW H → Nat
  | (.string bytes, d) => bytes.length + uptoBulk d + 1
  | (_, d) => uptoBulk d + 1
 end
def uptoSmall : (H : Type) → List (DataW H) → Bool := fun _ ds => decide (uptoBulkAll ds ≤ 1048576)
def OpenSpec.upto (s : _root_.Go.ChangeSpec) : _root_.Go.OpenSpec := { _root_.Go.OpenSpec.ofChange s with cond := some uptoSmall }

/-- 'scantlinglaw15.TallTells', WHERE WHAT IT READS IS OF BULK AT MOST 1048576: true; the input reads as it did. -/
def tallTellsUptoRow : OpenClaim := { program := "ytlobmefcpjjbcaa", sum := "5b185b2d6a4aa7d087e8c97e8ace1d31e78bfd78f7b264d3dfee4dbcfc1137fa", func := "scantling/scantlinglaw15.TallTells", spec := "tallTells", apart := false, narrowed := true }
def TallTellsUptoSaid : Prop := tallTellsUptoRow.holds Try.pinned (OpenSpec.upto tallTellsSpec)

/-- 'scantlinglaw15.TallAdds', WHERE WHAT IT READS IS OF BULK AT MOST 1048576: true; the input reads as it did. -/
def tallAddsUptoRow : OpenClaim := { program := "ytlobmefcpjjbcaa", sum := "5b185b2d6a4aa7d087e8c97e8ace1d31e78bfd78f7b264d3dfee4dbcfc1137fa", func := "scantling/scantlinglaw15.TallAdds", spec := "tallAdds", apart := false, narrowed := true }
def TallAddsUptoSaid : Prop := tallAddsUptoRow.holds Try.pinned (OpenSpec.upto tallAddsSpec)

/-- 'scantlinglaw15.TallLow', WHERE WHAT IT READS IS OF BULK AT MOST 1048576: true; the input reads as it did. -/
def tallLowUptoRow : OpenClaim := { program := "ytlobmefcpjjbcaa", sum := "5b185b2d6a4aa7d087e8c97e8ace1d31e78bfd78f7b264d3dfee4dbcfc1137fa", func := "scantling/scantlinglaw15.TallLow", spec := "tallLow", apart := false, narrowed := true }
def TallLowUptoSaid : Prop := tallLowUptoRow.holds Try.pinned (OpenSpec.upto tallLowSpec)

end Rows
end Go.Proofs.Ytlobmefcpjjbcaa
