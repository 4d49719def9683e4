/-
  No cell of these rows narrows 'for every input' (looked for: loops, veiled, ifaces, maps, wideKeys, modest, calm, conditions, laid).
  DERIVED. THE GIVEN ROWS OF THIS SEAT. 4 by the template 'for every input the law returns true; each argument reads behind the call as it read before'; 0 by the template 'total and deterministic' (their statements: YtojmhkdlaalifaaTotals.lean).
  GIVEN WITH THE SEED: the statements are not yours to turn. If you find one false, say at which input.
  Laid BY PROGRAM, IN A SANDBOX (cutbox-rows.mjs): the forced cells as the released guide's own fill.sh prints them over the translation 28b8a79ec4d63fe5… (all of the seat's roots in one cut). By AI agents, Wed Nov 11 2026. No macro, syntax, notation, axiom, sorry.
-/
import Derived.Test.YtojmhkdlaalifaaChecked
import GoSem.Claim
import GoSem.ClaimJoined
import GoSem.ClaimMapViews
import Derived.JoinedTies
import Derived.KernelRfl
namespace Go.Proofs.Ytojmhkdlaalifaa
/- THE CELL 'sum', in the pinned program and in every row, IS THE sha256 OF THE DUMP (.gsa) THAT YtojmhkdlaalifaaProg.lean LOADS. Nothing in Lean hashes anything: it is a label: what it is worth is what the hold of that sum in a sandbox is worth. -/
noncomputable def Try.pinned : Pinned := { name := "ytojmhkdlaalifaa", sum := "28b8a79ec4d63fe578cc37288880ef6103f6be10cdc9e8eab8014e37e1c0a60e", checked := Try.checked }
namespace Rows
def none {H : Type} : Left H := { results := [], args := [] }

/-- 'scantlinglaw12.RefsPlays': WHATEVER THE INPUT: true; the input reads as it did. -/
def refsPlaysSpec : ChangeSpec := { name := "refsPlays", fn := fun _ => fun
  | [d1, d2, d3] => { results := [.lit (.bool true)], args := [d1, d2, d3] }
  | _ => none }
def refsPlaysRow : OpenClaim := { program := "ytojmhkdlaalifaa", sum := "28b8a79ec4d63fe578cc37288880ef6103f6be10cdc9e8eab8014e37e1c0a60e", func := "scantling/scantlinglaw12.RefsPlays", spec := "refsPlays", unfollowed := true, recurses := true, apart := false }
def RefsPlaysSaid : Prop := refsPlaysRow.holds Try.pinned (OpenSpec.ofChange refsPlaysSpec)

/-- ITS FALSE NEIGHBOUR: 'it returns false'. Refute it at one input. -/
def refsPlaysWrong : ChangeSpec := { name := "refsPlays", fn := fun _ => fun
  | [d1, d2, d3] => { results := [.lit (.bool false)], args := [d1, d2, d3] }
  | _ => none }
def RefsPlaysWrongFalsely : Prop := refsPlaysRow.holds Try.pinned (OpenSpec.ofChange refsPlaysWrong)

/-- 'scantlinglaw12.RefsDiffers': WHATEVER THE INPUT: true; the input reads as it did. -/
def refsDiffersSpec : ChangeSpec := { name := "refsDiffers", fn := fun _ => fun
  | [d1, d2] => { results := [.lit (.bool true)], args := [d1, d2] }
  | _ => none }
def refsDiffersRow : OpenClaim := { program := "ytojmhkdlaalifaa", sum := "28b8a79ec4d63fe578cc37288880ef6103f6be10cdc9e8eab8014e37e1c0a60e", func := "scantling/scantlinglaw12.RefsDiffers", spec := "refsDiffers", unfollowed := true, recurses := true, apart := false }
def RefsDiffersSaid : Prop := refsDiffersRow.holds Try.pinned (OpenSpec.ofChange refsDiffersSpec)

/-- ITS FALSE NEIGHBOUR: 'it returns false'. Refute it at one input. -/
def refsDiffersWrong : ChangeSpec := { name := "refsDiffers", fn := fun _ => fun
  | [d1, d2] => { results := [.lit (.bool false)], args := [d1, d2] }
  | _ => none }
def RefsDiffersWrongFalsely : Prop := refsDiffersRow.holds Try.pinned (OpenSpec.ofChange refsDiffersWrong)

/-- 'scantlinglaw12.RefsOrder': WHATEVER THE INPUT: true; the input reads as it did. -/
def refsOrderSpec : ChangeSpec := { name := "refsOrder", fn := fun _ => fun
  | [d1, d2] => { results := [.lit (.bool true)], args := [d1, d2] }
  | _ => none }
def refsOrderRow : OpenClaim := { program := "ytojmhkdlaalifaa", sum := "28b8a79ec4d63fe578cc37288880ef6103f6be10cdc9e8eab8014e37e1c0a60e", func := "scantling/scantlinglaw12.RefsOrder", spec := "refsOrder", apart := false }
def RefsOrderSaid : Prop := refsOrderRow.holds Try.pinned (OpenSpec.ofChange refsOrderSpec)

/-- ITS FALSE NEIGHBOUR: 'it returns false'. Refute it at one input. -/
def refsOrderWrong : ChangeSpec := { name := "refsOrder", fn := fun _ => fun
  | [d1, d2] => { results := [.lit (.bool false)], args := [d1, d2] }
  | _ => none }
def RefsOrderWrongFalsely : Prop := refsOrderRow.holds Try.pinned (OpenSpec.ofChange refsOrderWrong)

/-- 'scantlinglaw12.RefsNobody': WHATEVER THE INPUT: true; the input reads as it did. -/
def refsNobodySpec : ChangeSpec := { name := "refsNobody", fn := fun _ => fun
  | [d] => { results := [.lit (.bool true)], args := [d] }
  | _ => none }
def refsNobodyRow : OpenClaim := { program := "ytojmhkdlaalifaa", sum := "28b8a79ec4d63fe578cc37288880ef6103f6be10cdc9e8eab8014e37e1c0a60e", func := "scantling/scantlinglaw12.RefsNobody", spec := "refsNobody", unfollowed := true, recurses := true, apart := false }
def RefsNobodySaid : Prop := refsNobodyRow.holds Try.pinned (OpenSpec.ofChange refsNobodySpec)

/-- ITS FALSE NEIGHBOUR: 'it returns false'. Refute it at one input. -/
def refsNobodyWrong : ChangeSpec := { name := "refsNobody", fn := fun _ => fun
  | [d] => { results := [.lit (.bool false)], args := [d] }
  | _ => none }
def RefsNobodyWrongFalsely : Prop := refsNobodyRow.holds Try.pinned (OpenSpec.ofChange refsNobodyWrong)

/- THE SECOND FORM. 'bulk': how many values and letters a reading holds, each counted each time it is reached (what is shared counts as often as it is met; a slice's spare places count too). A statement '..UptoSaid' is the law's where the arguments, and the package variables that the reading takes, are together of bulk at most 1048576: NARROWER than '..Said'. Prove '..Said' where nothing that the law and all that it calls make is longer than what came in: it says more and counts as full. Else prove '..UptoSaid'. A law counts once. -/
mutual
def uptoBulk {H : Type} : DataW H → Nat
  | .lit (.string bytes) => bytes.length + 1
  | .lit _ => 1
  | .nil => 1
  | .ptr d => uptoBulk d + 1
  | .slice elems spare => uptoBulkAll elems + uptoBulkAll spare + 1
  | .agg parts => uptoBulkAll parts + 1
  | .iface _ d => uptoBulk d + 1
  | .map entries => uptoBulkEntries entries + 1
  | .held _ => 1
def uptoBulkAll {H : Type} : List (DataW H) → Nat
  | [] => 0
  | d :: r => uptoBulk d + uptoBulkAll r
def uptoBulkEntries {H : Type} : List (Lit × DataW H) → Nat
  | [] => 0
  | x :: r => uptoBulkEntry x + uptoBulkEntries r
def uptoBulkEntry {H : Type} : Lit × DataW H → Nat
  | (.string bytes, d) => bytes.length + uptoBulk d + 1
  | (_, d) => uptoBulk d + 1
 end
def uptoSmall : (H : Type) → List (DataW H) → Bool := fun _ ds => decide (uptoBulkAll ds ≤ 1048576)
def OpenSpec.upto (s : _root_.Go.ChangeSpec) : _root_.Go.OpenSpec := { _root_.Go.OpenSpec.ofChange s with cond := some uptoSmall }

/-- 'scantlinglaw12.RefsPlays', WHERE WHAT IT READS IS OF BULK AT MOST 1048576: true; the input reads as it did. -/
def refsPlaysUptoRow : OpenClaim := { program := "ytojmhkdlaalifaa", sum := "28b8a79ec4d63fe578cc37288880ef6103f6be10cdc9e8eab8014e37e1c0a60e", func := "scantling/scantlinglaw12.RefsPlays", spec := "refsPlays", unfollowed := true, recurses := true, apart := false, narrowed := true }
def RefsPlaysUptoSaid : Prop := refsPlaysUptoRow.holds Try.pinned (OpenSpec.upto refsPlaysSpec)

/-- 'scantlinglaw12.RefsDiffers', WHERE WHAT IT READS IS OF BULK AT MOST 1048576: true; the input reads as it did. -/
def refsDiffersUptoRow : OpenClaim := { program := "ytojmhkdlaalifaa", sum := "28b8a79ec4d63fe578cc37288880ef6103f6be10cdc9e8eab8014e37e1c0a60e", func := "scantling/scantlinglaw12.RefsDiffers", spec := "refsDiffers", unfollowed := true, recurses := true, apart := false, narrowed := true }
def RefsDiffersUptoSaid : Prop := refsDiffersUptoRow.holds Try.pinned (OpenSpec.upto refsDiffersSpec)

/-- 'scantlinglaw12.RefsOrder', WHERE WHAT IT READS IS OF BULK AT MOST 1048576: true; the input reads as it did. -/
def refsOrderUptoRow : OpenClaim := { program := "ytojmhkdlaalifaa", sum := "28b8a79ec4d63fe578cc37288880ef6103f6be10cdc9e8eab8014e37e1c0a60e", func := "scantling/scantlinglaw12.RefsOrder", spec := "refsOrder", apart := false, narrowed := true }
def RefsOrderUptoSaid : Prop := refsOrderUptoRow.holds Try.pinned (OpenSpec.upto refsOrderSpec)

/-- 'scantlinglaw12.RefsNobody', WHERE WHAT IT READS IS OF BULK AT MOST 1048576: true; the input reads as it did. -/
def refsNobodyUptoRow : OpenClaim := { program := "ytojmhkdlaalifaa", sum := "28b8a79ec4d63fe578cc37288880ef6103f6be10cdc9e8eab8014e37e1c0a60e", func := "scantling/scantlinglaw12.RefsNobody", spec := "refsNobody", unfollowed := true, recurses := true, apart := false, narrowed := true }
def RefsNobodyUptoSaid : Prop := refsNobodyUptoRow.holds Try.pinned (OpenSpec.upto refsNobodySpec)

end Rows
end Go.Proofs.Ytojmhkdlaalifaa
