/-
  No cell of these rows narrows 'for every input' (looked for: loops, veiled, ifaces, maps, wideKeys, modest, calm, conditions, laid).
  DERIVED. THE GIVEN ROWS OF THIS SEAT. 5 by the template 'for every input the law returns true; each argument reads behind the call as it read before'; 0 by the template 'total and deterministic' (their statements: YtadoclbalcecpaaTotals.lean).
  GIVEN WITH THE SEED: the statements are not yours to turn. If you find one false, say at which input.
  Laid BY PROGRAM, IN A SANDBOX (cutbox-rows.mjs): the forced cells as the released guide's own fill.sh prints them over the translation c5d85925bff47eee… (all of the seat's roots in one cut). By AI agents, Wed Nov 11 2026. No macro, syntax, notation, axiom, sorry.
-/
import Derived.Test.YtadoclbalcecpaaChecked
import GoSem.Claim
import GoSem.ClaimJoined
import GoSem.ClaimMapViews
import Derived.JoinedTies
import Derived.KernelRfl
namespace Go.Proofs.Ytadoclbalcecpaa
/- THE CELL 'sum', in the pinned program and in every row, IS THE sha256 OF THE DUMP (.gsa) THAT YtadoclbalcecpaaProg.lean LOADS. Nothing in Lean hashes anything: it is a label: what it is worth is what the hold of that sum in a sandbox is worth. -/
noncomputable def Try.pinned : Pinned := { name := "ytadoclbalcecpaa", sum := "c5d85925bff47eeea08aa4f94ab0076512ed205b1951b8c5f9efcc569530d68b", checked := Try.checked }
namespace Rows
def none {H : Type} : Left H := { results := [], args := [] }

/-- 'scantlinglaw03.ImagePlays': WHATEVER THE INPUT: true; the input reads as it did. -/
def imagePlaysSpec : ChangeSpec := { name := "imagePlays", fn := fun _ => fun
  | [d1, d2] => { results := [.lit (.bool true)], args := [d1, d2] }
  | _ => none }
def imagePlaysRow : OpenClaim := { program := "ytadoclbalcecpaa", sum := "c5d85925bff47eeea08aa4f94ab0076512ed205b1951b8c5f9efcc569530d68b", func := "scantling/scantlinglaw03.ImagePlays", spec := "imagePlays", apart := false }
def ImagePlaysSaid : Prop := imagePlaysRow.holds Try.pinned (OpenSpec.ofChange imagePlaysSpec)

/-- ITS FALSE NEIGHBOUR: 'it returns false'. Refute it at one input. -/
def imagePlaysWrong : ChangeSpec := { name := "imagePlays", fn := fun _ => fun
  | [d1, d2] => { results := [.lit (.bool false)], args := [d1, d2] }
  | _ => none }
def ImagePlaysWrongFalsely : Prop := imagePlaysRow.holds Try.pinned (OpenSpec.ofChange imagePlaysWrong)

/-- 'scantlinglaw03.ImageNew': WHATEVER THE INPUT: true; the input reads as it did. -/
def imageNewSpec : ChangeSpec := { name := "imageNew", fn := fun _ => fun
  | [d] => { results := [.lit (.bool true)], args := [d] }
  | _ => none }
def imageNewRow : OpenClaim := { program := "ytadoclbalcecpaa", sum := "c5d85925bff47eeea08aa4f94ab0076512ed205b1951b8c5f9efcc569530d68b", func := "scantling/scantlinglaw03.ImageNew", spec := "imageNew", apart := false }
def ImageNewSaid : Prop := imageNewRow.holds Try.pinned (OpenSpec.ofChange imageNewSpec)

/-- ITS FALSE NEIGHBOUR: 'it returns false'. Refute it at one input. -/
def imageNewWrong : ChangeSpec := { name := "imageNew", fn := fun _ => fun
  | [d] => { results := [.lit (.bool false)], args := [d] }
  | _ => none }
def ImageNewWrongFalsely : Prop := imageNewRow.holds Try.pinned (OpenSpec.ofChange imageNewWrong)

/-- 'scantlinglaw03.ImageApart': WHATEVER THE INPUT: true; the input reads as it did. -/
def imageApartSpec : ChangeSpec := { name := "imageApart", fn := fun _ => fun
  | [d1, d2] => { results := [.lit (.bool true)], args := [d1, d2] }
  | _ => none }
def imageApartRow : OpenClaim := { program := "ytadoclbalcecpaa", sum := "c5d85925bff47eeea08aa4f94ab0076512ed205b1951b8c5f9efcc569530d68b", func := "scantling/scantlinglaw03.ImageApart", spec := "imageApart", apart := false }
def ImageApartSaid : Prop := imageApartRow.holds Try.pinned (OpenSpec.ofChange imageApartSpec)

/-- ITS FALSE NEIGHBOUR: 'it returns false'. Refute it at one input. -/
def imageApartWrong : ChangeSpec := { name := "imageApart", fn := fun _ => fun
  | [d1, d2] => { results := [.lit (.bool false)], args := [d1, d2] }
  | _ => none }
def ImageApartWrongFalsely : Prop := imageApartRow.holds Try.pinned (OpenSpec.ofChange imageApartWrong)

/-- 'scantlinglaw03.ImageOthers': WHATEVER THE INPUT: true; the input reads as it did. -/
def imageOthersSpec : ChangeSpec := { name := "imageOthers", fn := fun _ => fun
  | [d1, d2, d3] => { results := [.lit (.bool true)], args := [d1, d2, d3] }
  | _ => none }
def imageOthersRow : OpenClaim := { program := "ytadoclbalcecpaa", sum := "c5d85925bff47eeea08aa4f94ab0076512ed205b1951b8c5f9efcc569530d68b", func := "scantling/scantlinglaw03.ImageOthers", spec := "imageOthers", apart := false }
def ImageOthersSaid : Prop := imageOthersRow.holds Try.pinned (OpenSpec.ofChange imageOthersSpec)

/-- ITS FALSE NEIGHBOUR: 'it returns false'. Refute it at one input. -/
def imageOthersWrong : ChangeSpec := { name := "imageOthers", fn := fun _ => fun
  | [d1, d2, d3] => { results := [.lit (.bool false)], args := [d1, d2, d3] }
  | _ => none }
def ImageOthersWrongFalsely : Prop := imageOthersRow.holds Try.pinned (OpenSpec.ofChange imageOthersWrong)

/-- 'scantlinglaw03.ImageNobody': WHATEVER THE INPUT: true; the input reads as it did. -/
def imageNobodySpec : ChangeSpec := { name := "imageNobody", fn := fun _ => fun
  | [d1, d2] => { results := [.lit (.bool true)], args := [d1, d2] }
  | _ => none }
def imageNobodyRow : OpenClaim := { program := "ytadoclbalcecpaa", sum := "c5d85925bff47eeea08aa4f94ab0076512ed205b1951b8c5f9efcc569530d68b", func := "scantling/scantlinglaw03.ImageNobody", spec := "imageNobody", apart := false }
def ImageNobodySaid : Prop := imageNobodyRow.holds Try.pinned (OpenSpec.ofChange imageNobodySpec)

/-- ITS FALSE NEIGHBOUR: 'it returns false'. Refute it at one input. -/
def imageNobodyWrong : ChangeSpec := { name := "imageNobody", fn := fun _ => fun
  | [d1, d2] => { results := [.lit (.bool false)], args := [d1, d2] }
  | _ => none }
def ImageNobodyWrongFalsely : Prop := imageNobodyRow.holds Try.pinned (OpenSpec.ofChange imageNobodyWrong)

/- THE SECOND FORM. 'bulk': how many values and letters a reading holds, each counted each time it is reached (what is shared counts as often as it is met; a slice's spare places count too). A statement '..UptoSaid' is the law's where the arguments, and the package variables that the reading takes, are together of bulk at most 1048576: NARROWER than '..Said'. Prove '..Said' where nothing that the law and all that it calls make is longer than what came in: it says more and counts as full. Else prove '..UptoSaid'. A law counts once. -/
mutual
def uptoBulk {H : Type} : DataW H → Nat
  | .lit (.string bytes) => bytes.length + 1
  | .lit _ => 1
  | .nil => 1
  | .ptr d => uptoBulk d + 1
  | .slice elems spare => uptoBulkAll elems + uptoBulkAll spare + 1
  | .agg parts => uptoBulkAll parts + 1
  | .iface _ d => uptoBulk d + 1
  | .map entries => uptoBulkEntries entries + 1
  | .held _ => 1
def uptoBulkAll {H : Type} : List (DataW H) → Nat
  | [] => 0
  | d :: r => uptoBulk d + uptoBulkAll r
def uptoBulkEntries {H : Type} : List (Lit × DataW H) → Nat
  | [] => 0
  | x :: r => uptoBulkEntry x + uptoBulkEntries r
def uptoBulkEntry {H : Type} : Lit × DataW H → Nat
  | (.string bytes, d) => bytes.length + uptoBulk d + 1
  | (_, d) => uptoBulk d + 1
 end
def uptoSmall : (H : Type) → List (DataW H) → Bool := fun _ ds => decide (uptoBulkAll ds ≤ 1048576)
def OpenSpec.upto (s : _root_.Go.ChangeSpec) : _root_.Go.OpenSpec := { _root_.Go.OpenSpec.ofChange s with cond := some uptoSmall }

/-- 'scantlinglaw03.ImagePlays', WHERE WHAT IT READS IS OF BULK AT MOST 1048576: true; the input reads as it did. -/
def imagePlaysUptoRow : OpenClaim := { program := "ytadoclbalcecpaa", sum := "c5d85925bff47eeea08aa4f94ab0076512ed205b1951b8c5f9efcc569530d68b", func := "scantling/scantlinglaw03.ImagePlays", spec := "imagePlays", apart := false, narrowed := true }
def ImagePlaysUptoSaid : Prop := imagePlaysUptoRow.holds Try.pinned (OpenSpec.upto imagePlaysSpec)

/-- 'scantlinglaw03.ImageNew', WHERE WHAT IT READS IS OF BULK AT MOST 1048576: true; the input reads as it did. -/
def imageNewUptoRow : OpenClaim := { program := "ytadoclbalcecpaa", sum := "c5d85925bff47eeea08aa4f94ab0076512ed205b1951b8c5f9efcc569530d68b", func := "scantling/scantlinglaw03.ImageNew", spec := "imageNew", apart := false, narrowed := true }
def ImageNewUptoSaid : Prop := imageNewUptoRow.holds Try.pinned (OpenSpec.upto imageNewSpec)

/-- 'scantlinglaw03.ImageApart', WHERE WHAT IT READS IS OF BULK AT MOST 1048576: true; the input reads as it did. -/
def imageApartUptoRow : OpenClaim := { program := "ytadoclbalcecpaa", sum := "c5d85925bff47eeea08aa4f94ab0076512ed205b1951b8c5f9efcc569530d68b", func := "scantling/scantlinglaw03.ImageApart", spec := "imageApart", apart := false, narrowed := true }
def ImageApartUptoSaid : Prop := imageApartUptoRow.holds Try.pinned (OpenSpec.upto imageApartSpec)

/-- 'scantlinglaw03.ImageOthers', WHERE WHAT IT READS IS OF BULK AT MOST 1048576: true; the input reads as it did. -/
def imageOthersUptoRow : OpenClaim := { program := "ytadoclbalcecpaa", sum := "c5d85925bff47eeea08aa4f94ab0076512ed205b1951b8c5f9efcc569530d68b", func := "scantling/scantlinglaw03.ImageOthers", spec := "imageOthers", apart := false, narrowed := true }
def ImageOthersUptoSaid : Prop := imageOthersUptoRow.holds Try.pinned (OpenSpec.upto imageOthersSpec)

/-- 'scantlinglaw03.ImageNobody', WHERE WHAT IT READS IS OF BULK AT MOST 1048576: true; the input reads as it did. -/
def imageNobodyUptoRow : OpenClaim := { program := "ytadoclbalcecpaa", sum := "c5d85925bff47eeea08aa4f94ab0076512ed205b1951b8c5f9efcc569530d68b", func := "scantling/scantlinglaw03.ImageNobody", spec := "imageNobody", apart := false, narrowed := true }
def ImageNobodyUptoSaid : Prop := imageNobodyUptoRow.holds Try.pinned (OpenSpec.upto imageNobodySpec)

end Rows
end Go.Proofs.Ytadoclbalcecpaa
