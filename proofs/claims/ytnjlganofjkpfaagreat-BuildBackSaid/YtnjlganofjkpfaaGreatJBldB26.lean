/-
  Joined: ImgE, ImgF, ImgG, ImgH, ImgI, ImgT, ImgJ.
-/
import Derived.Test.YtnjlganofjkpfaaGreatJBldB12
import Derived.Test.YtnjlganofjkpfaaGreatJBldB14
import Derived.Deep.AppendLies
import Derived.Lib.AppendStr
import Derived.Laws.IdiomStrings
import Derived.Deep.RegionLaw
/-
  Layer 3's laws: few writes.
-/
namespace Go.Proofs.YtnjlganofjkpfaaGreat
open Go.RowKit
set_option linter.unusedVariables false
set_option linter.unusedSimpArgs false

end Go.Proofs.YtnjlganofjkpfaaGreat

/-
  The reference's image in memory: a list of strings behind a pointer; its New.
-/
namespace Go.Proofs.YtnjlganofjkpfaaGreat
open Go.RowKit
set_option linter.unusedVariables false
set_option linter.unusedSimpArgs false

/-- bytes as a string -/
def txt (l : List UInt8) : Value := .string ⟨l.toArray⟩
end Go.Proofs.YtnjlganofjkpfaaGreat

/-
  The reference's Bytes, Read.
-/
namespace Go.Proofs.YtnjlganofjkpfaaGreat
open Go.RowKit
set_option linter.unusedVariables false
set_option linter.unusedSimpArgs false

end Go.Proofs.YtnjlganofjkpfaaGreat

/-
  The reference's Of.
-/
namespace Go.Proofs.YtnjlganofjkpfaaGreat
open Go.RowKit
set_option linter.unusedVariables false
set_option linter.unusedSimpArgs false

/-- the first q blocks -/
def blks (l : List UInt8) (q : Nat) : List (List UInt8) := (List.range q).map (blk l)
end Go.Proofs.YtnjlganofjkpfaaGreat

/-
  The reference's Read, Write.
-/
namespace Go.Proofs.YtnjlganofjkpfaaGreat
open Go.RowKit
set_option linter.unusedVariables false
set_option linter.unusedSimpArgs false

end Go.Proofs.YtnjlganofjkpfaaGreat

/-
  An image and the reference's image, in one world.
-/
namespace Go.Proofs.YtnjlganofjkpfaaGreat
open Go.RowKit
set_option linter.unusedVariables false
set_option linter.unusedSimpArgs false

end Go.Proofs.YtnjlganofjkpfaaGreat

/-
  An image and the reference's image, written side by side.
-/
namespace Go.Proofs.YtnjlganofjkpfaaGreat
open Go.RowKit
set_option linter.unusedVariables false
set_option linter.unusedSimpArgs false

end Go.Proofs.YtnjlganofjkpfaaGreat
