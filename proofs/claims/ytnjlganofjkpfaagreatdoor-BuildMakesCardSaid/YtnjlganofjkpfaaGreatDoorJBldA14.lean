/-
  Joined: MemJ.
-/
import Derived.Lib.ConvBytes
import Derived.WalkKit
import Derived.Test.YtnjlganofjkpfaaGreatDoorJBldA10
/-
  A string as bytes.
-/
namespace Go.Proofs.YtnjlganofjkpfaaGreatDoor
open Go.RowKit
set_option linter.unusedVariables false
set_option linter.unusedSimpArgs false

end Go.Proofs.YtnjlganofjkpfaaGreatDoor
