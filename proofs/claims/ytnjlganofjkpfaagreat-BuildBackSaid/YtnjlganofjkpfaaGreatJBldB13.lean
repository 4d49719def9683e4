/-
  Joined: MemJ.
-/
import Derived.Lib.ConvBytes
import Derived.WalkKit
import Derived.Test.YtnjlganofjkpfaaGreatJBldB09
/-
  A string as bytes.
-/
namespace Go.Proofs.YtnjlganofjkpfaaGreat
open Go.RowKit
set_option linter.unusedVariables false
set_option linter.unusedSimpArgs false

end Go.Proofs.YtnjlganofjkpfaaGreat
