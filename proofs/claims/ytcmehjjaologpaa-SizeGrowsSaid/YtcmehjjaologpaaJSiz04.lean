/-
  Joined: CodeA.
-/
import Derived.Test.YtcmehjjaologpaaRows
import Derived.WalkKit
import Derived.WalkSpells
import Derived.Lib.Hide
import Derived.WalkLawsBesides
import Derived.Test.YtcmehjjaologpaaJSiz01
/-
  The small helpers of layer 1 and of its reference: widths, room, fits.
-/
namespace Go.Proofs.Ytcmehjjaologpaa
open Go.RowKit
set_option linter.unusedVariables false
set_option linter.unusedSimpArgs false

end Go.Proofs.Ytcmehjjaologpaa
