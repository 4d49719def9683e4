/-
  Joined: RefF, RefG, RefT.
-/
import Derived.RangeFuncNested
import Derived.Maps.AppendAt
import Derived.Test.YtcmehjjaologpaaJSiz12
import Derived.Test.YtcmehjjaologpaaJSiz07
/-
  Layer 12: what the loop over the iterator collects; From.
-/
namespace Go.Proofs.Ytcmehjjaologpaa
open Go.RowKit Go.Shelf
set_option linter.unusedVariables false
set_option linter.unusedSimpArgs false
attribute [local go_sem] Oper.semAt_some

end Go.Proofs.Ytcmehjjaologpaa

/-
  Layer 12: Differ.
-/
namespace Go.Proofs.Ytcmehjjaologpaa
open Go.RowKit Go.Shelf
set_option linter.unusedVariables false
set_option linter.unusedSimpArgs false
attribute [local go_sem] Oper.semAt_some

end Go.Proofs.Ytcmehjjaologpaa

/-
  Layer 12: the reference's From.
-/
namespace Go.Proofs.Ytcmehjjaologpaa
open Go.RowKit
set_option linter.unusedVariables false
set_option linter.unusedSimpArgs false

end Go.Proofs.Ytcmehjjaologpaa
