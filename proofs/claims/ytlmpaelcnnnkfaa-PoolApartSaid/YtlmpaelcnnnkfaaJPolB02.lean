/-
  Joined: MemP.
-/
import Derived.Deep.AppendLies
import Derived.Test.YtlmpaelcnnnkfaaJPolB00
/-
  append onto a row of the call's own, all other blocks kept, and where the new slice lies: its old block, or a new one.
-/
namespace Go.Proofs.Ytlmpaelcnnnkfaa
open Go.RowKit
set_option linter.unusedVariables false
set_option linter.unusedSimpArgs false

end Go.Proofs.Ytlmpaelcnnnkfaa
