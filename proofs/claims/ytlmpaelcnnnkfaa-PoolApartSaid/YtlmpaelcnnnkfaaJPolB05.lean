/-
  Joined: CodeB, CodeC, CodeD.
-/
import Derived.Deep.QuietTactic
import Derived.BigQuiet
import Derived.RegionTactic
import Derived.Test.YtlmpaelcnnnkfaaJPolB03
import Derived.Test.YtlmpaelcnnnkfaaJPolB00
import Derived.LoopTactic
/-
  Layer 1's join: what a width of bytes encodes.
-/
namespace Go.Proofs.Ytlmpaelcnnnkfaa
open Go.RowKit
set_option linter.unusedVariables false
set_option linter.unusedSimpArgs false

end Go.Proofs.Ytlmpaelcnnnkfaa

/-
  Layer 1's Get.
-/
namespace Go.Proofs.Ytlmpaelcnnnkfaa
open Go.RowKit
set_option linter.unusedVariables false
set_option linter.unusedSimpArgs false

end Go.Proofs.Ytlmpaelcnnnkfaa

/-
  The reference's Get.
-/
namespace Go.Proofs.Ytlmpaelcnnnkfaa
open Go.RowKit
set_option linter.unusedVariables false
set_option linter.unusedSimpArgs false

end Go.Proofs.Ytlmpaelcnnnkfaa
