/-
  Joined: CodeB, CodeC, CodeD.
-/
import Derived.Deep.QuietTactic
import Derived.BigQuiet
import Derived.RegionTactic
import Derived.Test.YtcmehjjaologpaaJSiz04
import Derived.Test.YtcmehjjaologpaaJSiz01
import Derived.LoopTactic
/-
  Layer 1's join: what a width of bytes encodes.
-/
namespace Go.Proofs.Ytcmehjjaologpaa
open Go.RowKit
set_option linter.unusedVariables false
set_option linter.unusedSimpArgs false

end Go.Proofs.Ytcmehjjaologpaa

/-
  Layer 1's Get.
-/
namespace Go.Proofs.Ytcmehjjaologpaa
open Go.RowKit
set_option linter.unusedVariables false
set_option linter.unusedSimpArgs false

end Go.Proofs.Ytcmehjjaologpaa

/-
  The reference's Get.
-/
namespace Go.Proofs.Ytcmehjjaologpaa
open Go.RowKit
set_option linter.unusedVariables false
set_option linter.unusedSimpArgs false

end Go.Proofs.Ytcmehjjaologpaa
