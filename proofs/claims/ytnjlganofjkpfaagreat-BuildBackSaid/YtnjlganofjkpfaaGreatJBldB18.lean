/-
  Joined: SealF.
-/
import Derived.LoopTactic
import Derived.Test.YtnjlganofjkpfaaGreatJBldB17
import Derived.Test.YtnjlganofjkpfaaGreatJBldB16
import Derived.Test.YtnjlganofjkpfaaGreatJBldB07
import Derived.Test.YtnjlganofjkpfaaGreatJBldB02
/-
  The reference's Seal.
-/
namespace Go.Proofs.YtnjlganofjkpfaaGreat
open Go.RowKit
set_option linter.unusedVariables false
set_option linter.unusedSimpArgs false

end Go.Proofs.YtnjlganofjkpfaaGreat
