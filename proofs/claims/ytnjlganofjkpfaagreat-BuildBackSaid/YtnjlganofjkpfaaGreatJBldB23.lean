/-
  Joined: SealG, SealH.
-/
import Derived.Deep.RegionHeld3
import Derived.Deep.RegionWith
import Derived.Deep.DeepCutAuto
import Derived.Test.YtnjlganofjkpfaaGreatJBldB22
import Derived.Test.YtnjlganofjkpfaaGreatJBldB18
import Derived.Test.YtnjlganofjkpfaaGreatJBldB11
import Derived.LoopTactic
/-
  The reference's Open.
-/
namespace Go.Proofs.YtnjlganofjkpfaaGreat
open Go.RowKit
set_option linter.unusedVariables false
set_option linter.unusedSimpArgs false

end Go.Proofs.YtnjlganofjkpfaaGreat

/-
  The reference's Open, whatever the block, and its Which.
-/
namespace Go.Proofs.YtnjlganofjkpfaaGreat
open Go.RowKit
set_option linter.unusedVariables false
set_option linter.unusedSimpArgs false

end Go.Proofs.YtnjlganofjkpfaaGreat
