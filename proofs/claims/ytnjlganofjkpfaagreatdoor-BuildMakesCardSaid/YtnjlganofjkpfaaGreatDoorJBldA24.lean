/-
  Joined: SealG, SealH.
-/
import Derived.Deep.RegionHeld3
import Derived.Deep.RegionWith
import Derived.Deep.DeepCutAuto
import Derived.Test.YtnjlganofjkpfaaGreatDoorJBldA23
import Derived.Test.YtnjlganofjkpfaaGreatDoorJBldA19
import Derived.Test.YtnjlganofjkpfaaGreatDoorJBldA12
import Derived.LoopTactic
/-
  The reference's Open.
-/
namespace Go.Proofs.YtnjlganofjkpfaaGreatDoor
open Go.RowKit
set_option linter.unusedVariables false
set_option linter.unusedSimpArgs false

end Go.Proofs.YtnjlganofjkpfaaGreatDoor

/-
  The reference's Open, whatever the block, and its Which.
-/
namespace Go.Proofs.YtnjlganofjkpfaaGreatDoor
open Go.RowKit
set_option linter.unusedVariables false
set_option linter.unusedSimpArgs false

end Go.Proofs.YtnjlganofjkpfaaGreatDoor
