/-
  Joined: SealG, SealH.
-/
import Derived.Deep.RegionHeld3
import Derived.Deep.RegionWith
import Derived.Deep.DeepCutAuto
import Derived.Test.YtajeelbeochojaaGreatDoorJAlcB21
import Derived.Test.YtajeelbeochojaaGreatDoorJAlcB17
import Derived.Test.YtajeelbeochojaaGreatDoorJAlcB11
import Derived.LoopTactic
/-
  The reference's Open.
-/
namespace Go.Proofs.YtajeelbeochojaaGreatDoor
open Go.RowKit
set_option linter.unusedVariables false
set_option linter.unusedSimpArgs false

end Go.Proofs.YtajeelbeochojaaGreatDoor

/-
  The reference's Open, whatever the block, and its Which.
-/
namespace Go.Proofs.YtajeelbeochojaaGreatDoor
open Go.RowKit
set_option linter.unusedVariables false
set_option linter.unusedSimpArgs false

end Go.Proofs.YtajeelbeochojaaGreatDoor
