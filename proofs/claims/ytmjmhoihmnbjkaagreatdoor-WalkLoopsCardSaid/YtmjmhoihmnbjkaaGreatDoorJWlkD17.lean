/-
  Joined: SealG, SealH.
-/
import Derived.Deep.RegionHeld3
import Derived.Deep.RegionWith
import Derived.Deep.DeepCutAuto
import Derived.Test.YtmjmhoihmnbjkaaGreatDoorJWlkD16
import Derived.Test.YtmjmhoihmnbjkaaGreatDoorJWlkD13
import Derived.Test.YtmjmhoihmnbjkaaGreatDoorJWlkD08
import Derived.LoopTactic
/-
  The reference's Open.
-/
namespace Go.Proofs.YtmjmhoihmnbjkaaGreatDoor
open Go.RowKit
set_option linter.unusedVariables false
set_option linter.unusedSimpArgs false

end Go.Proofs.YtmjmhoihmnbjkaaGreatDoor

/-
  The reference's Open, whatever the block, and its Which.
-/
namespace Go.Proofs.YtmjmhoihmnbjkaaGreatDoor
open Go.RowKit
set_option linter.unusedVariables false
set_option linter.unusedSimpArgs false

end Go.Proofs.YtmjmhoihmnbjkaaGreatDoor
