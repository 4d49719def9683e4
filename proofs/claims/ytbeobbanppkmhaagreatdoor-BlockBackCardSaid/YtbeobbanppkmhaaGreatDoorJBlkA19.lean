/-
  Joined: SealG, SealH.
-/
import Derived.Deep.RegionHeld3
import Derived.Deep.RegionWith
import Derived.Deep.DeepCutAuto
import Derived.Test.YtbeobbanppkmhaaGreatDoorJBlkA18
import Derived.Test.YtbeobbanppkmhaaGreatDoorJBlkA15
import Derived.Test.YtbeobbanppkmhaaGreatDoorJBlkA10
import Derived.LoopTactic
/-
  The reference's Open.
-/
namespace Go.Proofs.YtbeobbanppkmhaaGreatDoor
open Go.RowKit
set_option linter.unusedVariables false
set_option linter.unusedSimpArgs false

end Go.Proofs.YtbeobbanppkmhaaGreatDoor

/-
  The reference's Open, whatever the block, and its Which.
-/
namespace Go.Proofs.YtbeobbanppkmhaaGreatDoor
open Go.RowKit
set_option linter.unusedVariables false
set_option linter.unusedSimpArgs false

end Go.Proofs.YtbeobbanppkmhaaGreatDoor
