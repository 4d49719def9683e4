/-
  Joined: SupD, SupG, SupH.
-/
import Derived.Test.YtajeelbeochojaaGreatDoorJAlcB16
import Derived.Test.YtajeelbeochojaaGreatDoorJAlcB23
import Derived.LoopTactic
import Derived.Test.YtajeelbeochojaaGreatDoorJAlcB11
import Derived.Laws.ResultCell
/-
  Layer 6's Put.
-/
namespace Go.Proofs.YtajeelbeochojaaGreatDoor
open Go.RowKit
set_option linter.unusedVariables false
set_option linter.unusedSimpArgs false

end Go.Proofs.YtajeelbeochojaaGreatDoor

/-
  Layer 6's Read: the action that decodes the fields.
-/
namespace Go.Proofs.YtajeelbeochojaaGreatDoor
open Go.RowKit
set_option linter.unusedVariables false
set_option linter.unusedSimpArgs false

end Go.Proofs.YtajeelbeochojaaGreatDoor

/-
  Layer 6's Read.
-/
namespace Go.Proofs.YtajeelbeochojaaGreatDoor
open Go.RowKit
set_option linter.unusedVariables false
set_option linter.unusedSimpArgs false

end Go.Proofs.YtajeelbeochojaaGreatDoor
