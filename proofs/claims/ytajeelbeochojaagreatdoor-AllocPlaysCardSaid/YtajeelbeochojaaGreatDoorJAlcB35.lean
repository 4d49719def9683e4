/-
  Joined: NodC, NodD, NodE, NodF.
-/
import Derived.Test.YtajeelbeochojaaGreatDoorJAlcB31
import Derived.Test.YtajeelbeochojaaGreatDoorJAlcB16
import Derived.Test.YtajeelbeochojaaGreatDoorJAlcB23
import Derived.Test.YtajeelbeochojaaGreatDoorJAlcB02
/-
  Layer 7's begin; what an encoding is made of.
-/
namespace Go.Proofs.YtajeelbeochojaaGreatDoor
open Go.RowKit
set_option linter.unusedVariables false
set_option linter.unusedSimpArgs false

/-! ### the bytes -/
end Go.Proofs.YtajeelbeochojaaGreatDoor

/-
  Layer 7's Put.
-/
namespace Go.Proofs.YtajeelbeochojaaGreatDoor
open Go.RowKit
set_option linter.unusedVariables false
set_option linter.unusedSimpArgs false

end Go.Proofs.YtajeelbeochojaaGreatDoor

/-
  Layer 7's Same, and the library's Equal and HasPrefix that it and Read call.
-/
namespace Go.Proofs.YtajeelbeochojaaGreatDoor
open Go.RowKit
set_option linter.unusedVariables false
set_option linter.unusedSimpArgs false

end Go.Proofs.YtajeelbeochojaaGreatDoor

/-
  Layer 7's Same.
-/
namespace Go.Proofs.YtajeelbeochojaaGreatDoor
open Go.RowKit
set_option linter.unusedVariables false
set_option linter.unusedSimpArgs false

end Go.Proofs.YtajeelbeochojaaGreatDoor
