/-
  Joined: MemH.
-/
import Derived.Lib.LazyBuf
import Derived.Lib.SlBuf
import Derived.Test.YtajeelbeochojaaGreatDoorJAlcB02
/-
  copy of a string into bytes of the call's own.
-/
namespace Go.Proofs.YtajeelbeochojaaGreatDoor
open Go.RowKit
set_option linter.unusedVariables false
set_option linter.unusedSimpArgs false

end Go.Proofs.YtajeelbeochojaaGreatDoor
