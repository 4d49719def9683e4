/-
  Joined: ValP, ValQ, ValR, ValS.
-/
import Derived.Deep.RegionWith
import Derived.Test.YtajeelbeochojaaGreatDoorJAlcB28
import Derived.Test.YtajeelbeochojaaGreatDoorJAlcB16
import Derived.Test.YtajeelbeochojaaGreatDoorJAlcB13
import Derived.Test.YtajeelbeochojaaGreatDoorJAlcB11
/-
  Layer 8's reference: in, text.
-/
namespace Go.Proofs.YtajeelbeochojaaGreatDoor
open Go.RowKit
set_option linter.unusedVariables false
set_option linter.unusedSimpArgs false

/-- a text, closed to the walk -/
def tx (l : List UInt8) : Value := .string ⟨l.toArray⟩
end Go.Proofs.YtajeelbeochojaaGreatDoor

/-
  Layer 8's reference: Map, Detail, Slot, Root, Count.
-/
namespace Go.Proofs.YtajeelbeochojaaGreatDoor
open Go.RowKit
set_option linter.unusedVariables false
set_option linter.unusedSimpArgs false

end Go.Proofs.YtajeelbeochojaaGreatDoor

/-
  Layer 8's reference: ReadMap, ReadRoot, ReadCount.
-/
namespace Go.Proofs.YtajeelbeochojaaGreatDoor
open Go.RowKit
set_option linter.unusedVariables false
set_option linter.unusedSimpArgs false

end Go.Proofs.YtajeelbeochojaaGreatDoor

/-
  Layer 8's reference: ReadDetail, ReadSlot.
-/
namespace Go.Proofs.YtajeelbeochojaaGreatDoor
open Go.RowKit
set_option linter.unusedVariables false
set_option linter.unusedSimpArgs false

end Go.Proofs.YtajeelbeochojaaGreatDoor
