/-
  Joined: ValP, ValQ, ValR, ValS.
-/
import Derived.Deep.RegionWith
import Derived.Test.YtmjmhoihmnbjkaaGreatDoorJWlkD23
import Derived.Test.YtmjmhoihmnbjkaaGreatDoorJWlkD12
import Derived.Test.YtmjmhoihmnbjkaaGreatDoorJWlkD09
import Derived.Test.YtmjmhoihmnbjkaaGreatDoorJWlkD08
/-
  Layer 8's reference: in, text.
-/
namespace Go.Proofs.YtmjmhoihmnbjkaaGreatDoor
open Go.RowKit
set_option linter.unusedVariables false
set_option linter.unusedSimpArgs false

/-- a text, closed to the walk -/
def tx (l : List UInt8) : Value := .string ⟨l.toArray⟩
end Go.Proofs.YtmjmhoihmnbjkaaGreatDoor

/-
  Layer 8's reference: Map, Detail, Slot, Root, Count.
-/
namespace Go.Proofs.YtmjmhoihmnbjkaaGreatDoor
open Go.RowKit
set_option linter.unusedVariables false
set_option linter.unusedSimpArgs false

end Go.Proofs.YtmjmhoihmnbjkaaGreatDoor

/-
  Layer 8's reference: ReadMap, ReadRoot, ReadCount.
-/
namespace Go.Proofs.YtmjmhoihmnbjkaaGreatDoor
open Go.RowKit
set_option linter.unusedVariables false
set_option linter.unusedSimpArgs false

end Go.Proofs.YtmjmhoihmnbjkaaGreatDoor

/-
  Layer 8's reference: ReadDetail, ReadSlot.
-/
namespace Go.Proofs.YtmjmhoihmnbjkaaGreatDoor
open Go.RowKit
set_option linter.unusedVariables false
set_option linter.unusedSimpArgs false

end Go.Proofs.YtmjmhoihmnbjkaaGreatDoor
