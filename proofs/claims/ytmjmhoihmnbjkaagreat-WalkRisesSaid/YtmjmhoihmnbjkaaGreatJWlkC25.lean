/-
  Joined: ValP, ValQ, ValR, ValS.
-/
import Derived.Deep.RegionWith
import Derived.Test.YtmjmhoihmnbjkaaGreatJWlkC23
import Derived.Test.YtmjmhoihmnbjkaaGreatJWlkC13
import Derived.Test.YtmjmhoihmnbjkaaGreatJWlkC10
import Derived.Test.YtmjmhoihmnbjkaaGreatJWlkC09
/-
  Layer 8's reference: in, text.
-/
namespace Go.Proofs.YtmjmhoihmnbjkaaGreat
open Go.RowKit
set_option linter.unusedVariables false
set_option linter.unusedSimpArgs false

/-- a text, closed to the walk -/
def tx (l : List UInt8) : Value := .string ⟨l.toArray⟩
end Go.Proofs.YtmjmhoihmnbjkaaGreat

/-
  Layer 8's reference: Map, Detail, Slot, Root, Count.
-/
namespace Go.Proofs.YtmjmhoihmnbjkaaGreat
open Go.RowKit
set_option linter.unusedVariables false
set_option linter.unusedSimpArgs false

end Go.Proofs.YtmjmhoihmnbjkaaGreat

/-
  Layer 8's reference: ReadMap, ReadRoot, ReadCount.
-/
namespace Go.Proofs.YtmjmhoihmnbjkaaGreat
open Go.RowKit
set_option linter.unusedVariables false
set_option linter.unusedSimpArgs false

end Go.Proofs.YtmjmhoihmnbjkaaGreat

/-
  Layer 8's reference: ReadDetail, ReadSlot.
-/
namespace Go.Proofs.YtmjmhoihmnbjkaaGreat
open Go.RowKit
set_option linter.unusedVariables false
set_option linter.unusedSimpArgs false

end Go.Proofs.YtmjmhoihmnbjkaaGreat
