/-
  Joined: ValF, ValG, ValH, ValL.
-/
import Derived.BigRegion
import Derived.Test.YtnjlganofjkpfaaGreatDoorJBldA21
import Derived.Test.YtnjlganofjkpfaaGreatDoorJBldA03
import Derived.Test.YtnjlganofjkpfaaGreatDoorJBldA26
import Derived.Laws.ResultCell
import Derived.OwnWalk
/-
  Layer 8's read.
-/
namespace Go.Proofs.YtnjlganofjkpfaaGreatDoor
open Go.RowKit
set_option linter.unusedVariables false
set_option linter.unusedSimpArgs false

end Go.Proofs.YtnjlganofjkpfaaGreatDoor

/-
  Layer 8's ReadMap, ReadDetail, ReadSlot, ReadRoot, ReadCount.
-/
namespace Go.Proofs.YtnjlganofjkpfaaGreatDoor
open Go.RowKit
set_option linter.unusedVariables false
set_option linter.unusedSimpArgs false

/-! ### one integer in a variable -/
def IntVar (w : World) (g : Nat) (x : Int) : Prop := w.heap[g]? = some (.cells #[.int .i64 x] 3 (0, 0))
theorem IntVar.cell {w : World} {g : Nat} {x : Int} (h : IntVar w g x) : w.cell? ⟨g, 0, none⟩ = some (.int .i64 x) := by rw [cell_of_row w g 0 _ _ _ h]; rfl

end Go.Proofs.YtnjlganofjkpfaaGreatDoor

/-
  Layer 8's ReadDetail, ReadSlot.
-/
namespace Go.Proofs.YtnjlganofjkpfaaGreatDoor
open Go.RowKit
set_option linter.unusedVariables false
set_option linter.unusedSimpArgs false

end Go.Proofs.YtnjlganofjkpfaaGreatDoor

/-
  Layer 8: lives; values as texts.
-/
namespace Go.Proofs.YtnjlganofjkpfaaGreatDoor
open Go.RowKit
set_option linter.unusedVariables false
set_option linter.unusedSimpArgs false

/-- the bytes of a text -/
abbrev bs (y : ByteArray) : List UInt8 := y.data.toList
end Go.Proofs.YtnjlganofjkpfaaGreatDoor
