/-
  Joined: BlkB, BlkC.
-/
import Derived.Test.YtajeelbeochojaaGreatDoorJAlcB37
import Derived.Test.YtajeelbeochojaaGreatDoorJAlcB26
import Derived.Test.YtajeelbeochojaaGreatDoorJAlcB36
import Derived.Test.YtajeelbeochojaaGreatDoorJAlcB27
import Derived.Test.YtajeelbeochojaaGreatDoorJAlcB17
import Derived.Test.YtajeelbeochojaaGreatDoorJAlcB21
import Derived.Test.YtajeelbeochojaaGreatDoorJAlcB12
/-
  Results that are structs in variables: a superblock or a node beside an error; a slice beside an error.
-/
namespace Go.Proofs.YtajeelbeochojaaGreatDoor
open Go.RowKit
set_option linter.unusedVariables false
set_option linter.unusedSimpArgs false

theorem two_other {w : World} {p q : Nat} {o : Obj} (h : w.heap[q]? = some o) (hne : q ≠ p) (c d : Value) : ((w.setCell ⟨p, 0, none⟩ c).setCell ⟨p, 1, none⟩ d).heap[q]? = some o := by
  rw [heap_setCell_other _ _ q _ hne, heap_setCell_other _ _ q _ hne]
  exact h
end Go.Proofs.YtajeelbeochojaaGreatDoor

/-
  block.read for counts and for slots; block.Bits and block.Index.
-/
namespace Go.Proofs.YtajeelbeochojaaGreatDoor
open Go.RowKit
set_option linter.unusedVariables false
set_option linter.unusedSimpArgs false

end Go.Proofs.YtajeelbeochojaaGreatDoor
