/-
  Joined: ValP, ValQ, ValR, ValS.
-/
import Derived.Deep.RegionWith
import Derived.Test.YtbeobbanppkmhaaGreatDoorJBlkA25
import Derived.Test.YtbeobbanppkmhaaGreatDoorJBlkA14
import Derived.Test.YtbeobbanppkmhaaGreatDoorJBlkA11
import Derived.Test.YtbeobbanppkmhaaGreatDoorJBlkA10
/-
  Layer 8's reference: in, text.
-/
namespace Go.Proofs.YtbeobbanppkmhaaGreatDoor
open Go.RowKit
set_option linter.unusedVariables false
set_option linter.unusedSimpArgs false

/-- a text, closed to the walk -/
def tx (l : List UInt8) : Value := .string ⟨l.toArray⟩
end Go.Proofs.YtbeobbanppkmhaaGreatDoor

/-
  Layer 8's reference: Map, Detail, Slot, Root, Count.
-/
namespace Go.Proofs.YtbeobbanppkmhaaGreatDoor
open Go.RowKit
set_option linter.unusedVariables false
set_option linter.unusedSimpArgs false

end Go.Proofs.YtbeobbanppkmhaaGreatDoor

/-
  Layer 8's reference: ReadMap, ReadRoot, ReadCount.
-/
namespace Go.Proofs.YtbeobbanppkmhaaGreatDoor
open Go.RowKit
set_option linter.unusedVariables false
set_option linter.unusedSimpArgs false

theorem val_small {l : List UInt8} {k : Nat} (hk : k ≤ 4) (hl : l.length = k) : leN l < 4294967296 := by
  have := leN_lt l
  have h2 : 256 ^ l.length ≤ 256 ^ 4 := Nat.pow_le_pow_right (by omega) (by omega)
  omega
theorem val_get4 {l : List UInt8} (hl : l.length = 4) : getE l 0 4 = 0 ∧ getN l 0 4 = (leN l : Int) := by
  have hr : roomE l.length 0 4 = 0 := by
    rw [hl]
    rfl
  have hp : part l 0 4 = l := by
    simp only [part]
    exact List.take_of_length_le (by rw [List.length_drop, hl]; decide)
  have hs := val_small (Nat.le_refl 4) hl
  have he : getE l 0 4 = 0 := by rw [getE, if_pos hr, hp, if_neg (by omega)]
  exact ⟨he, by rw [getN, if_pos he, hp]⟩

end Go.Proofs.YtbeobbanppkmhaaGreatDoor

/-
  Layer 8's reference: ReadDetail, ReadSlot.
-/
namespace Go.Proofs.YtbeobbanppkmhaaGreatDoor
open Go.RowKit
set_option linter.unusedVariables false
set_option linter.unusedSimpArgs false

/-- a world of ReadSlot: the result's variable, all below as it was -/
structure SltSt (w W : World) : Prop where
  bel : Below w.heap.size w W
  res : SltAt W w.heap.size 0 0 0
theorem SltSt.later {w W W' : World} (h : SltSt w W) (hb : Below W.heap.size W W') : SltSt w W' := ⟨h.bel.trans (hb.mono h.bel.size), (hb.block _ (block_lt h.res)).trans h.res⟩

end Go.Proofs.YtbeobbanppkmhaaGreatDoor
