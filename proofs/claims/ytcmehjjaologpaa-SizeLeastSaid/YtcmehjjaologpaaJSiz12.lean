/-
  Joined: RefW.
-/
import Derived.RangeFuncBox
import Derived.RangeFuncLeaves
import Derived.RangeFuncCalls
import Derived.Shelf.Abstract
import Derived.OwnWalkIn
import Derived.TacticsInMore
import Derived.LoopNIn
import Derived.LoopIn
import Derived.Test.YtcmehjjaologpaaChecked
import Derived.Test.YtcmehjjaologpaaJSiz01
/-
  Layer 12: the iterator over the counts that meet a condition.
-/
namespace Go.Proofs.Ytcmehjjaologpaa
open Go.RowKit Go.Shelf
set_option linter.unusedVariables false
set_option linter.unusedSimpArgs false
attribute [local go_sem] Oper.semAt_some

/-- what a round keeps: all below n₀, and block Bm -/
def KpR12 (n₀ Bm : Nat) (W W' : World) : Prop := Below n₀ W W' ∧ W'.heap[Bm]? = W.heap[Bm]?
theorem KpR12.refl (n₀ Bm : Nat) (W : World) : KpR12 n₀ Bm W W := ⟨Below.refl _ _, rfl⟩
theorem KpR12.trans {n₀ Bm : Nat} {A B C : World} (h : KpR12 n₀ Bm A B) (k : KpR12 n₀ Bm B C) : KpR12 n₀ Bm A C := ⟨h.1.trans k.1, k.2.trans h.2⟩
theorem KpR12.put {n₀ Bm : Nat} {w : World} (hn : n₀ ≤ w.heap.size) (hB : Bm < w.heap.size) (W : World) (l : Nat) (o o' : Obj) (hl : w.heap.size ≤ l) (h : W.heap[l]? = some o) (h1 : o.isCells = false) (h2 : o.isWalk = false) : KpR12 n₀ Bm W (W.putObj l o') :=
  ⟨belowK_b hn W l o o' hl h h1 h2, World.putObj_heap_other (by omega)⟩

end Go.Proofs.Ytcmehjjaologpaa
