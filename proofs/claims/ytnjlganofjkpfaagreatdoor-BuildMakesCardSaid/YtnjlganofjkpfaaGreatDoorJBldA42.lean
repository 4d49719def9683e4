/-
  Joined: BlkB, BlkC.
-/
import Derived.Test.YtnjlganofjkpfaaGreatDoorJBldA36
import Derived.Test.YtnjlganofjkpfaaGreatDoorJBldA31
import Derived.Test.YtnjlganofjkpfaaGreatDoorJBldA39
import Derived.Test.YtnjlganofjkpfaaGreatDoorJBldA40
import Derived.Test.YtnjlganofjkpfaaGreatDoorJBldA18
import Derived.Test.YtnjlganofjkpfaaGreatDoorJBldA23
import Derived.Test.YtnjlganofjkpfaaGreatDoorJBldA13
/-
  Results that are structs in variables: a superblock or a node beside an error; a slice beside an error.
-/
namespace Go.Proofs.YtnjlganofjkpfaaGreatDoor
open Go.RowKit
set_option linter.unusedVariables false
set_option linter.unusedSimpArgs false

theorem blk_resT {P : Program} {fn : Func} {p q : Tmp} {t2 : TypeId} (h : fn.results = #[.tmp p, .cell q t2]) (tmps : Array Value) (w : World) {b : Addr} {u : Value}
    (hq : tmps.getD q undef = .pointer (some b)) (h2 : (loadVar t2 b).run P w = .ok u w) : (results fn tmps).run P w = .ok (.tuple #[tmps.getD p undef, u]) w := by
  have hq' : tmps[q]?.getD undef = .pointer (some b) := by simpa using hq
  simp [results, h, hq', asAddr, h2, Result.andThen, Sem.run_bind]

theorem NodAt.load {w : World} {p : Nat} {tree : Int} {leaf : Bool} {s1 s2 : Value} (h : NodAt w p tree leaf s1 s2) : (loadVar 76 ⟨p, 0, none⟩).run Tryz.prog w = .ok (.agg #[.int .i64 tree, .bool leaf, s1, s2]) w := run_loadVar_row w p _ _ _ _ _ h Tryz.underlying76 rfl (by kernel_rfl)

theorem two_other {w : World} {p q : Nat} {o : Obj} (h : w.heap[q]? = some o) (hne : q ≠ p) (c d : Value) : ((w.setCell ⟨p, 0, none⟩ c).setCell ⟨p, 1, none⟩ d).heap[q]? = some o := by
  rw [heap_setCell_other _ _ q _ hne, heap_setCell_other _ _ q _ hne]
  exact h
def NodC4 (w : World) (p : Nat) (tree : Int) (leaf : Bool) (s1 s2 : Value) : Prop :=
  (w.cell? ⟨p, 0, none⟩ = some (.int .i64 tree) ∧ w.cell? ⟨p, 1, none⟩ = some (.bool leaf) ∧ w.cell? ⟨p, 2, none⟩ = some s1 ∧ w.cell? ⟨p, 3, none⟩ = some s2) ∧ w.frozen? ⟨p, 0, none⟩ = false ∧ w.frozen? ⟨p, 1, none⟩ = false ∧ w.frozen? ⟨p, 2, none⟩ = false ∧ w.frozen? ⟨p, 3, none⟩ = false
theorem NodAt.cs {w : World} {p : Nat} {tree : Int} {leaf : Bool} {s1 s2 : Value} (h : NodAt w p tree leaf s1 s2) : NodC4 w p tree leaf s1 s2 :=
  ⟨⟨h.c0, h.c1, h.c2, h.c3⟩, Lib.frozen_of_heap h 0, Lib.frozen_of_heap h 1, Lib.frozen_of_heap h 2, Lib.frozen_of_heap h 3⟩
end Go.Proofs.YtnjlganofjkpfaaGreatDoor

/-
  block.read for counts and for slots; block.Bits and block.Index.
-/
namespace Go.Proofs.YtnjlganofjkpfaaGreatDoor
open Go.RowKit
set_option linter.unusedVariables false
set_option linter.unusedSimpArgs false

end Go.Proofs.YtnjlganofjkpfaaGreatDoor
