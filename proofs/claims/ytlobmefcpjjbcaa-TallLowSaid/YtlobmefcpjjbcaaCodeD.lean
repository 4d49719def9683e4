/-
  The reference's Get.
-/
import Derived.Test.YtlobmefcpjjbcaaCodeC
import Derived.LoopTactic
namespace Go.Proofs.Ytlobmefcpjjbcaa
open Go.RowKit
set_option linter.unusedVariables false
set_option linter.unusedSimpArgs false

theorem leN_drop_le (l : List UInt8) (j : Nat) : leN (l.drop j) ≤ leN l := by
  induction j generalizing l with
  | zero => simp
  | succ j ih =>
    cases l with
    | nil => simp [leN]
    | cons b r => have := ih r; simp only [List.drop_succ_cons, leN]; omega

theorem leN_drop_step (l : List UInt8) (j : Nat) (h : j < l.length) : leN (l.drop j) = l[j].toNat + 256 * leN (l.drop (j + 1)) := by
  rw [List.drop_eq_getElem_cons h]; rfl

end Go.Proofs.Ytlobmefcpjjbcaa
