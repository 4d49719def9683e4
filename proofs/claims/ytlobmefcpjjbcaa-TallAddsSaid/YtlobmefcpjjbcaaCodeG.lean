/-
  The reference's Put; both Zero.
-/
import Derived.Test.YtlobmefcpjjbcaaCodeF
import Derived.Test.YtlobmefcpjjbcaaMemB
namespace Go.Proofs.Ytlobmefcpjjbcaa
open Go.RowKit
set_option linter.unusedVariables false
set_option linter.unusedSimpArgs false

def zeroB (l : List UInt8) : Bool := l.all (· == 0)

theorem zeroB_take {l : List UInt8} {k : Nat} (h : zeroB (l.take k) = true) (hk : k < l.length) : zeroB (l.take (k + 1)) = (l[k] == 0) := by
  rw [List.take_succ_eq_append_getElem hk]
  simp only [zeroB, List.all_append] at *
  rw [h]
  simp

theorem zeroB_false {l : List UInt8} {k : Nat} (hk : k < l.length) (h : l[k] ≠ 0) : zeroB l = false := by
  simp only [zeroB, List.all_eq_false]
  exact ⟨l[k], List.getElem_mem _, by simpa using h⟩

end Go.Proofs.Ytlobmefcpjjbcaa
