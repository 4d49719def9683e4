/-
  The small helpers of layer 1 and of its reference: widths, room, fits.
-/
import Derived.Test.YtlobmefcpjjbcaaRows
import Derived.Test.YtlobmefcpjjbcaaMem
import Derived.WalkKit
import Derived.WalkSpells
import Derived.Lib.Hide
import Derived.WalkLawsBesides
namespace Go.Proofs.Ytlobmefcpjjbcaa
open Go.RowKit
set_option linter.unusedVariables false
set_option linter.unusedSimpArgs false

def isW (x : Int) : Bool := x == 1 || x == 2 || x == 4 || x == 8

theorem isW_cases {x : Int} (h : isW x = true) : x = 1 ∨ x = 2 ∨ x = 4 ∨ x = 8 := by
  simp only [isW, Bool.or_eq_true, beq_iff_eq] at h
  omega

/-- the error of a place: ErrArg, ErrEnd, OK -/
def roomE (n : Nat) (i wd : Int) : Int := if isW wd = false then 1 else if i < 0 ∨ (n : Int) - wd < i then 3 else 0

/-- does a number fit in a width -/
def fitsB (n wd : Int) : Bool := decide (0 ≤ n) && (wd == 8 || decide (n < 256 ^ wd.toNat))

end Go.Proofs.Ytlobmefcpjjbcaa
