/-
  Layer 1's Get.
-/
import Derived.Test.YtlobmefcpjjbcaaCodeB
namespace Go.Proofs.Ytlobmefcpjjbcaa
open Go.RowKit
set_option linter.unusedVariables false
set_option linter.unusedSimpArgs false

def part (l : List UInt8) (i wd : Int) : List UInt8 := (l.drop i.toNat).take wd.toNat
def getE (l : List UInt8) (i wd : Int) : Int := if roomE l.length i wd = 0 then (if 9223372036854775808 ≤ leN (part l i wd) then 2 else 0) else roomE l.length i wd
def getN (l : List UInt8) (i wd : Int) : Int := if getE l i wd = 0 then (leN (part l i wd) : Int) else 0

theorem roomE_cases (n : Nat) (i wd : Int) : roomE n i wd = 1 ∨ roomE n i wd = 3 ∨ (roomE n i wd = 0 ∧ isW wd = true ∧ 0 ≤ i ∧ i + wd ≤ n) := by
  unfold roomE
  cases h : isW wd
  · simp
  · by_cases h2 : i < 0 ∨ (n : Int) - wd < i
    · simp [h2]
    · simp [h2]; omega

theorem leN_lt (l : List UInt8) : leN l < 256 ^ l.length := by
  induction l with
  | nil => simp [leN]
  | cons b r ih =>
    have := UInt8.toNat_lt b
    simp only [leN, List.length_cons, Nat.pow_succ]
    omega

theorem part_len {l : List UInt8} {i wd : Int} (h0 : 0 ≤ i) (h1 : 0 ≤ wd) (h : i + wd ≤ l.length) : (part l i wd).length = wd.toNat := by
  simp only [part, List.length_take, List.length_drop]; omega

theorem wrap64_neg (x : Nat) (h : 9223372036854775808 ≤ x) (h2 : x < 18446744073709551616) : wrap64 (x : Int) < 0 := by
  unfold wrap64; omega

end Go.Proofs.Ytlobmefcpjjbcaa
