/-
  Layer 1's split: the encoding of an integer.
-/
import Derived.Test.YtlobmefcpjjbcaaCodeD
import Derived.Test.YtlobmefcpjjbcaaInfo
import Derived.OwnWalk
namespace Go.Proofs.Ytlobmefcpjjbcaa
open Go.RowKit
set_option linter.unusedVariables false
set_option linter.unusedSimpArgs false


/-- the encoding of n in k bytes -/
def encN : Nat → Nat → List UInt8
  | 0, _ => []
  | k + 1, n => UInt8.ofNat n :: encN k (n / 256)

theorem encN_length (k n : Nat) : (encN k n).length = k := by
  induction k generalizing n with
  | zero => rfl
  | succ k ih => simp [encN, ih]

theorem enc_cell (n : Nat) : Value.int .u8 ((UInt8.ofNat n).toNat : Int) = .int .u8 ((n : Int) % 256) := by
  simp

/-! ### the reference's Bytes -/
theorem encN_snoc (k n : Nat) : encN (k + 1) n = encN k n ++ [UInt8.ofNat (n / 256 ^ k)] := by
  induction k generalizing n with
  | zero => simp [encN]
  | succ k ih =>
    rw [show encN (k + 1 + 1) n = UInt8.ofNat n :: encN (k + 1) (n / 256) from rfl, ih, show encN (k + 1) n = UInt8.ofNat n :: encN k (n / 256) from rfl]
    simp [Nat.div_div_eq_div_mul, Nat.pow_succ, Nat.mul_comm]

end Go.Proofs.Ytlobmefcpjjbcaa
