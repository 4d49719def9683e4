/-
  Layer 1's join: what a width of bytes encodes.
-/
import Derived.Test.YtlobmefcpjjbcaaCodeA
import Derived.Test.YtlobmefcpjjbcaaMem
import Derived.Deep.QuietTactic
import Derived.BigQuiet
import Derived.RegionTactic
namespace Go.Proofs.Ytlobmefcpjjbcaa
open Go.RowKit
set_option linter.unusedVariables false
set_option linter.unusedSimpArgs false

/-- what bytes encode, least significant first -/
def leN : List UInt8 → Nat
  | [] => 0
  | b :: r => b.toNat + 256 * leN r

theorem or_zero_u64 (x : Int) (h0 : 0 ≤ x) (h1 : x < 18446744073709551616) : bits .or .u64 0 x = x := by
  rw [u64_or 0 x (by omega) (by omega) h0 h1]; simp; omega

theorem or_add_u64 (i : Nat) (x y m : Int) (hm : ((2 ^ i : Nat) : Int) = m) (hx0 : 0 ≤ x) (hx : x < m) (hy0 : 0 ≤ y) (hy : x + y * m < 18446744073709551616) : bits .or .u64 x (y * m) = x + y * m := by
  obtain ⟨a, rfl⟩ := Int.eq_ofNat_of_zero_le hx0
  obtain ⟨b, rfl⟩ := Int.eq_ofNat_of_zero_le hy0
  subst hm
  have hp := Nat.two_pow_add_eq_or_of_lt (i := i) (b := a)
  have e : ((b : Int) * ((2 ^ i : Nat) : Int)) = ((2 ^ i * b : Nat) : Int) := by rw [Nat.mul_comm]; exact (Int.natCast_mul _ _).symm
  rw [e] at hy ⊢
  generalize 2 ^ i = q at *
  have hx' : a < q := by omega
  rw [u64_or_nat a (q * b) (by omega) (by omega), Nat.or_comm, ← hp hx' b]
  omega

theorem wrap_u64_in (x : Int) (h0 : 0 ≤ x) (h1 : x < 18446744073709551616) : IntKind.u64.wrap x = x := by
  rw [IntKind.wrap_u64]; omega

theorem le1_eq (b0 : Nat) (h0 : b0 < 256) : bits .or .u64 0 (b0 : Int) = (b0 : Int) := or_zero_u64 _ (by omega) (by omega)

theorem le2_eq (b0 b1 : Nat) (h0 : b0 < 256) (h1 : b1 < 256) : bits .or .u64 (bits .or .u64 0 (b0 : Int)) ((b1 : Int) * 256) = b0 + 256 * b1 := by
  rw [or_zero_u64 _ (by omega) (by omega), or_add_u64 8 _ _ 256 rfl (by omega) (by omega) (by omega) (by omega)]
  omega

theorem le4_eq (b0 b1 b2 b3 : Nat) (h0 : b0 < 256) (h1 : b1 < 256) (h2 : b2 < 256) (h3 : b3 < 256) :
    bits .or .u64 (bits .or .u64 (bits .or .u64 0 (IntKind.u64.wrap (bits .or .u64 (b0 : Int) ((b1 : Int) * 256)))) ((b2 : Int) * 65536)) ((b3 : Int) * 16777216) = b0 + 256 * (b1 + 256 * (b2 + 256 * b3)) := by
  rw [or_add_u64 8 (b0 : Int) _ 256 rfl (by omega) (by omega) (by omega) (by omega), wrap_u64_in _ (by omega) (by omega), or_zero_u64 _ (by omega) (by omega),
    or_add_u64 16 _ _ 65536 rfl (by omega) (by omega) (by omega) (by omega), or_add_u64 24 _ _ 16777216 rfl (by omega) (by omega) (by omega) (by omega)]
  omega

theorem le8_eq (b0 b1 b2 b3 b4 b5 b6 b7 : Nat) (h0 : b0 < 256) (h1 : b1 < 256) (h2 : b2 < 256) (h3 : b3 < 256) (h4 : b4 < 256) (h5 : b5 < 256) (h6 : b6 < 256) (h7 : b7 < 256) :
    bits .or .u64 (bits .or .u64 (bits .or .u64 (bits .or .u64 (bits .or .u64 (bits .or .u64 (b0 : Int) ((b1 : Int) * 256)) ((b2 : Int) * 65536)) ((b3 : Int) * 16777216)) (IntKind.u64.wrap (bits .or .u64 (b4 : Int) ((b5 : Int) * 256) * 4294967296))) ((b6 : Int) * 281474976710656)) ((b7 : Int) * 72057594037927936)
      = b0 + 256 * (b1 + 256 * (b2 + 256 * (b3 + 256 * (b4 + 256 * (b5 + 256 * (b6 + 256 * b7)))))) := by
  rw [or_add_u64 8 (b0 : Int) _ 256 rfl (by omega) (by omega) (by omega) (by omega), or_add_u64 16 _ (b2 : Int) 65536 rfl (by omega) (by omega) (by omega) (by omega), or_add_u64 24 _ (b3 : Int) 16777216 rfl (by omega) (by omega) (by omega) (by omega),
    or_add_u64 8 (b4 : Int) _ 256 rfl (by omega) (by omega) (by omega) (by omega), wrap_u64_in _ (by omega) (by omega), or_add_u64 32 _ _ 4294967296 rfl (by omega) (by omega) (by omega) (by omega),
    or_add_u64 48 _ _ 281474976710656 rfl (by omega) (by omega) (by omega) (by omega), or_add_u64 56 _ _ 72057594037927936 rfl (by omega) (by omega) (by omega) (by omega)]
  omega

end Go.Proofs.Ytlobmefcpjjbcaa
