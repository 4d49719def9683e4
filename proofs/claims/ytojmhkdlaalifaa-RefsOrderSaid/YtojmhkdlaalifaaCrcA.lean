/-
  Layer 2's step, and the reference's eight steps.
-/
import Derived.Test.YtojmhkdlaalifaaRows
import Derived.Test.YtojmhkdlaalifaaCrcMath
import Derived.Test.YtojmhkdlaalifaaMemB
import Derived.Laws.BitsAllLaws
import Derived.LoopTactic
import Derived.WalkSpells
import Derived.WalkLawsBesides
namespace Go.Proofs.Ytojmhkdlaalifaa
open Go.RowKit
set_option linter.unusedVariables false
set_option linter.unusedSimpArgs false


theorem and_one_u32 (n : Nat) (h : n < 4294967296) : bits .and .u32 (n : Int) 1 = ((n % 2 : Nat) : Int) := by
  have := u32_and_nat n 1 h (by omega)
  rw [Nat.and_one_is_mod] at this
  exact this

theorem step_odd (n : Nat) (h : n < 4294967296) (ho : n % 2 = 1) : bits .xor .u32 ((n : Int) / 2) 2197175160 = (Crc.step n : Int) := by
  have := u32_xor_nat (n / 2) 2197175160 (by omega) (by omega)
  rw [show ((n / 2 : Nat) : Int) = (n : Int) / 2 by omega] at this
  rw [show Crc.step n = n / 2 ^^^ 2197175160 by simp [Crc.step, Crc.poly, ho]]
  exact this

theorem step_even (n : Nat) (ho : n % 2 = 0) : (n : Int) / 2 = (Crc.step n : Int) := by
  simp [Crc.step, ho]

theorem i64_xor_nat (a b : Nat) (ha : a < 9223372036854775808) (hb : b < 9223372036854775808) : bits .xor .i64 (a : Int) (b : Int) = ((a ^^^ b : Nat) : Int) := by
  have hx : a ^^^ b < 2 ^ 63 := Nat.xor_lt_two_pow (by omega) (by omega)
  show IntKind.i64.wrap ((BitVec.ofInt 64 (a : Int) ^^^ BitVec.ofInt 64 (b : Int)).toNat : Int) = _
  rw [BitVec.toNat_xor, ofInt_u64 a (by omega), ofInt_u64 b (by omega), IntKind.wrap_i64]
  omega

theorem i64_and255 (n : Int) : bits .and .i64 n 255 = n % 256 := by
  have h255 : (BitVec.ofInt 64 255).toNat = 2 ^ 8 - 1 := by decide
  have key : (BitVec.ofInt 64 n &&& BitVec.ofInt 64 255).toNat = (n % ((2 ^ 64 : Nat) : Int)).toNat % 2 ^ 8 := by
    rw [BitVec.toNat_and, BitVec.toNat_ofInt, h255, Nat.and_two_pow_sub_one_eq_mod]
  show IntKind.i64.wrap ((BitVec.ofInt 64 n &&& BitVec.ofInt 64 255).toNat : Nat) = n % 256
  rw [key, IntKind.wrap_i64]
  omega

theorem step_odd64 (n : Nat) (h : n < 4294967296) (ho : n % 2 = 1) : bits .xor .i64 ((n : Int) / 2) 2197175160 = (Crc.step n : Int) := by
  have := i64_xor_nat (n / 2) 2197175160 (by omega) (by omega)
  rw [show ((n / 2 : Nat) : Int) = (n : Int) / 2 by omega] at this
  rw [show Crc.step n = n / 2 ^^^ 2197175160 by simp [Crc.step, Crc.poly, ho]]
  exact this

end Go.Proofs.Ytojmhkdlaalifaa
