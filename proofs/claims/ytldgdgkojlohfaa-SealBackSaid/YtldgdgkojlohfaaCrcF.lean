/-
  Bits turned in a loop: the loop's own words.
-/
import Derived.Test.YtldgdgkojlohfaaCrcMath
import Derived.Test.YtldgdgkojlohfaaMem
import Derived.Test.YtldgdgkojlohfaaCrcA
namespace Go.Proofs.Ytldgdgkojlohfaa
open Go.RowKit
set_option linter.unusedVariables false
set_option linter.unusedSimpArgs false

/-- has a bit been turned? -/
def smB (x k : Nat) : Bool := decide (x % 2 ^ k ≠ 0)
theorem smB_zero (x : Nat) : smB x 0 = false := by simp [smB, Nat.mod_one]
theorem smB_yes (x k : Nat) (h : x.testBit k = true) : smB x (k + 1) = true := by simpa [smB] using Crc.mod_yes x k h
theorem smB_no (x k : Nat) (h : x.testBit k = false) : smB x (k + 1) = smB x k := by simp [smB, Crc.mod_no x k h]

theorem shr_bit (x k : Nat) (hx : x < 4294967296) : bits .and .u32 ((x : Int) / 2 ^ k) 1 = ((x / 2 ^ k % 2 : Nat) : Int) := by
  have h := and_one_u32 (x / 2 ^ k) (Nat.lt_of_le_of_lt (Nat.div_le_self _ _) hx)
  rw [← h]
  congr 1
theorem shr_yes (x k : Nat) (hx : x < 4294967296) (h : x.testBit k = true) : bits .and .u32 ((x : Int) / 2 ^ k) 1 = 1 := by
  rw [shr_bit x k hx]
  rw [Nat.testBit_eq_decide_div_mod_eq] at h
  rw [of_decide_eq_true h]
  rfl
theorem shr_no (x k : Nat) (hx : x < 4294967296) (h : x.testBit k = false) : bits .and .u32 ((x : Int) / 2 ^ k) 1 = 0 := by
  rw [shr_bit x k hx]
  rw [Nat.testBit_eq_decide_div_mod_eq] at h
  have := of_decide_eq_false h
  rw [show x / 2 ^ k % 2 = 0 by omega]
  rfl

theorem flips_cells (l : List UInt8) (p x k : Nat) (h : x.testBit k = true) (hj : (p + k) / 8 < (Crc.flips l p x k).length) :
    u8s (Crc.flips l p x (k + 1)) = (u8s (Crc.flips l p x k)).set ((p + k) / 8) (.int .u8 (bits .xor .u8 ((Crc.flips l p x k)[(p + k) / 8].toNat : Int) (2 ^ ((p + k) % 8) % 256))) := by
  have hm : (p + k) % 8 < 8 := Nat.mod_lt _ (by omega)
  have hb := Crc.byte_xor (Crc.flips l p x k)[(p + k) / 8] _ hm
  have hp : 2 ^ ((p + k) % 8) < 256 := Nat.pow_lt_pow_right (n := 8) (a := 2) (by omega) hm
  have hget : (Crc.flips l p x k).getD ((p + k) / 8) 0 = (Crc.flips l p x k)[(p + k) / 8] := by simp [List.getD, hj]
  rw [Crc.flips_yes l p x k h, hget]
  have e : bits .xor .u8 ((Crc.flips l p x k)[(p + k) / 8].toNat : Int) (2 ^ ((p + k) % 8) % 256) = (((Crc.flips l p x k)[(p + k) / 8].toNat ^^^ 2 ^ ((p + k) % 8) : Nat) : Int) := by
    rw [← u8_xor_nat _ _ (by have := UInt8.toNat_lt (Crc.flips l p x k)[(p + k) / 8]; omega) hp]
    congr 1
    have : (2 : Int) ^ ((p + k) % 8) = ((2 ^ ((p + k) % 8) : Nat) : Int) := by rw [Int.natCast_pow]; rfl
    rw [this]
    clear hb this
    generalize (2 ^ ((p + k) % 8) : Nat) = q at hp ⊢
    omega
  rw [e]
  generalize (Crc.flips l p x k)[(p + k) / 8].toNat ^^^ 2 ^ ((p + k) % 8) = z at *
  simp only [u8s, List.map_set]
  congr 2
  rw [UInt8.toNat_ofNat', Nat.mod_eq_of_lt hb]

theorem bd_u32 {n : Int} (h : (Lit.int .u32 n).wf = true) : 0 ≤ n ∧ n ≤ 4294967295 := by
  simpa [Lit.wf, IntKind.min, IntKind.max, IntKind.signed, IntKind.bits] using h

end Go.Proofs.Ytldgdgkojlohfaa
