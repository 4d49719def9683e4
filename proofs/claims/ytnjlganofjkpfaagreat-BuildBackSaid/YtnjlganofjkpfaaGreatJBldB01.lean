/-
  Joined: CrcMath.
-/
import Derived.WalkKit
/-
  CRC-32C on natural numbers: the step, its linearity, bytes, bursts. Nothing here names the program.
-/
namespace Go.Proofs.YtnjlganofjkpfaaGreat.Crc
set_option linter.unusedVariables false
set_option linter.unusedSimpArgs false

def poly : Nat := 2197175160

/-- one step of the register -/
def step (n : Nat) : Nat := if n % 2 = 1 then (n / 2) ^^^ poly else n / 2

/-- k steps -/
def it : Nat → Nat → Nat
  | 0, n => n
  | k + 1, n => it k (step n)

theorem it_add (a b n : Nat) : it (a + b) n = it b (it a n) := by
  induction a generalizing n with
  | zero => simp [it]
  | succ a ih => rw [Nat.succ_add]; exact ih _

theorem it_succ (k n : Nat) : it (k + 1) n = step (it k n) := it_add k 1 n

theorem xor4 (a b c d : Nat) : (a ^^^ b) ^^^ (c ^^^ d) = (a ^^^ c) ^^^ (b ^^^ d) := by
  rw [Nat.xor_assoc, ← Nat.xor_assoc b, Nat.xor_comm b c, Nat.xor_assoc c, ← Nat.xor_assoc a]

theorem step_xor (a b : Nat) : step (a ^^^ b) = step a ^^^ step b := by
  have hd : (a ^^^ b) / 2 = a / 2 ^^^ b / 2 := Nat.xor_div_two
  have hm : (a ^^^ b) % 2 = 1 ↔ ¬(a % 2 = 1 ↔ b % 2 = 1) := Nat.xor_mod_two_eq_one
  unfold step
  rw [hd]
  by_cases ha : a % 2 = 1 <;> by_cases hb : b % 2 = 1
  · rw [if_neg (by rw [hm]; simp [ha, hb]), if_pos ha, if_pos hb, xor4, Nat.xor_self, Nat.xor_zero]
  · rw [if_pos (by rw [hm]; simp [ha, hb]), if_pos ha, if_neg hb, Nat.xor_assoc, Nat.xor_assoc, Nat.xor_comm poly]
  · rw [if_pos (by rw [hm]; simp [ha, hb]), if_neg ha, if_pos hb, Nat.xor_assoc]
  · rw [if_neg (by rw [hm]; simp [ha, hb]), if_neg ha, if_neg hb]

theorem it_xor (k a b : Nat) : it k (a ^^^ b) = it k a ^^^ it k b := by
  induction k generalizing a b with
  | zero => rfl
  | succ k ih => simp only [it]; rw [step_xor, ih]

theorem step_zero : step 0 = 0 := by decide
theorem it_zero (k : Nat) : it k 0 = 0 := by
  induction k with
  | zero => rfl
  | succ k ih => simp only [it]; rw [step_zero, ih]

theorem step_lt {n : Nat} (h : n < 4294967296) : step n < 4294967296 := by
  unfold step
  split
  · exact Nat.xor_lt_two_pow (n := 32) (by omega) (by decide)
  · omega

theorem it_lt (k : Nat) {n : Nat} (h : n < 4294967296) : it k n < 4294967296 := by
  induction k generalizing n with
  | zero => exact h
  | succ k ih => exact ih (step_lt h)

theorem xor_lt {a b : Nat} (ha : a < 4294967296) (hb : b < 4294967296) : a ^^^ b < 4294967296 := Nat.xor_lt_two_pow (n := 32) ha hb

theorem step_double (x : Nat) : step (2 * x) = x := by
  unfold step
  rw [if_neg (by omega)]
  omega

theorem it_pow (k x : Nat) : it k (2 ^ k * x) = x := by
  induction k generalizing x with
  | zero => simp [it]
  | succ k ih =>
    simp only [it]
    rw [show 2 ^ (k + 1) * x = 2 * (2 ^ k * x) by rw [Nat.pow_succ]; rw [Nat.mul_comm (2 ^ k) 2, Nat.mul_assoc], step_double, ih]

/-- a register's lowest byte apart from the rest -/
theorem split8 (r : Nat) : r = (r % 256) ^^^ (256 * (r / 256)) := by
  have hd : ((r % 256) ^^^ (256 * (r / 256))) / 256 = r / 256 := by
    rw [show (256 : Nat) = 2 ^ 8 by rfl, Nat.xor_div_two_pow]
    have h1 : r % 2 ^ 8 / 2 ^ 8 = 0 := by omega
    have h2 : 2 ^ 8 * (r / 2 ^ 8) / 2 ^ 8 = r / 2 ^ 8 := by omega
    rw [h1, h2, Nat.zero_xor]
  have hm : ((r % 256) ^^^ (256 * (r / 256))) % 256 = r % 256 := by
    rw [show (256 : Nat) = 2 ^ 8 by rfl, Nat.xor_mod_two_pow]
    have h1 : r % 2 ^ 8 % 2 ^ 8 = r % 2 ^ 8 := by omega
    have h2 : 2 ^ 8 * (r / 2 ^ 8) % 2 ^ 8 = 0 := by omega
    rw [h1, h2, Nat.xor_zero]
  generalize (r % 256) ^^^ (256 * (r / 256)) = z at *
  omega

/-- the register after a byte -/
def upd (r c : Nat) : Nat := it 8 (r ^^^ c)

theorem upd_table (r c : Nat) : it 8 ((r % 256) ^^^ c) ^^^ r / 256 = upd r c := by
  have h := it_pow 8 (r / 256)
  rw [show (2 : Nat) ^ 8 = 256 by rfl] at h
  unfold upd
  conv => rhs; rw [split8 r]
  conv => lhs; rhs; rw [← h]
  rw [← it_xor]
  congr 1
  rw [Nat.xor_assoc, Nat.xor_assoc, Nat.xor_comm c]

/-- the register after bytes -/
def feed (r : Nat) : List UInt8 → Nat
  | [] => r
  | b :: l => feed (upd r b.toNat) l

theorem feed_append (r : Nat) (a b : List UInt8) : feed r (a ++ b) = feed (feed r a) b := by
  induction a generalizing r with
  | nil => rfl
  | cons x a ih => exact ih _

theorem feed_take_succ (r : Nat) (l : List UInt8) (k : Nat) (h : k < l.length) : feed r (l.take (k + 1)) = upd (feed r (l.take k)) l[k].toNat := by
  rw [List.take_succ_eq_append_getElem h, feed_append]
  rfl

theorem upd_lt {r : Nat} (hr : r < 4294967296) (b : UInt8) : upd r b.toNat < 4294967296 := it_lt 8 (xor_lt hr (by have := UInt8.toNat_lt b; omega))

theorem feed_lt {r : Nat} (hr : r < 4294967296) (l : List UInt8) : feed r l < 4294967296 := by
  induction l generalizing r with
  | nil => exact hr
  | cons b l ih => exact ih (upd_lt hr b)

def ones : Nat := 4294967295

def sum (l : List UInt8) : Nat := feed ones l ^^^ ones

theorem xor_xor (a b : Nat) : (a ^^^ b) ^^^ b = a := by rw [Nat.xor_assoc, Nat.xor_self, Nat.xor_zero]

theorem ones_lt : ones < 4294967296 := by unfold ones; omega

theorem sum_lt (l : List UInt8) : sum l < 4294967296 := xor_lt (feed_lt ones_lt l) ones_lt
theorem sum_nil : sum [] = 0 := Nat.xor_self _

theorem mod_step (x k : Nat) : x % 2 ^ (k + 1) = (x % 2 ^ k) ^^^ (if x.testBit k then 2 ^ k else 0) := by
  apply Nat.eq_of_testBit_eq
  intro i
  rw [Nat.testBit_xor, Nat.testBit_mod_two_pow, Nat.testBit_mod_two_pow]
  by_cases hx : x.testBit k
  · rw [if_pos hx, Nat.testBit_two_pow]
    by_cases h1 : i = k
    · subst h1; simp [hx]
    · by_cases h2 : i < k
      · simp [h2, show i < k + 1 by omega, show ¬ k = i by omega]
      · simp [h2, show ¬ i < k + 1 by omega, show ¬ k = i by omega]
  · rw [if_neg hx]
    by_cases h1 : i = k
    · subst h1; simp [hx]
    · by_cases h2 : i < k
      · simp [h2, show i < k + 1 by omega]
      · simp [h2, show ¬ i < k + 1 by omega]

theorem pow_xor (j low : Nat) (h : low < 2 ^ j) : 2 ^ j ^^^ low = 2 ^ j + low := by
  have hm := mod_step (2 ^ j + low) j
  have hp : 2 ^ (j + 1) = 2 ^ j + 2 ^ j := by rw [Nat.pow_succ]; omega
  rw [Nat.mod_eq_of_lt (by omega), Nat.add_mod_left, Nat.mod_eq_of_lt h, if_pos (by rw [Nat.testBit_two_pow_add_eq, Nat.testBit_lt_two_pow h]; rfl)] at hm
  rw [hm, Nat.xor_comm]

theorem xor_right {a b c : Nat} (h : a ^^^ c = b ^^^ c) : a = b := by
  rw [← xor_xor a c, h, xor_xor]

end Go.Proofs.YtnjlganofjkpfaaGreat.Crc
