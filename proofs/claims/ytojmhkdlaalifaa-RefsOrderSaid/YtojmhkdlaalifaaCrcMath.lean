/-
  CRC-32C on natural numbers: the step, its linearity, bytes, bursts. Nothing here names the program.
-/
import Derived.WalkKit
namespace Go.Proofs.Ytojmhkdlaalifaa.Crc
set_option linter.unusedVariables false
set_option linter.unusedSimpArgs false

def poly : Nat := 2197175160

/-- one step of the register -/
def step (n : Nat) : Nat := if n % 2 = 1 then (n / 2) ^^^ poly else n / 2

/-- k steps -/
def it : Nat → Nat → Nat
  | 0, n => n
  | k + 1, n => it k (step n)

theorem it_add (a b n : Nat) : it (a + b) n = it b (it a n) := by
  induction a generalizing n with
  | zero => simp [it]
  | succ a ih => rw [Nat.succ_add]; exact ih _

theorem it_succ (k n : Nat) : it (k + 1) n = step (it k n) := it_add k 1 n

theorem xor4 (a b c d : Nat) : (a ^^^ b) ^^^ (c ^^^ d) = (a ^^^ c) ^^^ (b ^^^ d) := by
  rw [Nat.xor_assoc, ← Nat.xor_assoc b, Nat.xor_comm b c, Nat.xor_assoc c, ← Nat.xor_assoc a]

theorem step_xor (a b : Nat) : step (a ^^^ b) = step a ^^^ step b := by
  have hd : (a ^^^ b) / 2 = a / 2 ^^^ b / 2 := Nat.xor_div_two
  have hm : (a ^^^ b) % 2 = 1 ↔ ¬(a % 2 = 1 ↔ b % 2 = 1) := Nat.xor_mod_two_eq_one
  unfold step
  rw [hd]
  by_cases ha : a % 2 = 1 <;> by_cases hb : b % 2 = 1
  · rw [if_neg (by rw [hm]; simp [ha, hb]), if_pos ha, if_pos hb, xor4, Nat.xor_self, Nat.xor_zero]
  · rw [if_pos (by rw [hm]; simp [ha, hb]), if_pos ha, if_neg hb, Nat.xor_assoc, Nat.xor_assoc, Nat.xor_comm poly]
  · rw [if_pos (by rw [hm]; simp [ha, hb]), if_neg ha, if_pos hb, Nat.xor_assoc]
  · rw [if_neg (by rw [hm]; simp [ha, hb]), if_neg ha, if_neg hb]

theorem it_xor (k a b : Nat) : it k (a ^^^ b) = it k a ^^^ it k b := by
  induction k generalizing a b with
  | zero => rfl
  | succ k ih => simp only [it]; rw [step_xor, ih]

theorem step_zero : step 0 = 0 := by decide
theorem it_zero (k : Nat) : it k 0 = 0 := by
  induction k with
  | zero => rfl
  | succ k ih => simp only [it]; rw [step_zero, ih]

theorem step_lt {n : Nat} (h : n < 4294967296) : step n < 4294967296 := by
  unfold step
  split
  · exact Nat.xor_lt_two_pow (n := 32) (by omega) (by decide)
  · omega

theorem it_lt (k : Nat) {n : Nat} (h : n < 4294967296) : it k n < 4294967296 := by
  induction k generalizing n with
  | zero => exact h
  | succ k ih => exact ih (step_lt h)

theorem xor_lt {a b : Nat} (ha : a < 4294967296) (hb : b < 4294967296) : a ^^^ b < 4294967296 := Nat.xor_lt_two_pow (n := 32) ha hb

theorem xor_eq_zero {a b : Nat} (h : a ^^^ b = 0) : a = b := by
  have : (a ^^^ b) ^^^ b = 0 ^^^ b := by rw [h]
  rw [Nat.xor_assoc, Nat.xor_self, Nat.xor_zero, Nat.zero_xor] at this
  exact this

theorem step_inj {n : Nat} (h : n < 4294967296) (hs : step n = 0) : n = 0 := by
  unfold step at hs
  split at hs
  · have := xor_eq_zero hs
    simp only [poly] at this
    omega
  · omega

theorem it_inj (k : Nat) {n : Nat} (h : n < 4294967296) (hs : it k n = 0) : n = 0 := by
  induction k generalizing n with
  | zero => exact hs
  | succ k ih => exact step_inj h (ih (step_lt h) hs)

theorem step_double (x : Nat) : step (2 * x) = x := by
  unfold step
  rw [if_neg (by omega)]
  omega

theorem it_pow (k x : Nat) : it k (2 ^ k * x) = x := by
  induction k generalizing x with
  | zero => simp [it]
  | succ k ih =>
    simp only [it]
    rw [show 2 ^ (k + 1) * x = 2 * (2 ^ k * x) by rw [Nat.pow_succ]; rw [Nat.mul_comm (2 ^ k) 2, Nat.mul_assoc], step_double, ih]

/-- a register's lowest byte apart from the rest -/
theorem split8 (r : Nat) : r = (r % 256) ^^^ (256 * (r / 256)) := by
  have hd : ((r % 256) ^^^ (256 * (r / 256))) / 256 = r / 256 := by
    rw [show (256 : Nat) = 2 ^ 8 by rfl, Nat.xor_div_two_pow]
    have h1 : r % 2 ^ 8 / 2 ^ 8 = 0 := by omega
    have h2 : 2 ^ 8 * (r / 2 ^ 8) / 2 ^ 8 = r / 2 ^ 8 := by omega
    rw [h1, h2, Nat.zero_xor]
  have hm : ((r % 256) ^^^ (256 * (r / 256))) % 256 = r % 256 := by
    rw [show (256 : Nat) = 2 ^ 8 by rfl, Nat.xor_mod_two_pow]
    have h1 : r % 2 ^ 8 % 2 ^ 8 = r % 2 ^ 8 := by omega
    have h2 : 2 ^ 8 * (r / 2 ^ 8) % 2 ^ 8 = 0 := by omega
    rw [h1, h2, Nat.xor_zero]
  generalize (r % 256) ^^^ (256 * (r / 256)) = z at *
  omega

/-- the register after a byte -/
def upd (r c : Nat) : Nat := it 8 (r ^^^ c)

/-- the register after bytes -/
def feed (r : Nat) : List UInt8 → Nat
  | [] => r
  | b :: l => feed (upd r b.toNat) l

theorem feed_append (r : Nat) (a b : List UInt8) : feed r (a ++ b) = feed (feed r a) b := by
  induction a generalizing r with
  | nil => rfl
  | cons x a ih => exact ih _

theorem feed_take_succ (r : Nat) (l : List UInt8) (k : Nat) (h : k < l.length) : feed r (l.take (k + 1)) = upd (feed r (l.take k)) l[k].toNat := by
  rw [List.take_succ_eq_append_getElem h, feed_append]
  rfl

theorem upd_lt {r : Nat} (hr : r < 4294967296) (b : UInt8) : upd r b.toNat < 4294967296 := it_lt 8 (xor_lt hr (by have := UInt8.toNat_lt b; omega))

theorem feed_lt {r : Nat} (hr : r < 4294967296) (l : List UInt8) : feed r l < 4294967296 := by
  induction l generalizing r with
  | nil => exact hr
  | cons b l ih => exact ih (upd_lt hr b)

def ones : Nat := 4294967295

/-- the checksum of a checksum with bytes behind -/
def more (s : Nat) (l : List UInt8) : Nat := feed (s ^^^ ones) l ^^^ ones
def sum (l : List UInt8) : Nat := feed ones l ^^^ ones

theorem xor_xor (a b : Nat) : (a ^^^ b) ^^^ b = a := by rw [Nat.xor_assoc, Nat.xor_self, Nat.xor_zero]

theorem more_sum (a b : List UInt8) : more (sum a) b = sum (a ++ b) := by
  unfold more sum
  rw [xor_xor, feed_append]

theorem ones_lt : ones < 4294967296 := by unfold ones; omega

theorem more_lt {s : Nat} (hs : s < 4294967296) (l : List UInt8) : more s l < 4294967296 := xor_lt (feed_lt (xor_lt hs ones_lt) l) ones_lt
theorem sum_lt (l : List UInt8) : sum l < 4294967296 := xor_lt (feed_lt ones_lt l) ones_lt
theorem sum_nil : sum [] = 0 := Nat.xor_self _

theorem upd_xor (r d c : Nat) : upd (r ^^^ d) c = upd r c ^^^ it 8 d := by
  unfold upd
  rw [← it_xor]
  congr 1
  rw [Nat.xor_assoc, Nat.xor_comm d, Nat.xor_assoc]

theorem feed_xor (r d : Nat) (l : List UInt8) : feed (r ^^^ d) l = feed r l ^^^ it (8 * l.length) d := by
  induction l generalizing r d with
  | nil => rfl
  | cons b l ih =>
    have e : it (8 * (l.length + 1)) d = it (8 * l.length) (it 8 d) := by
      rw [← it_add 8 (8 * l.length) d]
      congr 1
      omega
    show feed (upd (r ^^^ d) b.toNat) l = feed (upd r b.toNat) l ^^^ it (8 * (l.length + 1)) d
    rw [upd_xor, ih, e]

theorem feed_cons (r : Nat) (b : UInt8) (l : List UInt8) : feed r (b :: l) = feed (upd r b.toNat) l := rfl

theorem upd_xor2 (r c d : Nat) : upd r (c ^^^ d) = upd r c ^^^ it 8 d := by
  unfold upd
  rw [← it_xor, Nat.xor_assoc]

theorem it_eight_pow (m : Nat) (hm : m < 8) : it 8 (2 ^ m) = it (8 - m) 1 := by
  have h := it_pow m 1
  rw [Nat.mul_one] at h
  have h2 := it_add m (8 - m) (2 ^ m)
  rw [h, show m + (8 - m) = 8 by omega] at h2
  exact h2

/-- one bit of one byte turned -/
theorem feed_set (r : Nat) (l : List UInt8) (j m : Nat) (hj : j < l.length) (hm : m < 8) (b : UInt8) (hb : b.toNat = l[j].toNat ^^^ 2 ^ m) :
    feed r (l.set j b) = feed r l ^^^ it (8 * l.length - (8 * j + m)) 1 := by
  have e1 : l.set j b = l.take j ++ b :: l.drop (j + 1) := List.set_eq_take_append_cons_drop .. |>.trans (by rw [if_pos hj])
  have e2 : l = l.take j ++ l[j] :: l.drop (j + 1) := by rw [← List.drop_eq_getElem_cons hj, List.take_append_drop]
  have e3 : feed r l = feed (upd (feed r (l.take j)) l[j].toNat) (l.drop (j + 1)) := by
    conv => lhs; rw [e2]
    rw [feed_append, feed_cons]
  have e6 : it (8 * (l.drop (j + 1)).length) (it (8 - m) 1) = it (8 * l.length - (8 * j + m)) 1 := by
    rw [← it_add (8 - m) _ 1, List.length_drop, show 8 - m + 8 * (l.length - (j + 1)) = 8 * l.length - (8 * j + m) by omega]
  rw [e1, feed_append, feed_cons, e3, hb, upd_xor2, it_eight_pow m hm, feed_xor, e6]

/-- what bits of a word, from place at on, add to the register -/
theorem it_one (n k : Nat) (h : k ≤ n) : it (n - k) 1 = it n (2 ^ k) := by
  have h1 := it_pow k 1
  rw [Nat.mul_one] at h1
  have h2 := it_add k (n - k) (2 ^ k)
  rw [h1, show k + (n - k) = n by omega] at h2
  exact h2.symm

theorem mod_step (x k : Nat) : x % 2 ^ (k + 1) = (x % 2 ^ k) ^^^ (if x.testBit k then 2 ^ k else 0) := by
  apply Nat.eq_of_testBit_eq
  intro i
  rw [Nat.testBit_xor, Nat.testBit_mod_two_pow, Nat.testBit_mod_two_pow]
  by_cases hx : x.testBit k
  · rw [if_pos hx, Nat.testBit_two_pow]
    by_cases h1 : i = k
    · subst h1; simp [hx]
    · by_cases h2 : i < k
      · simp [h2, show i < k + 1 by omega, show ¬ k = i by omega]
      · simp [h2, show ¬ i < k + 1 by omega, show ¬ k = i by omega]
  · rw [if_neg hx]
    by_cases h1 : i = k
    · subst h1; simp [hx]
    · by_cases h2 : i < k
      · simp [h2, show i < k + 1 by omega]
      · simp [h2, show ¬ i < k + 1 by omega]

theorem pow_xor (j low : Nat) (h : low < 2 ^ j) : 2 ^ j ^^^ low = 2 ^ j + low := by
  have hm := mod_step (2 ^ j + low) j
  have hp : 2 ^ (j + 1) = 2 ^ j + 2 ^ j := by rw [Nat.pow_succ]; omega
  rw [Nat.mod_eq_of_lt (by omega), Nat.add_mod_left, Nat.mod_eq_of_lt h, if_pos (by rw [Nat.testBit_two_pow_add_eq, Nat.testBit_lt_two_pow h]; rfl)] at hm
  rw [hm, Nat.xor_comm]

/-- the bytes of l with the first k bits of x turned, from bit p on -/
def flips (l : List UInt8) (p x : Nat) : Nat → List UInt8
  | 0 => l
  | k + 1 => if x.testBit k then (flips l p x k).set ((p + k) / 8) (UInt8.ofNat (((flips l p x k).getD ((p + k) / 8) 0).toNat ^^^ 2 ^ ((p + k) % 8))) else flips l p x k

theorem flips_length (l : List UInt8) (p x k : Nat) : (flips l p x k).length = l.length := by
  induction k with
  | zero => rfl
  | succ k ih =>
    simp only [flips]
    split
    · rw [List.length_set, ih]
    · exact ih

theorem flips_yes (l : List UInt8) (p x k : Nat) (h : x.testBit k = true) : flips l p x (k + 1) = (flips l p x k).set ((p + k) / 8) (UInt8.ofNat (((flips l p x k).getD ((p + k) / 8) 0).toNat ^^^ 2 ^ ((p + k) % 8))) := by
  rw [flips, if_pos h]
theorem flips_no (l : List UInt8) (p x k : Nat) (h : x.testBit k = false) : flips l p x (k + 1) = flips l p x k := by
  rw [flips, if_neg (by rw [h]; exact Bool.false_ne_true)]

theorem byte_xor (b : UInt8) (m : Nat) (hm : m < 8) : b.toNat ^^^ 2 ^ m < 256 := by
  have h1 := UInt8.toNat_lt b
  have h2 : 2 ^ m < 2 ^ 8 := Nat.pow_lt_pow_right (by omega) hm
  exact Nat.xor_lt_two_pow (n := 8) (by omega) h2

theorem feed_flips (r : Nat) (l : List UInt8) (p x k : Nat) (h : p + k ≤ 8 * l.length) : feed r (flips l p x k) = feed r l ^^^ it (8 * l.length - p) (x % 2 ^ k) := by
  induction k with
  | zero =>
    have e : x % 2 ^ 0 = 0 := by rw [Nat.pow_zero]; exact Nat.mod_one x
    rw [e, it_zero, Nat.xor_zero]
    rfl
  | succ k ih =>
    have ih := ih (by omega)
    rw [mod_step x k, it_xor, ← Nat.xor_assoc, ← ih]
    cases hb : x.testBit k with
    | false =>
      rw [flips_no l p x k hb, if_neg Bool.false_ne_true, it_zero, Nat.xor_zero]
    | true =>
      have hj : (p + k) / 8 < (flips l p x k).length := by rw [flips_length]; omega
      have hget : (flips l p x k).getD ((p + k) / 8) 0 = (flips l p x k)[(p + k) / 8] := by simp [List.getD, hj]
      rw [flips_yes l p x k hb, if_pos rfl, hget, feed_set r _ _ ((p + k) % 8) hj (by omega) _ ?_]
      · congr 1
        rw [flips_length, show 8 * l.length - (8 * ((p + k) / 8) + (p + k) % 8) = (8 * l.length - p) - k by omega]
        exact it_one _ _ (by omega)
      · rw [UInt8.toNat_ofNat']
        exact Nat.mod_eq_of_lt (byte_xor _ _ (by omega))

theorem xor_right {a b c : Nat} (h : a ^^^ c = b ^^^ c) : a = b := by
  rw [← xor_xor a c, h, xor_xor]

/-- the checksum stays just where no bit is turned -/
theorem sum_flips (l : List UInt8) (p x k : Nat) (h : p + k ≤ 8 * l.length) (hx : x < 4294967296) : sum (flips l p x k) = sum l ↔ x % 2 ^ k = 0 := by
  have hx2 : x % 2 ^ k < 4294967296 := Nat.lt_of_le_of_lt (Nat.mod_le _ _) hx
  unfold sum
  rw [feed_flips ones l p x k h]
  constructor
  · intro he
    have h1 := xor_right he
    have h2 : feed ones l ^^^ (feed ones l ^^^ it (8 * l.length - p) (x % 2 ^ k)) = feed ones l ^^^ feed ones l := by rw [h1]
    rw [← Nat.xor_assoc, Nat.xor_self, Nat.zero_xor] at h2
    exact it_inj _ hx2 h2
  · intro he
    rw [he, it_zero, Nat.xor_zero]

theorem mod_yes (x k : Nat) (h : x.testBit k = true) : x % 2 ^ (k + 1) ≠ 0 := by
  intro e
  have := Nat.testBit_mod_two_pow x (k + 1) k
  rw [e, h] at this
  simp at this

theorem mod_no (x k : Nat) (h : x.testBit k = false) : x % 2 ^ (k + 1) = x % 2 ^ k := by
  rw [mod_step, h, if_neg Bool.false_ne_true, Nat.xor_zero]

end Go.Proofs.Ytojmhkdlaalifaa.Crc
