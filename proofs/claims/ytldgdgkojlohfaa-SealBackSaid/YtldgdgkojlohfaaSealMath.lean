/-
  Layer 4's mathematics: sealed blocks as lists of bytes. Nothing here names the program.
-/
import Derived.Test.YtldgdgkojlohfaaCodeL
import Derived.Test.YtldgdgkojlohfaaCrcMath
namespace Go.Proofs.Ytldgdgkojlohfaa
open Go.RowKit
set_option linter.unusedVariables false
set_option linter.unusedSimpArgs false

def saltN (k : Int) : Nat := if k = 1 then 160774 else if k = 2 then 121107 else if k = 3 then 240779 else if k = 4 then 160478 else 0
def kindB (k : Int) : Bool := decide (1 ≤ k ∧ k ≤ 4)
def numB (no : Int) : Bool := decide (0 ≤ no ∧ no < 14400)
def knownB (k no : Int) : Bool := kindB k && numB no

theorem knownB_iff {k no : Int} : knownB k no = true ↔ (1 ≤ k ∧ k ≤ 4) ∧ 0 ≤ no ∧ no < 14400 := by simp [knownB, kindB, numB]
theorem saltN_lt (k : Int) : saltN k < 4294967296 := by unfold saltN; repeat' split
                                                        all_goals omega
theorem saltN_inj {a b : Int} (ha : 1 ≤ a ∧ a ≤ 4) (hb : 1 ≤ b ∧ b ≤ 4) (h : saltN a = saltN b) : a = b := by
  have h1 : a = 1 ∨ a = 2 ∨ a = 3 ∨ a = 4 := by omega
  have h2 : b = 1 ∨ b = 2 ∨ b = 3 ∨ b = 4 := by omega
  rcases h1 with rfl | rfl | rfl | rfl <;> rcases h2 with rfl | rfl | rfl | rfl <;> first | rfl | (revert h; decide)

/-- what the checksum of a block's first bytes must be -/
def sumN (l : List UInt8) (k : Int) : Nat := Crc.sum (l.take 252) ^^^ saltN k
theorem sumN_lt (l : List UInt8) (k : Int) : sumN l k < 4294967296 := Crc.xor_lt (Crc.sum_lt _) (saltN_lt k)

def storedN (l : List UInt8) (i wd : Int) : Int := if getE l i wd = 0 then getN l i wd else -1

/-- the error of the checks of a block -/
def openE (l : List UInt8) (k no : Int) : Int :=
  if knownB k no = false then 1 else if l.length ≠ 256 then 7 else if (leN (l.drop 252) : Int) ≠ sumN l k then 4 else if (leN (l.take 4) : Int) ≠ no then 5
  else if (leN ((l.drop 4).take 2) : Int) ≠ k then 6 else if leN ((l.drop 6).take 2) ≠ 0 then 7 else 0
def openB (l : List UInt8) (k no : Int) : List UInt8 := if openE l k no = 0 then (l.drop 8).take 244 else []

/-- all of a sealed block but its checksum -/
def bodyB (k no : Int) (l : List UInt8) : List UInt8 := encN 4 no.toNat ++ (encN 2 k.toNat ++ ([0, 0] ++ (l ++ List.replicate (244 - l.length) 0)))
def sealE (k no : Int) (n : Nat) : Int := if knownB k no = false then 1 else if 244 < n then 2 else 0
def sealB (k no : Int) (l : List UInt8) : List UInt8 := if sealE k no l.length = 0 then bodyB k no l ++ encN 4 (Crc.sum (bodyB k no l) ^^^ saltN k) else []

theorem leN_nil : leN [] = 0 := rfl
theorem leN_cons (b : UInt8) (l : List UInt8) : leN (b :: l) = b.toNat + 256 * leN l := rfl
theorem leN_append (a b : List UInt8) : leN (a ++ b) = leN a + 256 ^ a.length * leN b := by
  induction a with
  | nil => simp [leN]
  | cons x a ih =>
    simp only [List.cons_append, leN, ih, List.length_cons, Nat.pow_succ]
    have e := Nat.mul_assoc 256 (256 ^ a.length) (leN b)
    rw [Nat.mul_comm (256 ^ a.length) 256, Nat.mul_add, ← e]
    omega

theorem encN_leN (l : List UInt8) : encN l.length (leN l) = l := by
  induction l with
  | nil => rfl
  | cons b l ih =>
    have hb := UInt8.toNat_lt b
    simp only [List.length_cons, encN, leN]
    have e1 : (b.toNat + 256 * leN l) / 256 = leN l := by omega
    rw [e1, ih]
    congr 1
    apply UInt8.toNat_inj.1
    simp

theorem leN_inj {a b : List UInt8} (hl : a.length = b.length) (h : leN a = leN b) : a = b := by
  rw [← encN_leN a, ← encN_leN b, hl, h]

theorem byte_add_xor (b m : Nat) (hb : b < 256) : b ^^^ (256 * m) = b + 256 * m := by
  have h := Crc.split8 (b + 256 * m)
  rw [show (b + 256 * m) % 256 = b by omega, show (b + 256 * m) / 256 = m by omega] at h
  exact h.symm

theorem feed_leN (r : Nat) (l : List UInt8) : Crc.feed r l = Crc.it (8 * l.length) (r ^^^ leN l) := by
  induction l generalizing r with
  | nil =>
    rw [List.length_nil, Nat.mul_zero]
    simp only [leN, Nat.xor_zero]
    rfl
  | cons b l ih =>
    have hb := UInt8.toNat_lt b
    have e : ∀ x, Crc.it (8 * (l.length + 1)) x = Crc.it (8 * l.length) (Crc.it 8 x) := by
      intro x
      rw [← Crc.it_add 8 (8 * l.length) x]
      congr 1
      omega
    have h8 := Crc.it_pow 8 (leN l)
    rw [show (2 : Nat) ^ 8 = 256 by rfl] at h8
    have h9 : Crc.it 8 (r ^^^ leN (b :: l)) = Crc.upd r b.toNat ^^^ leN l := by
      rw [leN_cons, ← byte_add_xor _ _ hb, ← Nat.xor_assoc, Crc.it_xor, h8, Crc.upd]
    rw [Crc.feed_cons, ih, List.length_cons, e, h9]

/-- a block whose checksum is right leaves a register that the salt alone tells -/
theorem feed_right {l : List UInt8} {s : Nat} (hl : l.length = 256) (h : leN (l.drop 252) = Crc.sum (l.take 252) ^^^ s) : Crc.feed Crc.ones l = Crc.it 32 (Crc.ones ^^^ s) := by
  conv => lhs; rw [← List.take_append_drop 252 l]
  rw [Crc.feed_append, feed_leN, h, List.length_drop, hl]
  congr 1
  unfold Crc.sum
  generalize Crc.feed Crc.ones (l.take 252) = q
  rw [← Nat.xor_assoc, ← Nat.xor_assoc, Nat.xor_self, Nat.zero_xor]

/-- where bits within 32 in a row are turned, the checksum is wrong -/
theorem turned_wrong {l : List UInt8} {k : Int} {p x j : Nat} (hl : l.length = 256) (h : leN (l.drop 252) = sumN l k) (hp : p + j ≤ 8 * 256) (hx : x < 4294967296) :
    leN ((Crc.flips l p x j).drop 252) = sumN (Crc.flips l p x j) k ↔ x % 2 ^ j = 0 := by
  have hf : (Crc.flips l p x j).length = 256 := by rw [Crc.flips_length, hl]
  have e : Crc.sum (Crc.flips l p x j) = Crc.sum l ↔ x % 2 ^ j = 0 := Crc.sum_flips l p x j (by omega) hx
  constructor
  · intro h2
    apply e.1
    unfold Crc.sum
    rw [feed_right hl h, feed_right hf h2]
  · intro h0
    have e2 : Crc.flips l p x j = l := by
      have key : ∀ i, x % 2 ^ i = 0 → Crc.flips l p x i = l := by
        intro i
        induction i with
        | zero => intro _; rfl
        | succ i ih =>
          intro hi
          cases hb : x.testBit i with
          | true => exact absurd hi (Crc.mod_yes x i hb)
          | false => rw [Crc.flips_no l p x i hb]; exact ih (by rw [← Crc.mod_no x i hb]; exact hi)
      exact key j h0
    rw [e2]
    exact h

/-- another kind's checksum is another -/
theorem kind_wrong {l : List UInt8} {k k2 : Int} (h : leN (l.drop 252) = sumN l k) (h2 : leN (l.drop 252) = sumN l k2) (hk : 1 ≤ k ∧ k ≤ 4) (hk2 : 1 ≤ k2 ∧ k2 ≤ 4) : k = k2 := by
  apply saltN_inj hk hk2
  rw [h] at h2
  unfold sumN at h2
  rw [Nat.xor_comm _ (saltN k), Nat.xor_comm _ (saltN k2)] at h2
  exact Crc.xor_right h2

theorem bodyB_length {k no : Int} {l : List UInt8} (h : l.length ≤ 244) : (bodyB k no l).length = 252 := by
  simp [bodyB, encN_length]; omega
theorem sealB_eq {k no : Int} {l : List UInt8} (h : sealE k no l.length = 0) : sealB k no l = bodyB k no l ++ encN 4 (Crc.sum (bodyB k no l) ^^^ saltN k) := by rw [sealB, if_pos h]
theorem sealE_zero {k no : Int} {n : Nat} (h : sealE k no n = 0) : knownB k no = true ∧ n ≤ 244 := by
  unfold sealE at h
  cases hk : knownB k no
  · simp [hk] at h
  · refine ⟨rfl, ?_⟩
    by_cases hn : 244 < n
    · simp [hk, hn] at h
    · omega
theorem sealB_length {k no : Int} {l : List UInt8} (h : sealE k no l.length = 0) : (sealB k no l).length = 256 := by
  rw [sealB_eq h, List.length_append, bodyB_length (sealE_zero h).2, encN_length]

theorem take_app {α : Type} {a b : List α} {n : Nat} (h : a.length = n) : (a ++ b).take n = a := by rw [← h]; simp
theorem drop_app {α : Type} {a b : List α} {n : Nat} (h : a.length = n) : (a ++ b).drop n = b := by rw [← h]; simp
theorem drop_add {α : Type} (a : List α) (i j : Nat) : (a.drop i).drop j = a.drop (i + j) := by simp [List.drop_drop]

/-- what lies in a sealed block -/
theorem sealB_parts {k no : Int} {l : List UInt8} (h : sealE k no l.length = 0) :
    leN ((sealB k no l).drop 252) = sumN (sealB k no l) k ∧ (leN ((sealB k no l).take 4) : Int) = no ∧ (leN (((sealB k no l).drop 4).take 2) : Int) = k ∧ leN (((sealB k no l).drop 6).take 2) = 0 ∧
    ((sealB k no l).drop 8).take 244 = l ++ List.replicate (244 - l.length) 0 := by
  obtain ⟨hk, hn⟩ := sealE_zero h
  obtain ⟨⟨hk1, hk2⟩, hno1, hno2⟩ := knownB_iff.1 hk
  have hb := bodyB_length (k := k) (no := no) hn
  rw [sealB_eq h]
  have hp : l.length + (244 - l.length) = 244 := by omega
  have e4 : (encN 4 no.toNat).length = 4 := encN_length _ _
  have e2 : (encN 2 k.toNat).length = 2 := encN_length _ _
  generalize hX : encN 4 (Crc.sum (bodyB k no l) ^^^ saltN k) = X
  have eX : leN X = Crc.sum (bodyB k no l) ^^^ saltN k := by rw [← hX, leN_encN _ _ (by have := Crc.xor_lt (Crc.sum_lt (bodyB k no l)) (saltN_lt k); omega)]
  have d4 : (bodyB k no l ++ X).drop 4 = encN 2 k.toNat ++ ([0, 0] ++ (l ++ List.replicate (244 - l.length) 0)) ++ X := by
    unfold bodyB
    rw [List.append_assoc, drop_app e4]
  have d6 : (bodyB k no l ++ X).drop 6 = [0, 0] ++ ((l ++ List.replicate (244 - l.length) 0) ++ X) := by
    rw [← drop_add _ 4 2, d4, List.append_assoc, drop_app e2, List.append_assoc]
  have d8 : (bodyB k no l ++ X).drop 8 = (l ++ List.replicate (244 - l.length) 0) ++ X := by
    rw [← drop_add _ 6 2, d6]; rfl
  refine ⟨?_, ?_, ?_, ?_, ?_⟩
  · rw [drop_app hb, eX, sumN, take_app hb]
  · unfold bodyB
    rw [List.append_assoc, take_app e4, leN_encN _ _ (by omega)]
    omega
  · rw [d4, List.append_assoc, take_app e2, leN_encN _ _ (by omega)]
    omega
  · rw [d6]; rfl
  · rw [d8, take_app (by simp; omega)]

theorem openE_seal {k no : Int} {l : List UInt8} (h : sealE k no l.length = 0) : openE (sealB k no l) k no = 0 ∧ openB (sealB k no l) k no = l ++ List.replicate (244 - l.length) 0 := by
  obtain ⟨h1, h2, h3, h4, h5⟩ := sealB_parts h
  have h0 : openE (sealB k no l) k no = 0 := by
    simp [openE, (sealE_zero h).1, sealB_length h, h1, h2, h3, h4]
  exact ⟨h0, by rw [openB, if_pos h0, h5]⟩

theorem openE_zero {l : List UInt8} {k no : Int} (h : openE l k no = 0) : knownB k no = true ∧ l.length = 256 ∧ leN (l.drop 252) = sumN l k ∧ (leN (l.take 4) : Int) = no ∧ (leN ((l.drop 4).take 2) : Int) = k ∧ leN ((l.drop 6).take 2) = 0 := by
  unfold openE at h
  by_cases h1 : knownB k no = false
  · simp [h1] at h
  by_cases h2 : l.length ≠ 256
  · simp [h1, h2] at h
  by_cases h3 : (leN (l.drop 252) : Int) ≠ sumN l k
  · rw [if_neg h1, if_neg h2, if_pos h3] at h; omega
  by_cases h4 : (leN (l.take 4) : Int) ≠ no
  · rw [if_neg h1, if_neg h2, if_neg h3, if_pos h4] at h; omega
  by_cases h5 : (leN ((l.drop 4).take 2) : Int) ≠ k
  · rw [if_neg h1, if_neg h2, if_neg h3, if_neg h4, if_pos h5] at h; omega
  by_cases h6 : leN ((l.drop 6).take 2) ≠ 0
  · rw [if_neg h1, if_neg h2, if_neg h3, if_neg h4, if_neg h5, if_pos h6] at h; omega
  exact ⟨by simpa using h1, by omega, by omega, by omega, by omega, by omega⟩

/-- a block that is opened is the block that is sealed of what is in it -/
theorem seal_open {l : List UInt8} {k no : Int} (h : openE l k no = 0) : sealE k no (openB l k no).length = 0 ∧ sealB k no (openB l k no) = l := by
  obtain ⟨h1, h2, h3, h4, h5, h6⟩ := openE_zero h
  have hp : openB l k no = (l.drop 8).take 244 := by rw [openB, if_pos h]
  have hpl : (openB l k no).length = 244 := by rw [hp]; simp; omega
  have hs : sealE k no (openB l k no).length = 0 := by simp [sealE, h1, hpl]
  refine ⟨hs, ?_⟩
  have e1 : encN 4 no.toNat = l.take 4 := by
    have := encN_leN (l.take 4)
    rw [show (l.take 4).length = 4 by simp; omega] at this
    rw [← this]
    congr 1
    omega
  have e2 : encN 2 k.toNat = (l.drop 4).take 2 := by
    have := encN_leN ((l.drop 4).take 2)
    rw [show ((l.drop 4).take 2).length = 2 by simp; omega] at this
    rw [← this]
    congr 1
    omega
  have e3 : ([0, 0] : List UInt8) = (l.drop 6).take 2 := by
    refine leN_inj (by simp; omega) ?_
    rw [h6]; rfl
  have hb : bodyB k no (openB l k no) = l.take 252 := by
    rw [bodyB, hpl, e1, e2, e3, hp]
    simp only [Nat.sub_self, List.replicate_zero, List.append_nil]
    have a1 : (l.drop 6).take 2 ++ (l.drop 8).take 244 = (l.drop 6).take 246 := by
      rw [← drop_add l 6 2, ← List.take_add]
    have a2 : (l.drop 4).take 2 ++ (l.drop 6).take 246 = (l.drop 4).take 248 := by
      rw [← drop_add l 4 2, ← List.take_add]
    rw [a1, a2, ← List.take_add]
  rw [sealB_eq hs, hb]
  have e4 : encN 4 (Crc.sum (l.take 252) ^^^ saltN k) = l.drop 252 := by
    have := encN_leN (l.drop 252)
    rw [show (l.drop 252).length = 4 by simp; omega] at this
    rw [← this, h3]
    rfl
  rw [e4, List.take_append_drop]

end Go.Proofs.Ytldgdgkojlohfaa
