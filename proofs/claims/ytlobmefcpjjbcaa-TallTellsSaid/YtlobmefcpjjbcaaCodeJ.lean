/-
  Layer 1's Unpack and the reference's.
-/
import Derived.Test.YtlobmefcpjjbcaaCodeG
namespace Go.Proofs.Ytlobmefcpjjbcaa
open Go.RowKit
set_option linter.unusedVariables false
set_option linter.unusedSimpArgs false

def i64b' (x : Int) : Prop := -9223372036854775808 ≤ x ∧ x ≤ 9223372036854775807

/-- what Unpack gives from offset i on: the error, and the numbers so far -/
def unpE (b : List UInt8) : Int → List Int → Int
  | _, [] => 0
  | i, wd :: r => if getE b i wd = 0 then unpE b (i + wd) r else getE b i wd
def unpL (b : List UInt8) : Int → List Int → List Int
  | _, [] => []
  | i, wd :: r => getN b i wd :: unpL b (i + wd) r
def sumL (l : List Int) : Int := l.foldr (· + ·) 0
def unpN (b : List UInt8) (l : List Int) : List Int := if unpE b 0 l = 0 then unpL b 0 l else []

theorem unpE_append (b : List UInt8) (i : Int) (x y : List Int) : unpE b i (x ++ y) = if unpE b i x = 0 then unpE b (i + sumL x) y else unpE b i x := by
  induction x generalizing i with
  | nil => simp [unpE, sumL]
  | cons wd r ih =>
    simp only [List.cons_append, unpE]
    split
    · rw [ih]
      simp only [sumL, List.foldr_cons, Int.add_assoc]
    · rename_i h; simp [h]

theorem unpL_append (b : List UInt8) (i : Int) (x y : List Int) : unpL b i (x ++ y) = unpL b i x ++ unpL b (i + sumL x) y := by
  induction x generalizing i with
  | nil => simp [unpL, sumL]
  | cons wd r ih =>
    simp only [List.cons_append, unpL, ih, sumL, List.foldr_cons, Int.add_assoc]

theorem unpL_length (b : List UInt8) (i : Int) (x : List Int) : (unpL b i x).length = x.length := by
  induction x generalizing i with
  | nil => rfl
  | cons wd r ih => simp [unpL, ih]

theorem sumL_append (x y : List Int) : sumL (x ++ y) = sumL x + sumL y := by
  induction x with
  | nil => simp [sumL]
  | cons a r ih => simp only [sumL, List.cons_append, List.foldr_cons] at *; omega

/-- while no error came, the offset lies within the bytes -/
theorem getE_zero {b : List UInt8} {i wd : Int} (h : getE b i wd = 0) : isW wd = true ∧ 0 ≤ i ∧ i + wd ≤ b.length := by
  rcases roomE_cases b.length i wd with hr | hr | ⟨hr, hw, h0, h1⟩
  · simp [getE, hr] at h
  · simp [getE, hr] at h
  · exact ⟨hw, h0, h1⟩

theorem unpE_zero {b : List UInt8} {i : Int} {x : List Int} (h : unpE b i x = 0) (h0 : 0 ≤ i) (h1 : i ≤ b.length) : 0 ≤ i + sumL x ∧ i + sumL x ≤ b.length := by
  induction x generalizing i with
  | nil => simp [sumL]; omega
  | cons wd r ih =>
    simp only [unpE] at h
    split at h
    · rename_i hg
      obtain ⟨hw, h2, h3⟩ := getE_zero hg
      have hb : 1 ≤ wd := by rcases isW_cases hw with h | h | h | h <;> omega
      have := ih h (by omega) (by omega)
      simp only [sumL, List.foldr_cons] at *
      omega
    · rename_i hg; exact absurd h hg


theorem getN_bounds (b : List UInt8) (i wd : Int) : 0 ≤ getN b i wd ∧ getN b i wd ≤ 9223372036854775807 := by
  unfold getN
  split
  · rename_i h
    have : leN (part b i wd) < 9223372036854775808 := by
      by_cases hx : leN (part b i wd) < 9223372036854775808
      · exact hx
      · unfold getE at h
        split at h
        · rw [if_pos (by omega)] at h; cases h
        · rename_i h2; exact absurd h h2
    omega
  · omega

end Go.Proofs.Ytlobmefcpjjbcaa
