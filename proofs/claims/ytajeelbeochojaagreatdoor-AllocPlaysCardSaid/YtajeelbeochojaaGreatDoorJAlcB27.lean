/-
  Joined: BlkMath.
-/
import Derived.Test.YtajeelbeochojaaGreatDoorJAlcB16
import Derived.Test.YtajeelbeochojaaGreatDoorJAlcB12
import Derived.Test.YtajeelbeochojaaGreatDoorJAlcB26
/-
  Layer 11: what a block of an image is, read as a superblock, a node, counts, an index; a block sealed and written.
-/
namespace Go.Proofs.YtajeelbeochojaaGreatDoor
open Go.RowKit
set_option linter.unusedVariables false
set_option linter.unusedSimpArgs false

/-- is there no block no among n? -/
def outB (n : Nat) (no : Int) : Bool := decide (no < 0) || decide ((n : Int) ≤ no)
theorem outB_iff {n : Nat} {no : Int} : outB n no = true ↔ no < 0 ∨ (n : Int) ≤ no := by simp [outB]
theorem outB_not {n : Nat} {no : Int} : outB n no = false ↔ 0 ≤ no ∧ no < (n : Int) := by
  rw [← Bool.not_eq_true, outB_iff]
  omega
def wrE11 (n : Nat) (no kind : Int) (l : List UInt8) : Int := if sealE kind no l.length ≠ 0 then sealE kind no l.length else if outB n no = true then 3 else 0
def wrL11 (L : List UInt8) (n : Nat) (no kind : Int) (l : List UInt8) : List UInt8 := if wrE11 n no kind l = 0 then splice L (no.toNat * 256) (sealB kind no l) else L

theorem wrE11_zero {n : Nat} {no kind : Int} {l : List UInt8} (h : wrE11 n no kind l = 0) : sealE kind no l.length = 0 ∧ outB n no = false := by
  unfold wrE11 at h
  split at h
  · rename_i h1
    exact absurd h h1
  · rename_i h1
    split at h
    · cases h
    · rename_i h2
      exact ⟨by omega, by simpa using h2⟩
theorem wrL11_length {L : List UInt8} {n : Nat} {no kind : Int} {l : List UInt8} (hL : L.length = n * 256) : (wrL11 L n no kind l).length = n * 256 := by
  unfold wrL11
  split
  · rename_i h
    obtain ⟨h1, h2⟩ := wrE11_zero h
    obtain ⟨h3, h4⟩ := outB_not.1 h2
    rw [length_splice _ _ _ (by rw [sealB_length h1, hL]; omega), hL]
  · exact hL

end Go.Proofs.YtajeelbeochojaaGreatDoor
