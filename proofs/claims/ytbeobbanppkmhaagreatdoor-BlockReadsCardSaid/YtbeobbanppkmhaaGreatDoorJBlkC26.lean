/-
  Joined: BlkMath.
-/
import Derived.Test.YtbeobbanppkmhaaGreatDoorJBlkC14
import Derived.Test.YtbeobbanppkmhaaGreatDoorJBlkC11
import Derived.Test.YtbeobbanppkmhaaGreatDoorJBlkC25
import Derived.Test.YtbeobbanppkmhaaGreatDoorJBlkC15
/-
  Layer 11: what a block of an image is, read as a superblock, a node, counts, an index; a block sealed and written.
-/
namespace Go.Proofs.YtbeobbanppkmhaaGreatDoor
open Go.RowKit
set_option linter.unusedVariables false
set_option linter.unusedSimpArgs false

/-- is there no block no among n? -/
def outB (n : Nat) (no : Int) : Bool := decide (no < 0) || decide ((n : Int) ≤ no)
theorem outB_iff {n : Nat} {no : Int} : outB n no = true ↔ no < 0 ∨ (n : Int) ≤ no := by simp [outB]
theorem outB_not {n : Nat} {no : Int} : outB n no = false ↔ 0 ≤ no ∧ no < (n : Int) := by
  rw [← Bool.not_eq_true, outB_iff]
  omega
/-- what a block of a kind has within -/
def inE11 (L : List UInt8) (n : Nat) (no kind : Int) : Int := if outB n no = true then 3 else openE (blk L no.toNat) kind no
def inB11 (L : List UInt8) (n : Nat) (no kind : Int) : List UInt8 := if outB n no = true then [] else openB (blk L no.toNat) kind no

def supE11 (L : List UInt8) (n : Nat) : Int := if inE11 L n 0 1 ≠ 0 then inE11 L n 0 1 else if readE (inB11 L n 0 1) ≠ 0 then readE (inB11 L n 0 1) else if (n : Int) < readS (inB11 L n 0 1) 4 then 2 else 0
def supF11 (L : List UInt8) (n : Nat) : Nat → Int := if supE11 L n = 0 then readS (inB11 L n 0 1) else fun _ => 0
def nodE11 (L : List UInt8) (n : Nat) (no tree : Int) : Int := if inE11 L n no 2 ≠ 0 then inE11 L n no 2 else if readNE (inB11 L n no 2) ≠ 0 then readNE (inB11 L n no 2) else if tree ≠ 0 ∧ (readN (inB11 L n no 2)).tree ≠ tree then 6 else 0
def nodN11 (L : List UInt8) (n : Nat) (no tree : Int) : Nod := if nodE11 L n no tree = 0 then readN (inB11 L n no 2) else Nod.zero
def bitE11 (L : List UInt8) (n : Nat) (no : Int) : Int := if inE11 L n no 3 ≠ 0 then inE11 L n no 3 else readBE9 (inB11 L n no 3)
def bitL11 (L : List UInt8) (n : Nat) (no : Int) : List Int := if inE11 L n no 3 ≠ 0 then [] else readBL9 (inB11 L n no 3)
def sltE11 (L : List UInt8) (n : Nat) (no : Int) : Int := if inE11 L n no 4 ≠ 0 then inE11 L n no 4 else readSE10 (inB11 L n no 4)
def sltL11 (L : List UInt8) (n : Nat) (no : Int) : List Slt := if inE11 L n no 4 ≠ 0 then [] else readSL10 (inB11 L n no 4)
def wrE11 (n : Nat) (no kind : Int) (l : List UInt8) : Int := if sealE kind no l.length ≠ 0 then sealE kind no l.length else if outB n no = true then 3 else 0
def wrL11 (L : List UInt8) (n : Nat) (no kind : Int) (l : List UInt8) : List UInt8 := if wrE11 n no kind l = 0 then splice L (no.toNat * 256) (sealB kind no l) else L

theorem wrE11_zero {n : Nat} {no kind : Int} {l : List UInt8} (h : wrE11 n no kind l = 0) : sealE kind no l.length = 0 ∧ outB n no = false := by
  unfold wrE11 at h
  split at h
  · rename_i h1
    exact absurd h h1
  · rename_i h1
    split at h
    · cases h
    · rename_i h2
      exact ⟨by omega, by simpa using h2⟩
theorem wrL11_length {L : List UInt8} {n : Nat} {no kind : Int} {l : List UInt8} (hL : L.length = n * 256) : (wrL11 L n no kind l).length = n * 256 := by
  unfold wrL11
  split
  · rename_i h
    obtain ⟨h1, h2⟩ := wrE11_zero h
    obtain ⟨h3, h4⟩ := outB_not.1 h2
    rw [length_splice _ _ _ (by rw [sealB_length h1, hL]; omega), hL]
  · exact hL

/-- the block that was written -/
theorem blk_written {L : List UInt8} {n : Nat} {no kind : Int} {l : List UInt8} (hL : L.length = n * 256) (h : wrE11 n no kind l = 0) : blk (wrL11 L n no kind l) no.toNat = sealB kind no l := by
  obtain ⟨h1, h2⟩ := wrE11_zero h
  obtain ⟨h3, h4⟩ := outB_not.1 h2
  rw [wrL11, if_pos h, blk_splice hL (sealB_length h1) (by omega) (by omega), if_pos rfl]
/-- it is read under its own kind -/
theorem in_written {L : List UInt8} {n : Nat} {no kind : Int} {l : List UInt8} (hL : L.length = n * 256) (h : wrE11 n no kind l = 0) : inE11 (wrL11 L n no kind l) n no kind = 0 ∧ inB11 (wrL11 L n no kind l) n no kind = l ++ List.replicate (244 - l.length) 0 := by
  obtain ⟨h1, h2⟩ := wrE11_zero h
  obtain ⟨e1, e2⟩ := openE_seal h1
  simp only [inE11, inB11, h2, blk_written hL h]
  exact ⟨e1, e2⟩
end Go.Proofs.YtbeobbanppkmhaaGreatDoor
