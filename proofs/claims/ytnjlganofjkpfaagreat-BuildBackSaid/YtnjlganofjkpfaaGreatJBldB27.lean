/-
  Joined: SupD, SupG, SupH, BlkMath.
-/
import Derived.Test.YtnjlganofjkpfaaGreatJBldB16
import Derived.Test.YtnjlganofjkpfaaGreatJBldB24
import Derived.LoopTactic
import Derived.Test.YtnjlganofjkpfaaGreatJBldB11
import Derived.Laws.ResultCell
import Derived.Test.YtnjlganofjkpfaaGreatJBldB12
/-
  Layer 6's Put.
-/
namespace Go.Proofs.YtnjlganofjkpfaaGreat
open Go.RowKit
set_option linter.unusedVariables false
set_option linter.unusedSimpArgs false

end Go.Proofs.YtnjlganofjkpfaaGreat

/-
  Layer 6's Read: the action that decodes the fields.
-/
namespace Go.Proofs.YtnjlganofjkpfaaGreat
open Go.RowKit
set_option linter.unusedVariables false
set_option linter.unusedSimpArgs false

end Go.Proofs.YtnjlganofjkpfaaGreat

/-
  Layer 6's Read.
-/
namespace Go.Proofs.YtnjlganofjkpfaaGreat
open Go.RowKit
set_option linter.unusedVariables false
set_option linter.unusedSimpArgs false

end Go.Proofs.YtnjlganofjkpfaaGreat

/-
  Layer 11: what a block of an image is, read as a superblock, a node, counts, an index; a block sealed and written.
-/
namespace Go.Proofs.YtnjlganofjkpfaaGreat
open Go.RowKit
set_option linter.unusedVariables false
set_option linter.unusedSimpArgs false

/-- is there no block no among n? -/
def outB (n : Nat) (no : Int) : Bool := decide (no < 0) || decide ((n : Int) ≤ no)
theorem outB_iff {n : Nat} {no : Int} : outB n no = true ↔ no < 0 ∨ (n : Int) ≤ no := by simp [outB]
theorem outB_not {n : Nat} {no : Int} : outB n no = false ↔ 0 ≤ no ∧ no < (n : Int) := by
  rw [← Bool.not_eq_true, outB_iff]
  omega
/-- what a block of a kind has within -/
def inE11 (L : List UInt8) (n : Nat) (no kind : Int) : Int := if outB n no = true then 3 else openE (blk L no.toNat) kind no
def inB11 (L : List UInt8) (n : Nat) (no kind : Int) : List UInt8 := if outB n no = true then [] else openB (blk L no.toNat) kind no

def nodE11 (L : List UInt8) (n : Nat) (no tree : Int) : Int := if inE11 L n no 2 ≠ 0 then inE11 L n no 2 else if readNE (inB11 L n no 2) ≠ 0 then readNE (inB11 L n no 2) else if tree ≠ 0 ∧ (readN (inB11 L n no 2)).tree ≠ tree then 6 else 0
def nodN11 (L : List UInt8) (n : Nat) (no tree : Int) : Nod := if nodE11 L n no tree = 0 then readN (inB11 L n no 2) else Nod.zero
def bitE11 (L : List UInt8) (n : Nat) (no : Int) : Int := if inE11 L n no 3 ≠ 0 then inE11 L n no 3 else readBE9 (inB11 L n no 3)
def sltE11 (L : List UInt8) (n : Nat) (no : Int) : Int := if inE11 L n no 4 ≠ 0 then inE11 L n no 4 else readSE10 (inB11 L n no 4)
def wrE11 (n : Nat) (no kind : Int) (l : List UInt8) : Int := if sealE kind no l.length ≠ 0 then sealE kind no l.length else if outB n no = true then 3 else 0
def wrL11 (L : List UInt8) (n : Nat) (no kind : Int) (l : List UInt8) : List UInt8 := if wrE11 n no kind l = 0 then splice L (no.toNat * 256) (sealB kind no l) else L

theorem wrE11_zero {n : Nat} {no kind : Int} {l : List UInt8} (h : wrE11 n no kind l = 0) : sealE kind no l.length = 0 ∧ outB n no = false := by
  unfold wrE11 at h
  split at h
  · rename_i h1
    exact absurd h h1
  · rename_i h1
    split at h
    · cases h
    · rename_i h2
      exact ⟨by omega, by simpa using h2⟩
theorem wrL11_length {L : List UInt8} {n : Nat} {no kind : Int} {l : List UInt8} (hL : L.length = n * 256) : (wrL11 L n no kind l).length = n * 256 := by
  unfold wrL11
  split
  · rename_i h
    obtain ⟨h1, h2⟩ := wrE11_zero h
    obtain ⟨h3, h4⟩ := outB_not.1 h2
    rw [length_splice _ _ _ (by rw [sealB_length h1, hL]; omega), hL]
  · exact hL

/-- the block that was written -/
theorem blk_written {L : List UInt8} {n : Nat} {no kind : Int} {l : List UInt8} (hL : L.length = n * 256) (h : wrE11 n no kind l = 0) : blk (wrL11 L n no kind l) no.toNat = sealB kind no l := by
  obtain ⟨h1, h2⟩ := wrE11_zero h
  obtain ⟨h3, h4⟩ := outB_not.1 h2
  rw [wrL11, if_pos h, blk_splice hL (sealB_length h1) (by omega) (by omega), if_pos rfl]
/-- it is read under its own kind -/
theorem in_written {L : List UInt8} {n : Nat} {no kind : Int} {l : List UInt8} (hL : L.length = n * 256) (h : wrE11 n no kind l = 0) : inE11 (wrL11 L n no kind l) n no kind = 0 ∧ inB11 (wrL11 L n no kind l) n no kind = l ++ List.replicate (244 - l.length) 0 := by
  obtain ⟨h1, h2⟩ := wrE11_zero h
  obtain ⟨e1, e2⟩ := openE_seal h1
  simp only [inE11, inB11, h2, blk_written hL h]
  exact ⟨e1, e2⟩
/-- as another kind its checksum is wrong -/
theorem open_other {k k2 no : Int} {l : List UInt8} (h : openE l k no = 0) (h2 : 1 ≤ k2 ∧ k2 ≤ 4) (hk : k ≠ k2) : openE l k2 no = 4 := by
  obtain ⟨g1, g2, g3, g4, g5, g6⟩ := openE_zero h
  obtain ⟨g7, g8, g9⟩ := knownB_iff.1 g1
  have hkn : knownB k2 no = true := knownB_iff.2 ⟨h2, g8, g9⟩
  unfold openE
  rw [hkn, if_neg (by decide), if_neg (by omega), if_pos]
  intro e
  exact hk (kind_wrong g3 (by omega) g7 h2)
theorem in_other {L : List UInt8} {n : Nat} {no kind k2 : Int} {l : List UInt8} (hL : L.length = n * 256) (h : wrE11 n no kind l = 0) (h2 : 1 ≤ k2 ∧ k2 ≤ 4) (hk : kind ≠ k2) : inE11 (wrL11 L n no kind l) n no k2 = 4 := by
  obtain ⟨h1, h3⟩ := wrE11_zero h
  obtain ⟨e1, e2⟩ := openE_seal h1
  simp only [inE11, h3, blk_written hL h]
  exact open_other e1 h2 hk
/-- a node that was written -/
theorem nod_written {L : List UInt8} {n : Nat} {no : Int} {nd : Nod} (hL : L.length = n * 256) (hr : rightN nd = true) (hn : outB n no = false) (h0 : (n : Int) ≤ 14400) :
    wrE11 n no 2 (encNod nd) = 0 ∧ (∀ tree, tree = 0 ∨ tree = nd.tree → nodE11 (wrL11 L n no 2 (encNod nd)) n no tree = 0 ∧ nodN11 (wrL11 L n no 2 (encNod nd)) n no tree = nd) ∧
      (∀ tree, tree ≠ 0 → tree ≠ nd.tree → nodE11 (wrL11 L n no 2 (encNod nd)) n no tree = 6) ∧ bitE11 (wrL11 L n no 2 (encNod nd)) n no = 4 ∧ sltE11 (wrL11 L n no 2 (encNod nd)) n no = 4 := by
  obtain ⟨g1, g2⟩ := outB_not.1 hn
  have hl := encNod_length hr
  have hs : sealE 2 no (encNod nd).length = 0 := by
    rw [sealE, knownB_iff.2 ⟨by omega, g1, by omega⟩, hl]
    decide
  have hw : wrE11 n no 2 (encNod nd) = 0 := by rw [wrE11, hs, hn]; rfl
  obtain ⟨e1, e2⟩ := in_written hL hw
  rw [hl, List.replicate_zero, List.append_nil] at e2
  obtain ⟨r1, r2⟩ := nod_read hr
  have r3 : readN (encNod nd) = nd := by rw [readN, if_pos r1, r2]
  refine ⟨hw, fun tree ht => ?_, fun tree h1 h2 => ?_, ?_, ?_⟩
  · have he : nodE11 (wrL11 L n no 2 (encNod nd)) n no tree = 0 := by
      rw [nodE11, if_neg (by omega), e2, if_neg (by omega), r3, if_neg]
      rintro ⟨a, b⟩
      rcases ht with rfl | rfl
      · exact a rfl
      · exact b rfl
    exact ⟨he, by rw [nodN11, if_pos he, e2, r3]⟩
  · rw [nodE11, if_neg (by omega), e2, if_neg (by omega), r3, if_pos ⟨h1, fun e => h2 e.symm⟩]
  · rw [bitE11, if_pos (by rw [in_other hL hw (by omega) (by omega)]; decide), in_other hL hw (by omega) (by omega)]
  · rw [sltE11, if_pos (by rw [in_other hL hw (by omega) (by omega)]; decide), in_other hL hw (by omega) (by omega)]

end Go.Proofs.YtnjlganofjkpfaaGreat
