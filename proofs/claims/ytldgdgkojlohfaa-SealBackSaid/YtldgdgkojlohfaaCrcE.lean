/-
  The checksum of one slice, and of none.
-/
import Derived.Test.YtldgdgkojlohfaaCrcC
namespace Go.Proofs.Ytldgdgkojlohfaa
open Go.RowKit
set_option linter.unusedVariables false
set_option linter.unusedSimpArgs false

theorem Sum_one (A : Option Addr) (n c : Nat) (l : List UInt8) (w : World) (h : Bytes8 w A n c l) :
    Calls Try.prog 31 #[.slice (some ⟨w.heap.size, 0, none⟩) 1 1] (w.alloc (.cells #[.slice A n c] 22)) fun e w' => e = .returned (.int .i64 (Crc.sum l : Int)) ∧ Below w.heap.size w w' := by
  refine (Sum_any _ 1 1 [l] _ (Pcs.one h _)).mono ?_
  rintro e w' ⟨rfl, hb⟩
  exact ⟨by simp, ((Below.refl _ _).alloc (Nat.le_refl _) _).trans (hb.mono (by simp))⟩

theorem Sum_none (w : World) :
    Calls Try.prog 31 #[.slice none 0 0] w fun e w' => e = .returned (.int .i64 0) ∧ Below w.heap.size w w' := by
  refine (Sum_any _ 0 0 [] _ (Pcs.nil _)).mono ?_
  rintro e w' ⟨rfl, hb⟩
  exact ⟨ret_int (by rw [List.flatten_nil, Crc.sum_nil]; rfl), hb⟩

end Go.Proofs.Ytldgdgkojlohfaa
