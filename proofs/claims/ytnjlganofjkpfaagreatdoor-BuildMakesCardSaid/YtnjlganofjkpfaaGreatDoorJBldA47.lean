/-
  Joined: BldLawE.
-/
import Derived.Test.YtnjlganofjkpfaaGreatDoorJBldA46
/-
  The walk of BuildMakes, for all inputs.
-/
namespace Go.Proofs.YtnjlganofjkpfaaGreatDoor
open Go.RowKit
set_option linter.unusedVariables false
set_option linter.unusedSimpArgs false

theorem buildmakes_walk (blocks from_ tree : Int) (A2 : Option Addr) (n2 c2 : Nat) (l : List Ent17) (w : World) (_h1 : -9223372036854775808 ≤ blocks ∧ blocks ≤ 9223372036854775807) (_h2 : -9223372036854775808 ≤ from_ ∧ from_ ≤ 9223372036854775807) (h3 : -9223372036854775808 ≤ tree ∧ tree ≤ 9223372036854775807) (hE : Ens w A2 n2 c2 l) (hb : ∀ q ∈ l, (-9223372036854775808 ≤ q.1 ∧ q.1 ≤ 9223372036854775807) ∧ q.2.1.length ≤ 9223372036854775807 ∧ (-9223372036854775808 ≤ q.2.2 ∧ q.2.2 ≤ 9223372036854775807)) (hg : ErrT w) :
    Calls Tryz.prog 3 #[.int .i64 blocks, .int .i64 from_, .int .i64 tree, .slice A2 n2 c2] w fun e w' => e = .returned (.bool true) ∧ Below w.heap.size w w' := by
  have hEB : EntB l := fun q hq => ⟨(hb q hq).1, (hb q hq).2.1⟩
  obtain ⟨q, hq, hq2⟩ := and17_127 blocks
  cases hf : fewB17 l with
  | false => exact makes17_many blocks from_ tree w hE hf
  | true =>
    by_cases hn : from_ < 1 ∨ (q : Int) < from_
    · exact makes17_none blocks from_ tree w hE hf hg hq hq2 hn
    · obtain ⟨f, rfl⟩ := Int.eq_ofNat_of_zero_le (show 0 ≤ from_ by omega)
      exact makes17_good blocks tree w hE hEB hf (by simp only [i64b]; omega) hg hq hq2 (by omega) (by omega)
end Go.Proofs.YtnjlganofjkpfaaGreatDoor
