/-
  Layer 6: lives.
-/
import Derived.Test.YtfebifpofhodoaaSupD
namespace Go.Proofs.Ytfebifpofhodoaa
open Go.RowKit
set_option linter.unusedVariables false
set_option linter.unusedSimpArgs false

/-- the least superblock -/
def f0 : Nat → Int
  | 2 => 1
  | 4 => 2
  | 5 => 1
  | 6 => 1
  | 7 => 1
  | 8 => 1
  | 9 => 1
  | 10 => 1
  | _ => 0

theorem f0_begins : (encS f0).take 12 = [83, 67, 65, 78, 84, 76, 73, 78, 1, 0, 0, 0] := by decide +kernel

set_option maxHeartbeats 400000 in
theorem lives6_any (w : World) : Calls Try.prog 10 #[] w fun e w' => e = .returned (.bool true) ∧ Below w.heap.size w w' := by
  have S : Hid (Calls Try.prog 6 #[.agg #[.int .i64 0, .int .i64 0, .int .i64 1, .int .i64 0, .int .i64 2, .int .i64 1, .int .i64 1, .int .i64 1, .int .i64 1, .int .i64 1, .int .i64 1]] w fun e w' => ∃ g, e = .returned (.tuple #[.slice (some ⟨g, 0, none⟩) 244 244, .int .i64 0]) ∧
      (convert 24 9 (.slice (some ⟨g, 0, none⟩) 12 244)).run Try.prog w' = .ok (.string ⟨#[83, 67, 65, 78, 84, 76, 73, 78, 1, 0, 0, 0]⟩) w' ∧ Below w.heap.size w w') :=
    (SPut_good w f0 (by decide +kernel)).mono fun e w' ⟨g, h1, h2, h3⟩ => by
      have hB := h2.bytes (n := 244) (encS_length f0) (by omega)
      have hB2 : Bytes8 w' (some ⟨g, 0, none⟩) 12 244 [83, 67, 65, 78, 84, 76, 73, 78, 1, 0, 0, 0] := by
        refine ⟨rfl, by omega, by omega, ?_⟩
        have := hB.row.take 12
        rw [u8s_take, f0_begins] at this
        exact this
      exact ⟨g, h1, run_str hB2, h3⟩
  go_enter Try.func10, Try.ntmps10
  go_wp2_with (go_at_call 6; (with_reducible refine (S.out).mono ?_); rintro e w1 ⟨g, rfl, hc, hb1⟩)
  go_ret
  exact ⟨rfl, hb1⟩

end Go.Proofs.Ytfebifpofhodoaa
