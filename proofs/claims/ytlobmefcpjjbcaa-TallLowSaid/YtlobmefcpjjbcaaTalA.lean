/-
  Layer 15: allowed, filled, Sizes.
-/
import Derived.Test.YtlobmefcpjjbcaaNodA
import Derived.Test.YtlobmefcpjjbcaaTalMath
import Derived.Test.YtlobmefcpjjbcaaMemL
import Derived.Test.YtlobmefcpjjbcaaMemB
import Derived.Laws.Small
namespace Go.Proofs.Ytlobmefcpjjbcaa
open Go.RowKit
set_option linter.unusedVariables false
set_option linter.unusedSimpArgs false

set_option maxRecDepth 100000 in
theorem allowed_any15 (n : Int) (w : World) : Calls Try.prog 15 #[.int .i64 n] w fun e w' => e = .returned (.bool (decide (0 ≤ n ∧ n ≤ 32768))) ∧ w = w' := by
  by_cases h0 : 0 ≤ n
  · by_cases h1 : n ≤ 32768
    · rw [decide_eq_true (show 0 ≤ n ∧ n ≤ 32768 from ⟨h0, h1⟩)]
      go_enter Try.func15, Try.ntmps15
      go_wp2
      go_ret
      exact ⟨rfl, rfl⟩
    · rw [decide_eq_false (show ¬ (0 ≤ n ∧ n ≤ 32768) from fun h => h1 h.2)]
      go_enter Try.func15, Try.ntmps15
      go_wp2
      go_ret
      exact ⟨rfl, rfl⟩
  · rw [decide_eq_false (show ¬ (0 ≤ n ∧ n ≤ 32768) from fun h => h0 h.1)]
    go_enter Try.func15, Try.ntmps15
    go_wp2
    go_ret
    exact ⟨rfl, rfl⟩

set_option maxRecDepth 100000 in
theorem filled_any15 (n m : Nat) (hn : n ≤ 32768) (hm : 1 ≤ m) (hm2 : m ≤ 9223372036854775807) (w : World) : Calls Try.prog 16 #[.int .i64 n, .int .i64 m] w fun e w' => e = .returned (.int .i64 (fil15 n m : Int)) ∧ w = w' := by
  obtain ⟨q, hq⟩ : ∃ q, (max n 1 - 1) / m = q := ⟨_, rfl⟩
  have hq2 : q ≤ 32768 := by rw [← hq]; have := Nat.div_le_self (max n 1 - 1) m; omega
  rw [show fil15 n m = q + 1 by rw [← hq]; rfl]
  have hm0 : (m : Int) ≠ 0 := by omega
  have hmz : ((m : Int) == 0) = false := by simpa using hm0
  by_cases h1 : 1 ≤ n
  · have hx : ¬ ((1 : Int) > (n : Int)) := by omega
    have hd : ((n : Int) - 1).tdiv (m : Int) = (q : Int) := by
      rw [show (n : Int) - 1 = ((n - 1 : Nat) : Int) by omega, ← Int.ofNat_tdiv, ← hq, Nat.max_eq_left h1]
    clear hq
    go_enter Try.func16, Try.ntmps16
    go_wp2
    go_ret
    exact ⟨by simp, rfl⟩
  · obtain rfl : n = 0 := by omega
    obtain rfl : q = 0 := by rw [← hq]; exact Nat.zero_div m
    clear hq
    go_enter Try.func16, Try.ntmps16
    go_wp2
    go_ret
    exact ⟨by simp, rfl⟩

end Go.Proofs.Ytlobmefcpjjbcaa
