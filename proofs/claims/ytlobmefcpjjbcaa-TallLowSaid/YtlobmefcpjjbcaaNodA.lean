/-
  Layer 7's Width, Max, holds and follows, and the reference's Width and Max.
-/
import Derived.Test.YtlobmefcpjjbcaaNodMathB
import Derived.Test.YtlobmefcpjjbcaaInfo
namespace Go.Proofs.Ytlobmefcpjjbcaa
open Go.RowKit
set_option linter.unusedVariables false
set_option linter.unusedSimpArgs false

set_option maxRecDepth 100000 in
theorem Width_any (tree : Int) (leaf : Bool) (w : World) (r : Nat) (hr : widN tree leaf = r) :
    Calls Try.prog 18 #[.int .i64 tree, .bool leaf] w fun e w' => e = .returned (.int .i64 (r : Int)) ∧ w = w' := by
  by_cases h : 1 ≤ tree ∧ tree ≤ 5
  · rcases (show tree = 1 ∨ tree = 2 ∨ tree = 3 ∨ tree = 4 ∨ tree = 5 by omega) with rfl | rfl | rfl | rfl | rfl
    all_goals
      cases leaf
      all_goals
        subst hr
        go_enter Try.func18, Try.ntmps18
        go_wp2
        go_ret
        exact ⟨rfl, rfl⟩
  · obtain rfl : r = 0 := by rw [← hr, widN, if_pos (by omega)]
    have h1 : ¬ tree = 1 := by omega
    have h2 : ¬ tree = 2 := by omega
    have h3 : ¬ tree = 3 := by omega
    have h4 : ¬ tree = 4 := by omega
    have h5 : ¬ tree = 5 := by omega
    clear h hr
    go_enter Try.func18, Try.ntmps18
    go_wp2
    go_ret
    exact ⟨rfl, rfl⟩

theorem widN_in {tree : Int} {leaf : Bool} {r : Nat} (h : 1 ≤ tree ∧ tree ≤ 5) (hr : widN tree leaf = r) : r = if leaf = false then 4 else if tree = 2 then 8 else if tree = 3 then 24 else if tree = 4 then 16 else 4 := by
  rw [← hr, widN, if_neg (by omega)]

set_option maxRecDepth 100000 in
set_option maxHeartbeats 400000 in
theorem refWidth_any (tree : Int) (leaf : Bool) (w : World) (r : Nat) (hr : widN tree leaf = r) (ht : i64b tree) :
    Calls Try.prog 19 #[.int .i64 tree, .bool leaf] w fun e w' => e = .returned (.int .i64 (r : Int)) ∧ Below w.heap.size w w' := by
  by_cases h : 1 ≤ tree ∧ tree ≤ 5
  · have hb : Below w.heap.size w (w.alloc (.cells #[.int .i64 0, .int .i64 4, .int .i64 8, .int .i64 24, .int .i64 16, .int .i64 4] 3)) := (Below.refl _ _).alloc (Nat.le_refl _) _
    have hr := widN_in h hr
    cases leaf
    · obtain rfl : r = 4 := hr
      have h1 : ¬ tree < 1 := by omega
      have h2 : ¬ 5 < tree := by omega
      clear hr h
      go_enter Try.func19, Try.ntmps19
      go_wp2
      go_ret
      exact ⟨rfl, hb⟩
    · have hn := heap_alloc_new w (.cells #[.int .i64 0, .int .i64 4, .int .i64 8, .int .i64 24, .int .i64 16, .int .i64 4] 3)
      rcases (show tree = 1 ∨ tree = 2 ∨ tree = 3 ∨ tree = 4 ∨ tree = 5 by omega) with rfl | rfl | rfl | rfl | rfl
      all_goals
        simp at hr
        subst hr
        have hc1 := cell_of_row (w.alloc (.cells #[.int .i64 0, .int .i64 4, .int .i64 8, .int .i64 24, .int .i64 16, .int .i64 4] 3)) w.heap.size 1 _ _ _ hn
        have hc2 := cell_of_row (w.alloc (.cells #[.int .i64 0, .int .i64 4, .int .i64 8, .int .i64 24, .int .i64 16, .int .i64 4] 3)) w.heap.size 2 _ _ _ hn
        have hc3 := cell_of_row (w.alloc (.cells #[.int .i64 0, .int .i64 4, .int .i64 8, .int .i64 24, .int .i64 16, .int .i64 4] 3)) w.heap.size 3 _ _ _ hn
        have hc4 := cell_of_row (w.alloc (.cells #[.int .i64 0, .int .i64 4, .int .i64 8, .int .i64 24, .int .i64 16, .int .i64 4] 3)) w.heap.size 4 _ _ _ hn
        have hc5 := cell_of_row (w.alloc (.cells #[.int .i64 0, .int .i64 4, .int .i64 8, .int .i64 24, .int .i64 16, .int .i64 4] 3)) w.heap.size 5 _ _ _ hn
        simp at hc1 hc2 hc3 hc4 hc5
        clear hn
        go_enter Try.func19, Try.ntmps19
        go_wp2
        go_ret
        exact ⟨rfl, hb⟩
  · obtain rfl : r = 0 := by rw [← hr, widN, if_pos (by omega)]
    have hb : Below w.heap.size w (w.alloc (.cells #[.int .i64 0, .int .i64 4, .int .i64 8, .int .i64 24, .int .i64 16, .int .i64 4] 3)) := (Below.refl _ _).alloc (Nat.le_refl _) _
    obtain ⟨ht1, ht2⟩ := ht
    by_cases h1 : tree < 1
    · clear hr h
      go_enter Try.func19, Try.ntmps19
      go_wp2
      go_ret
      exact ⟨rfl, hb⟩
    · have h2 : 5 < tree := by omega
      clear hr h
      go_enter Try.func19, Try.ntmps19
      go_wp2
      go_ret
      exact ⟨rfl, hb⟩

set_option maxRecDepth 100000 in
theorem Max_any (tree : Int) (leaf : Bool) (w : World) (r : Nat) (hr : capN (widN tree leaf) = r) :
    Calls Try.prog 14 #[.int .i64 tree, .bool leaf] w fun e w' => e = .returned (.int .i64 (r : Int)) ∧ w = w' := by
  have W := Lib.hid (fun W => Width_any tree leaf W _ rfl)
  rcases widN_cases tree leaf with ⟨h1, h2⟩ | ⟨h1, h2⟩ | ⟨h1, h2⟩ | ⟨h1, h2⟩ | ⟨h1, h2⟩
  all_goals
    rw [h2] at hr
    subst hr
    rw [h1] at W
    clear h1 h2
    go_enter Try.func14, Try.ntmps14
    go_wp2_with (go_at_call 18; (with_reducible refine (W.out _).mono ?_); rintro e w' ⟨rfl, rfl⟩)
    go_ret
    exact ⟨rfl, rfl⟩

set_option maxRecDepth 100000 in
theorem refMax_any (tree : Int) (leaf : Bool) (w : World) (r : Nat) (hr : capN (widN tree leaf) = r) (ht : i64b tree) :
    Calls Try.prog 17 #[.int .i64 tree, .bool leaf] w fun e w' => e = .returned (.int .i64 (r : Int)) ∧ Below w.heap.size w w' := by
  have W := Lib.hid (fun W => refWidth_any tree leaf W _ rfl ht)
  rcases widN_cases tree leaf with ⟨h1, h2⟩ | ⟨h1, h2⟩ | ⟨h1, h2⟩ | ⟨h1, h2⟩ | ⟨h1, h2⟩
  all_goals
    rw [h2] at hr
    subst hr
    rw [h1] at W
    clear h1 h2
    go_enter Try.func17, Try.ntmps17
    go_wp2_with (go_at_call 19; (with_reducible refine (W.out _).mono ?_); rintro e w1 ⟨rfl, hb1⟩)
    go_ret
    exact ⟨rfl, hb1⟩

/-- can a node of such a tree have that many keys? -/
def holdsN (tree : Int) (leaf : Bool) (cnt : Nat) : Bool := decide (0 < capN (widN tree leaf)) && decide (cnt ≤ capN (widN tree leaf)) && (leaf || decide (0 < cnt))

/-- may the key stand there? -/
def followsE (key least : Int) : Int := if key < 0 ∨ 281474976710655 < key then 2 else if key < least then 8 else 0

end Go.Proofs.Ytlobmefcpjjbcaa
