/-
  Joined: CodeE, CodeF, CodeG, CodeH, CodeJ, CodeK, CodeL, NodMath, NodMathB, NodA.
-/
import Derived.OwnWalk
import Derived.Test.YtcmehjjaologpaaJSiz06
import Derived.Test.YtcmehjjaologpaaJSiz05
import Derived.Deep.RegionLaw
import Derived.Test.YtcmehjjaologpaaJSiz01
import Derived.Laws.BytesArg
/-
  Layer 1's split: the encoding of an integer.
-/
namespace Go.Proofs.Ytcmehjjaologpaa
open Go.RowKit
set_option linter.unusedVariables false
set_option linter.unusedSimpArgs false


/-! ### the reference's Bytes -/
end Go.Proofs.Ytcmehjjaologpaa

/-
  Layer 1's Put.
-/
namespace Go.Proofs.Ytcmehjjaologpaa
open Go.RowKit
set_option linter.unusedVariables false
set_option linter.unusedSimpArgs false

end Go.Proofs.Ytcmehjjaologpaa

/-
  The reference's Put; both Zero.
-/
namespace Go.Proofs.Ytcmehjjaologpaa
open Go.RowKit
set_option linter.unusedVariables false
set_option linter.unusedSimpArgs false

end Go.Proofs.Ytcmehjjaologpaa

/-
  Layer 1's Pack.
-/
namespace Go.Proofs.Ytcmehjjaologpaa
open Go.RowKit
set_option linter.unusedVariables false
set_option linter.unusedSimpArgs false

/-- fields as cells -/
def flds (l : List (Int × Int)) : List Value := l.flatMap fun p => [.int .i64 p.1, .int .i64 p.2]

def i64b (x : Int) : Prop := -9223372036854775808 ≤ x ∧ x ≤ 9223372036854775807

/-- a slice of fields -/
structure Flds (w : World) (A : Option Addr) (n c : Nat) (l : List (Int × Int)) : Prop where
  len : l.length = n
  cap : n ≤ c
  most : c ≤ 9223372036854775807
  row : Row w A (flds l)
  bds : ∀ p ∈ l, i64b p.1 ∧ i64b p.2

theorem Flds.below {w w' : World} {A : Option Addr} {n c : Nat} {l : List (Int × Int)} (h : Flds w A n c l) (hb : Below w.heap.size w w') : Flds w' A n c l := ⟨h.len, h.cap, h.most, h.row.below hb, h.bds⟩

end Go.Proofs.Ytcmehjjaologpaa

/-
  Layer 1's Unpack and the reference's.
-/
namespace Go.Proofs.Ytcmehjjaologpaa
open Go.RowKit
set_option linter.unusedVariables false
set_option linter.unusedSimpArgs false

end Go.Proofs.Ytcmehjjaologpaa

/-
  The reference's Same; the document's example.
-/
namespace Go.Proofs.Ytcmehjjaologpaa
open Go.RowKit
set_option linter.unusedVariables false
set_option linter.unusedSimpArgs false

end Go.Proofs.Ytcmehjjaologpaa

/-
  Layer 1's mathematics: what was put is got; what was packed is unpacked.
-/
namespace Go.Proofs.Ytcmehjjaologpaa
open Go.RowKit
set_option linter.unusedVariables false
set_option linter.unusedSimpArgs false

end Go.Proofs.Ytcmehjjaologpaa

/-
  Layer 7's mathematics: nodes, their bytes, and what bytes are a node's.
-/
namespace Go.Proofs.Ytcmehjjaologpaa
open Go.RowKit
set_option linter.unusedVariables false
set_option linter.unusedSimpArgs false

/-! ### pieces of one size -/
/-! ### nodes -/
structure Nod where
  tree : Int
  leaf : Bool
  keys : List Int
  vals : List (List UInt8)

def Nod.zero : Nod := ⟨0, false, [], []⟩

/-- the value width, and the capacity -/
def widN (tree : Int) (leaf : Bool) : Nat :=
  if tree < 1 ∨ 5 < tree then 0 else if leaf = false then 4 else if tree = 2 then 8 else if tree = 3 then 24 else if tree = 4 then 16 else 4
def capN (w : Nat) : Nat := if w = 4 then 18 else if w = 8 then 12 else if w = 16 then 9 else if w = 24 then 6 else 0

theorem widN_cases (tree : Int) (leaf : Bool) : (widN tree leaf = 0 ∧ capN (widN tree leaf) = 0) ∨ (widN tree leaf = 4 ∧ capN (widN tree leaf) = 18) ∨ (widN tree leaf = 8 ∧ capN (widN tree leaf) = 12) ∨ (widN tree leaf = 24 ∧ capN (widN tree leaf) = 6) ∨ (widN tree leaf = 16 ∧ capN (widN tree leaf) = 9) := by
  unfold widN
  split
  · exact .inl ⟨rfl, rfl⟩
  · split
    · exact .inr (.inl ⟨rfl, rfl⟩)
    · split
      · exact .inr (.inr (.inl ⟨rfl, rfl⟩))
      · split
        · exact .inr (.inr (.inr (.inl ⟨rfl, rfl⟩)))
        · split
          · exact .inr (.inr (.inr (.inr ⟨rfl, rfl⟩)))
          · exact .inr (.inl ⟨rfl, rfl⟩)

theorem widN_tree {tree : Int} {leaf : Bool} (h : widN tree leaf ≠ 0) : 1 ≤ tree ∧ tree ≤ 5 := by
  unfold widN at h
  split at h
  · exact absurd rfl h
  · omega

/-! ### what lies in bytes -/
/-! ### what was put is read -/
end Go.Proofs.Ytcmehjjaologpaa

/-
  Layer 7's mathematics, second part: the loops' steps, and the head of an encoding as Unpack gives it.
-/
namespace Go.Proofs.Ytcmehjjaologpaa
open Go.RowKit
set_option linter.unusedVariables false
set_option linter.unusedSimpArgs false

/-! ### Get of a width that lies within the bytes -/
/-! ### the loops over the keys -/
end Go.Proofs.Ytcmehjjaologpaa

/-
  Layer 7's Width, Max, holds and follows, and the reference's Width and Max.
-/
namespace Go.Proofs.Ytcmehjjaologpaa
open Go.RowKit
set_option linter.unusedVariables false
set_option linter.unusedSimpArgs false

set_option maxRecDepth 100000 in
theorem Width_any (tree : Int) (leaf : Bool) (w : World) (r : Nat) (hr : widN tree leaf = r) :
    Calls Try.prog 46 #[.int .i64 tree, .bool leaf] w fun e w' => e = .returned (.int .i64 (r : Int)) ∧ w = w' := by
  by_cases h : 1 ≤ tree ∧ tree ≤ 5
  · rcases (show tree = 1 ∨ tree = 2 ∨ tree = 3 ∨ tree = 4 ∨ tree = 5 by omega) with rfl | rfl | rfl | rfl | rfl
    all_goals
      cases leaf
      all_goals
        subst hr
        go_enter Try.func46, Try.ntmps46
        go_wp2
        go_ret
        exact ⟨rfl, rfl⟩
  · obtain rfl : r = 0 := by rw [← hr, widN, if_pos (by omega)]
    have h1 : ¬ tree = 1 := by omega
    have h2 : ¬ tree = 2 := by omega
    have h3 : ¬ tree = 3 := by omega
    have h4 : ¬ tree = 4 := by omega
    have h5 : ¬ tree = 5 := by omega
    clear h hr
    go_enter Try.func46, Try.ntmps46
    go_wp2
    go_ret
    exact ⟨rfl, rfl⟩

theorem widN_in {tree : Int} {leaf : Bool} {r : Nat} (h : 1 ≤ tree ∧ tree ≤ 5) (hr : widN tree leaf = r) : r = if leaf = false then 4 else if tree = 2 then 8 else if tree = 3 then 24 else if tree = 4 then 16 else 4 := by
  rw [← hr, widN, if_neg (by omega)]

set_option maxRecDepth 100000 in
set_option maxHeartbeats 400000 in
theorem refWidth_any (tree : Int) (leaf : Bool) (w : World) (r : Nat) (hr : widN tree leaf = r) (ht : i64b tree) :
    Calls Try.prog 49 #[.int .i64 tree, .bool leaf] w fun e w' => e = .returned (.int .i64 (r : Int)) ∧ Below w.heap.size w w' := by
  by_cases h : 1 ≤ tree ∧ tree ≤ 5
  · have hb : Below w.heap.size w (w.alloc (.cells #[.int .i64 0, .int .i64 4, .int .i64 8, .int .i64 24, .int .i64 16, .int .i64 4] 3)) := (Below.refl _ _).alloc (Nat.le_refl _) _
    have hr := widN_in h hr
    cases leaf
    · obtain rfl : r = 4 := hr
      have h1 : ¬ tree < 1 := by omega
      have h2 : ¬ 5 < tree := by omega
      clear hr h
      go_enter Try.func49, Try.ntmps49
      go_wp2
      go_ret
      exact ⟨rfl, hb⟩
    · have hn := heap_alloc_new w (.cells #[.int .i64 0, .int .i64 4, .int .i64 8, .int .i64 24, .int .i64 16, .int .i64 4] 3)
      rcases (show tree = 1 ∨ tree = 2 ∨ tree = 3 ∨ tree = 4 ∨ tree = 5 by omega) with rfl | rfl | rfl | rfl | rfl
      all_goals
        simp at hr
        subst hr
        have hc1 := cell_of_row (w.alloc (.cells #[.int .i64 0, .int .i64 4, .int .i64 8, .int .i64 24, .int .i64 16, .int .i64 4] 3)) w.heap.size 1 _ _ _ hn
        have hc2 := cell_of_row (w.alloc (.cells #[.int .i64 0, .int .i64 4, .int .i64 8, .int .i64 24, .int .i64 16, .int .i64 4] 3)) w.heap.size 2 _ _ _ hn
        have hc3 := cell_of_row (w.alloc (.cells #[.int .i64 0, .int .i64 4, .int .i64 8, .int .i64 24, .int .i64 16, .int .i64 4] 3)) w.heap.size 3 _ _ _ hn
        have hc4 := cell_of_row (w.alloc (.cells #[.int .i64 0, .int .i64 4, .int .i64 8, .int .i64 24, .int .i64 16, .int .i64 4] 3)) w.heap.size 4 _ _ _ hn
        have hc5 := cell_of_row (w.alloc (.cells #[.int .i64 0, .int .i64 4, .int .i64 8, .int .i64 24, .int .i64 16, .int .i64 4] 3)) w.heap.size 5 _ _ _ hn
        simp at hc1 hc2 hc3 hc4 hc5
        clear hn
        go_enter Try.func49, Try.ntmps49
        go_wp2
        go_ret
        exact ⟨rfl, hb⟩
  · obtain rfl : r = 0 := by rw [← hr, widN, if_pos (by omega)]
    have hb : Below w.heap.size w (w.alloc (.cells #[.int .i64 0, .int .i64 4, .int .i64 8, .int .i64 24, .int .i64 16, .int .i64 4] 3)) := (Below.refl _ _).alloc (Nat.le_refl _) _
    obtain ⟨ht1, ht2⟩ := ht
    by_cases h1 : tree < 1
    · clear hr h
      go_enter Try.func49, Try.ntmps49
      go_wp2
      go_ret
      exact ⟨rfl, hb⟩
    · have h2 : 5 < tree := by omega
      clear hr h
      go_enter Try.func49, Try.ntmps49
      go_wp2
      go_ret
      exact ⟨rfl, hb⟩

set_option maxRecDepth 100000 in
theorem Max_any (tree : Int) (leaf : Bool) (w : World) (r : Nat) (hr : capN (widN tree leaf) = r) :
    Calls Try.prog 37 #[.int .i64 tree, .bool leaf] w fun e w' => e = .returned (.int .i64 (r : Int)) ∧ w = w' := by
  have W := Lib.hid (fun W => Width_any tree leaf W _ rfl)
  rcases widN_cases tree leaf with ⟨h1, h2⟩ | ⟨h1, h2⟩ | ⟨h1, h2⟩ | ⟨h1, h2⟩ | ⟨h1, h2⟩
  all_goals
    rw [h2] at hr
    subst hr
    rw [h1] at W
    clear h1 h2
    go_enter Try.func37, Try.ntmps37
    go_wp2_with (go_at_call 46; (with_reducible refine (W.out _).mono ?_); rintro e w' ⟨rfl, rfl⟩)
    go_ret
    exact ⟨rfl, rfl⟩

set_option maxRecDepth 100000 in
theorem refMax_any (tree : Int) (leaf : Bool) (w : World) (r : Nat) (hr : capN (widN tree leaf) = r) (ht : i64b tree) :
    Calls Try.prog 43 #[.int .i64 tree, .bool leaf] w fun e w' => e = .returned (.int .i64 (r : Int)) ∧ Below w.heap.size w w' := by
  have W := Lib.hid (fun W => refWidth_any tree leaf W _ rfl ht)
  rcases widN_cases tree leaf with ⟨h1, h2⟩ | ⟨h1, h2⟩ | ⟨h1, h2⟩ | ⟨h1, h2⟩ | ⟨h1, h2⟩
  all_goals
    rw [h2] at hr
    subst hr
    rw [h1] at W
    clear h1 h2
    go_enter Try.func43, Try.ntmps43
    go_wp2_with (go_at_call 49; (with_reducible refine (W.out _).mono ?_); rintro e w1 ⟨rfl, hb1⟩)
    go_ret
    exact ⟨rfl, hb1⟩

end Go.Proofs.Ytcmehjjaologpaa
