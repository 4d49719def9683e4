/-
  The walk of TallTells.
-/
import Derived.Test.YtlobmefcpjjbcaaTalD
namespace Go.Proofs.Ytlobmefcpjjbcaa
open Go.RowKit
set_option linter.unusedVariables false
set_option linter.unusedSimpArgs false

/-- a later world, and a slice in it -/
def Bw15 (w W : World) : Prop := Below w.heap.size w W
theorem Bw15.later {w W W' : World} (h : Bw15 w W) (hb : Below W.heap.size W W') : Bw15 w W' := Below.trans h (hb.mono (Below.size h))

set_option maxRecDepth 100000 in
set_option maxHeartbeats 1600000 in
theorem talltells_walk (tree n most : Int) (w : World) (ht : -9223372036854775808 ≤ tree ∧ tree ≤ 9223372036854775807) (_hn : -9223372036854775808 ≤ n ∧ n ≤ 9223372036854775807) (hm : -9223372036854775808 ≤ most ∧ most ≤ 9223372036854775807) :
    Calls Try.prog 3 #[.int .i64 tree, .int .i64 n, .int .i64 most] w fun e w' => e = .returned (.bool true) ∧ Below w.heap.size w w' := by
  have hW0 : Bw15 w w := Below.refl _ _
  obtain ⟨m, hmx⟩ : ∃ m, capN (widN tree true) = m := ⟨_, rfl⟩
  have LP : Hid (∀ W, Bw15 w W → Calls Try.prog 7 #[.int .i64 tree, .int .i64 n] W fun e w' => ∃ A c, e = .returned (.slice A (levL15 m n).length c) ∧ Hid (Ints w' A (levL15 m n).length c (levL15 m n)) ∧ Bw15 w w') := fun W hW => (Levels_any15 tree n m hmx W).mono fun e w' ⟨A, c, h1, h2, h3⟩ => ⟨A, c, h1, h2, hW.later h3⟩
  have LR : Hid (∀ W A c, Bw15 w W → Hid (Ints W A (levL15 m n).length c (levL15 m n)) → Calls Try.prog 8 #[.int .i64 tree, .int .i64 n] W fun e w' => ∃ A2 c2, e = .returned (.slice A2 (levL15 m n).length c2) ∧ Hid (Ints w' A (levL15 m n).length c (levL15 m n)) ∧ Hid (Ints w' A2 (levL15 m n).length c2 (levL15 m n)) ∧ Bw15 w w') := fun W A c hW hI => (refLevels_any15 tree n m ht hmx W).mono fun e w' ⟨A2, c2, h1, h2, h3⟩ => ⟨A2, c2, h1, hI.out.below h3, h2, hW.later h3⟩
  have SM : Hid (∀ W A A2 (k c c2 : Nat) (l : List Int), Bw15 w W → Hid (Ints W A k c l) → Hid (Ints W A2 k c2 l) → Calls Try.prog 6 #[.slice A k c, .slice A2 k c2] W fun e w' => e = .returned (.bool true) ∧ Bw15 w w') := fun W A A2 k c c2 l hW h1 h2 => (Same_same A A2 k c c2 l W h1.out h2.out).mono fun e w' ⟨h3, h4⟩ => ⟨h3, hW.later h4⟩
  have NP : Hid (∀ W, Bw15 w W → Calls Try.prog 9 #[.int .i64 tree, .int .i64 n] W fun e w' => e = .returned (.int .i64 (levL15 m n).sum) ∧ Bw15 w w') := fun W hW => (Nodes_any15 tree n m hmx W).mono fun e w' ⟨h1, h3⟩ => ⟨h1, hW.later h3⟩
  have NR : Hid (∀ W, Bw15 w W → Calls Try.prog 10 #[.int .i64 tree, .int .i64 n] W fun e w' => e = .returned (.int .i64 (levL15 m n).sum) ∧ Bw15 w w') := fun W hW => (refNodes_any15 tree n m ht hmx W).mono fun e w' ⟨h1, h3⟩ => ⟨h1, hW.later h3⟩
  have SP : Hid (∀ W, Bw15 w W → Calls Try.prog 11 #[.int .i64 n, .int .i64 most] W fun e w' => ∃ A c, e = .returned (.slice A (sizL15 n most).length c) ∧ Hid (Ints w' A (sizL15 n most).length c (sizL15 n most)) ∧ Bw15 w w') := fun W hW => (Sizes_any15 n most W hm.2).mono fun e w' ⟨A, c, h1, h2, h3⟩ => ⟨A, c, h1, h2, hW.later h3⟩
  have SR : Hid (∀ W A c, Bw15 w W → Hid (Ints W A (sizL15 n most).length c (sizL15 n most)) → Calls Try.prog 12 #[.int .i64 n, .int .i64 most] W fun e w' => ∃ A2 c2, e = .returned (.slice A2 (sizL15 n most).length c2) ∧ Hid (Ints w' A (sizL15 n most).length c (sizL15 n most)) ∧ Hid (Ints w' A2 (sizL15 n most).length c2 (sizL15 n most)) ∧ Bw15 w w') := fun W A c hW hI => (refSizes_any15 n most W hm.2).mono fun e w' ⟨A2, c2, h1, h2, h3⟩ => ⟨A2, c2, h1, hI.out.below h3, h2, hW.later h3⟩
  have LI : Hid (∀ W, Bw15 w W → Calls Try.prog 13 #[] W fun e w' => e = .returned (.bool true) ∧ Bw15 w w') := fun W hW => (lives15_any W).mono fun e w' ⟨h1, h3⟩ => ⟨h1, hW.later h3⟩
  clear hmx ht hm _hn
  generalize levL15 m n = L at *
  generalize sizL15 n most = Z at *
  generalize L.length = nL at *
  generalize Z.length = nZ at *
  generalize L.sum = sL at *
  go_enter Try.func3, Try.ntmps3
  go_wp2_with (first
    | (go_at_call 7; (with_reducible refine (LP.out _ hW0).mono ?_); rintro e w1 ⟨A1, c1, rfl, hI1, hW1⟩)
    | (go_at_call 8; (with_reducible refine (LR.out _ _ _ hW1 hI1).mono ?_); rintro e w2 ⟨A2, c2, rfl, hI1, hI2, hW2⟩)
    | (go_at_call 6; (with_reducible refine (SM.out _ _ _ _ _ _ _ hW2 hI1 hI2).mono ?_); rintro e w3 ⟨rfl, hW3⟩)
    | (go_at_call 9; (with_reducible refine (NP.out _ hW3).mono ?_); rintro e w4 ⟨rfl, hW4⟩)
    | (go_at_call 10; (with_reducible refine (NR.out _ hW4).mono ?_); rintro e w5 ⟨rfl, hW5⟩)
    | (go_at_call 11; (with_reducible refine (SP.out _ hW5).mono ?_); rintro e w6 ⟨A6, c6, rfl, hI6, hW6⟩)
    | (go_at_call 12; (with_reducible refine (SR.out _ _ _ hW6 hI6).mono ?_); rintro e w7 ⟨A7, c7, rfl, hI6, hI7, hW7⟩)
    | (go_at_call 6; (with_reducible refine (SM.out _ _ _ _ _ _ _ hW7 hI6 hI7).mono ?_); rintro e w8 ⟨rfl, hW8⟩)
    | (go_at_call 13; (with_reducible refine (LI.out _ hW8).mono ?_); rintro e w9 ⟨rfl, hW9⟩))
  go_ret
  exact ⟨rfl, hW9⟩

end Go.Proofs.Ytlobmefcpjjbcaa
