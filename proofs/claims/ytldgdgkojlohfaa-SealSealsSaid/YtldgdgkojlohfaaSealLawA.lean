/-
  The walk of SealSeals.
-/
import Derived.Test.YtldgdgkojlohfaaSealI
import Derived.Test.YtldgdgkojlohfaaSealF
namespace Go.Proofs.Ytldgdgkojlohfaa
open Go.RowKit
set_option linter.unusedVariables false
set_option linter.unusedSimpArgs false

set_option maxRecDepth 100000 in
set_option maxHeartbeats 1600000 in
theorem seals_walk (k no : Int) (A : Option Addr) (n c : Nat) (l : List UInt8) (w : World) (_hk : -9223372036854775808 ≤ k ∧ k ≤ 9223372036854775807) (_hno : -9223372036854775808 ≤ no ∧ no ≤ 9223372036854775807) (h : Bytes8 w A n c l) :
    Calls Try.prog 3 #[.int .i64 k, .int .i64 no, .slice A n c] w fun e w' => e = .returned (.bool true) ∧ Below w.heap.size w w' := by
  obtain ⟨q, l', hB, hq, hcase⟩ := few_bytes 600 h
  have S1 := Lib.hid (Seal_any k no A q c l' w hB)
  have S2 := Lib.hid (fun W hW => refSeal_any k no A q c l' W hW)
  have T1 := Lib.hid (fun W => Salt_any k W)
  have T2 := Lib.hid (fun W => refSalt_any k W)
  have HB := Lib.hid hB
  clear h hB
  generalize sealE k no q = x at *
  generalize sealB k no l' = L at *
  generalize saltN k = y at *
  rcases hcase with ⟨h1, h2, rfl⟩ | ⟨h1, rfl⟩
  all_goals go_enter Try.func3, Try.ntmps3
  all_goals go_wp2_with (first
    | (go_at_call 7; (with_reducible refine (S1.out).mono ?_); rintro e w1 ⟨A1, m1, c1, rfl, hB1, hb1⟩; have HB1 := Lib.hid hB1; clear hB1)
    | (go_at_call 8; (with_reducible refine (S2.out _ (HB.out.below hb1)).mono ?_); rintro e w2 ⟨A2, m2, c2, rfl, hB2, hb2⟩; have cv1 := run_str (HB1.out.below hb2); have cv2 := run_str hB2; clear hB2)
    | (go_at_call 9; (with_reducible refine (T1.out _).mono ?_); rintro e w' ⟨rfl, rfl⟩)
    | (go_at_call 10; (with_reducible refine (T2.out _).mono ?_); rintro e w3 ⟨rfl, hb3⟩)
    | (go_at_call 11; refine (lives4_any _).mono ?_; rintro e w4 ⟨rfl, hb4⟩))
  all_goals go_ret
  all_goals
    have h12 := hb1.trans (hb2.mono hb1.size)
    have h13 := h12.trans (hb3.mono h12.size)
    exact ⟨rfl, h13.trans (hb4.mono h13.size)⟩

end Go.Proofs.Ytldgdgkojlohfaa
