/-
  The walk of SealOpens.
-/
import Derived.Test.YtldgdgkojlohfaaSealI
import Derived.Test.YtldgdgkojlohfaaSealH
namespace Go.Proofs.Ytldgdgkojlohfaa
open Go.RowKit
set_option linter.unusedVariables false
set_option linter.unusedSimpArgs false

set_option maxRecDepth 100000 in
set_option maxHeartbeats 1600000 in
theorem opens_walk (A : Option Addr) (n c : Nat) (l : List UInt8) (k no : Int) (w : World) (h : Bytes8 w A n c l) (_hk : -9223372036854775808 ≤ k ∧ k ≤ 9223372036854775807) (_hno : -9223372036854775808 ≤ no ∧ no ≤ 9223372036854775807) :
    Calls Try.prog 4 #[.slice A n c, .int .i64 k, .int .i64 no] w fun e w' => e = .returned (.bool true) ∧ Below w.heap.size w w' := by
  obtain ⟨q, l', hB, hq, hcase⟩ := few_bytes 600 h
  have S1 := Lib.hid (Open_any A q c l' k no w hB)
  have S2 := Lib.hid (fun W hW => refOpen_any A q c l' k no W hW)
  have T1 := Lib.hid (fun W hW => Which_any A q c l' W hW)
  have T2 := Lib.hid (fun W hW => refWhich_any A q c l' W hW)
  have HB := Lib.hid hB
  clear h hB
  generalize openE l' k no = x at *
  generalize openB l' k no = L at *
  generalize whichK l' = y1 at *
  generalize whichN l' = y2 at *
  generalize whichB l' = y3 at *
  rcases hcase with ⟨h1, h2, rfl⟩ | ⟨h1, rfl⟩
  all_goals go_enter Try.func4, Try.ntmps4
  all_goals go_wp2_with (first
    | (go_at_call 12; (with_reducible refine (S1.out).mono ?_); rintro e w1 ⟨A1, m1, c1, rfl, hB1, hb1⟩; have HB1 := Lib.hid hB1; have HW1 := Lib.hid (HB.out.below hb1); clear hB1)
    | (go_at_call 13; (with_reducible refine (S2.out _ HW1.out).mono ?_); rintro e w2 ⟨A2, m2, c2, rfl, hB2, hb2⟩; have HB2 := Lib.hid hB2; have HW2 := Lib.hid (HW1.out.below hb2); clear hB2)
    | (go_at_call 14; (with_reducible refine (T1.out _ HW2.out).mono ?_); rintro e w3 ⟨rfl, hb3⟩; have HW3 := Lib.hid (HW2.out.below hb3))
    | (go_at_call 15; (with_reducible refine (T2.out _ HW3.out).mono ?_); rintro e w4 ⟨rfl, hb4⟩; have cv1 := run_str (((HB1.out.below hb2).below hb3).below hb4); have cv2 := run_str ((HB2.out.below hb3).below hb4))
    | (go_at_call 11; refine (lives4_any _).mono ?_; rintro e w5 ⟨rfl, hb5⟩))
  all_goals go_ret
  all_goals
    have h12 := hb1.trans (hb2.mono hb1.size)
    have h13 := h12.trans (hb3.mono h12.size)
    have h14 := h13.trans (hb4.mono h13.size)
    exact ⟨rfl, h14.trans (hb5.mono h14.size)⟩

end Go.Proofs.Ytldgdgkojlohfaa
