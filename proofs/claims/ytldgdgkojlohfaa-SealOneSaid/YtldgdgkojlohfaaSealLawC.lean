/-
  The walk of SealOne.
-/
import Derived.Test.YtldgdgkojlohfaaSealI
import Derived.Test.YtldgdgkojlohfaaSealC
namespace Go.Proofs.Ytldgdgkojlohfaa
open Go.RowKit
set_option linter.unusedVariables false
set_option linter.unusedSimpArgs false

set_option maxRecDepth 100000 in
set_option maxHeartbeats 1600000 in
theorem one_walk (A : Option Addr) (n c : Nat) (l : List UInt8) (k no : Int) (w : World) (h : Bytes8 w A n c l) (_hk : -9223372036854775808 ≤ k ∧ k ≤ 9223372036854775807) (_hno : -9223372036854775808 ≤ no ∧ no ≤ 9223372036854775807) :
    Calls Try.prog 6 #[.slice A n c, .int .i64 k, .int .i64 no] w fun e w' => e = .returned (.bool true) ∧ Below w.heap.size w w' := by
  obtain ⟨q, l', hB, hq, hcase⟩ := few_bytes 600 h
  have HB := Lib.hid hB
  by_cases h0 : openE l' k no = 0
  · obtain ⟨hs, he⟩ := seal_open h0
    have S1 : Hid (Calls Try.prog 12 #[.slice A q c, .int .i64 k, .int .i64 no] w fun e w' => ∃ A' m c', e = .returned (.tuple #[.slice A' m c', .int .i64 0]) ∧ Bytes8 w' A' m c' (openB l' k no) ∧ Below w.heap.size w w') := by
      have := Open_any A q c l' k no w hB
      rw [h0] at this
      exact this
    have S2 : Hid (∀ W A' m c', Bytes8 W A' m c' (openB l' k no) → Calls Try.prog 7 #[.int .i64 k, .int .i64 no, .slice A' m c'] W fun e w' => ∃ A2 m2 c2, e = .returned (.tuple #[.slice A2 m2 c2, .int .i64 0]) ∧ Bytes8 w' A2 m2 c2 l' ∧ Below W.heap.size W w') := fun W A' m c' hW => by
      have := Seal_any k no A' m c' _ W hW
      rw [← hW.len, hs, he] at this
      rwa [hW.len] at this
    clear h hB hs he h0
    generalize openB l' k no = L at *
    rcases hcase with ⟨h1, h2, rfl⟩ | ⟨h1, rfl⟩
    all_goals go_enter Try.func6, Try.ntmps6
    all_goals go_wp2_with (first
      | (go_at_call 12; (with_reducible refine (S1.out).mono ?_); rintro e w1 ⟨A1, m1, c1, rfl, hB1, hb1⟩; have HB1 := Lib.hid hB1; clear hB1)
      | (go_at_call 7; (with_reducible refine (S2.out _ _ _ _ HB1.out).mono ?_); rintro e w2 ⟨A2, m2, c2, rfl, hB2, hb2⟩; have cv1 := run_str ((HB.out.below hb1).below hb2); have cv2 := run_str hB2; clear hB2)
      | (go_at_call 11; refine (lives4_any _).mono ?_; rintro e w4 ⟨rfl, hb4⟩))
    all_goals go_ret
    all_goals
      have h12 := hb1.trans (hb2.mono hb1.size)
      exact ⟨rfl, h12.trans (hb4.mono h12.size)⟩
  · have S1 : Hid (Calls Try.prog 12 #[.slice A q c, .int .i64 k, .int .i64 no] w fun e w' => ∃ A' c', e = .returned (.tuple #[.slice A' 0 c', .int .i64 (openE l' k no)]) ∧ Below w.heap.size w w') :=
      (Open_any A q c l' k no w hB).mono fun e w' ⟨A', m, c', h1, h2, h3⟩ => by
        have := h2.len
        rw [openB, if_neg h0] at this
        obtain rfl : 0 = m := this
        exact ⟨A', c', h1, h3⟩
    generalize openE l' k no = x at *
    have hq0 : (x != 0) = true := by simpa using h0
    clear h hB h0 HB
    rcases hcase with ⟨h1, h2, rfl⟩ | ⟨h1, rfl⟩
    all_goals go_enter Try.func6, Try.ntmps6
    all_goals go_wp2_with (first
      | (go_at_call 12; (with_reducible refine (S1.out).mono ?_); rintro e w1 ⟨A1, c1, rfl, hb1⟩)
      | (go_at_call 11; refine (lives4_any _).mono ?_; rintro e w4 ⟨rfl, hb4⟩))
    all_goals go_ret
    all_goals exact ⟨rfl, hb1.trans (hb4.mono hb1.size)⟩

end Go.Proofs.Ytldgdgkojlohfaa
