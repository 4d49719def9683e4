/-
  The walk of CrcSums.
-/
import Derived.Test.YtjgbojgabgffgaaCrcD
import Derived.Deep.QuietTactic
import Derived.BigQuiet
import Derived.Deep.RegionWith
namespace Go.Proofs.Ytjgbojgabgffgaa
open Go.RowKit
set_option linter.unusedVariables false
set_option linter.unusedSimpArgs false

theorem Sum_one (A : Option Addr) (n c : Nat) (l : List UInt8) (w : World) (h : Bytes8 w A n c l) :
    Calls Try.prog 8 #[.slice (some ⟨w.heap.size, 0, none⟩) 1 1] (w.alloc (.cells #[.slice A n c] 22)) fun e w' => e = .returned (.int .i64 (Crc.sum l : Int)) ∧ Below w.heap.size w w' := by
  refine (Sum_any _ 1 1 [l] _ (Pcs.one h _)).mono ?_
  rintro e w' ⟨rfl, hb⟩
  exact ⟨by simp, ((Below.refl _ _).alloc (Nat.le_refl _) _).trans (hb.mono (by simp))⟩

theorem Sum_none (w : World) :
    Calls Try.prog 8 #[.slice none 0 0] w fun e w' => e = .returned (.int .i64 0) ∧ Below w.heap.size w w' := by
  refine (Sum_any _ 0 0 [] _ (Pcs.nil _)).mono ?_
  rintro e w' ⟨rfl, hb⟩
  exact ⟨ret_int (by rw [List.flatten_nil, Crc.sum_nil]; rfl), hb⟩

/-- what More answers -/
theorem More_both (s : Int) (A : Option Addr) (n c : Nat) (l : List UInt8) :
    ∃ y : Int, (∀ w, Bytes8 w A n c l → Calls Try.prog 10 #[.int .i64 s, .slice A n c] w fun e w' => e = .returned (.int .i64 y) ∧ Below w.heap.size w w') ∧
      ∀ w, Bytes8 w A n c l → Calls Try.prog 11 #[.int .i64 s, .slice A n c] w fun e w' => e = .returned (.int .i64 y) ∧ w = w' := by
  by_cases hs : s < 0 ∨ 4294967295 < s
  · refine ⟨0, fun w h => (More_bad s A n c w hs).mono ?_, fun w h => refMore_bad s A n c w hs⟩
    rintro e w' ⟨rfl, rfl⟩
    exact ⟨rfl, Below.refl _ _⟩
  · obtain ⟨k, rfl⟩ := Int.eq_ofNat_of_zero_le (show 0 ≤ s by omega)
    exact ⟨_, fun w h => More_good k A n c l w h (by omega), fun w h => refMore_good k A n c l w h (by omega)⟩

set_option maxRecDepth 100000 in
set_option maxHeartbeats 800000 in
theorem sums_walk (A : Option Addr) (n c : Nat) (l : List UInt8) (s : Int) (w : World) (h : Bytes8 w A n c l) (_hs : -9223372036854775808 ≤ s ∧ s ≤ 9223372036854775807) :
    Calls Try.prog 3 #[.slice A n c, .int .i64 s] w fun e w' => e = .returned (.bool true) ∧ Below w.heap.size w w' := by
  have hm := h.le
  by_cases hn : 3000 < n
  · clear h
    go_enter Try.func3, Try.ntmps3
    go_wp2_with (go_at_call 7; refine (lives_any _).mono ?_; rintro e w1 ⟨rfl, hb1⟩)
    go_ret
    exact ⟨rfl, hb1⟩
  · obtain ⟨y, M1, M2⟩ := More_both s A n c l
    have S1 := Lib.hid (Sum_one A n c l)
    have S2 := Lib.hid (refSum_any A n c l)
    have HM1 := Lib.hid M1
    have HM2 := Lib.hid M2
    have HB := Lib.hid h
    generalize Crc.sum l = x at *
    clear h M1 M2
    go_enter Try.func3, Try.ntmps3
    go_wp2_with (first
      | (go_at_call 9; (with_reducible refine (S2.out _ (HB.out.below hb1)).mono ?_); rintro e w' ⟨rfl, rfl⟩)
      | (go_at_call 11; (with_reducible refine (HM2.out _ (HB.out.below (hb1.trans (hb2.mono hb1.size)))).mono ?_); rintro e w' ⟨rfl, rfl⟩)
      | (go_at_call 10; (with_reducible refine (HM1.out _ (HB.out.below hb1)).mono ?_); rintro e w2 ⟨rfl, hb2⟩)
      | (go_at_call 8; (with_reducible refine (S1.out _ HB.out).mono ?_); rintro e w1 ⟨rfl, hb1⟩)
      | (go_at_call 8; (with_reducible refine (Sum_none _).mono ?_); rintro e w3 ⟨rfl, hb3⟩)
      | (go_at_call 7; refine (lives_any _).mono ?_; rintro e w4 ⟨rfl, hb4⟩))
    go_ret
    exact ⟨rfl, (hb1.trans (hb2.mono hb1.size)).trans ((hb3.trans (hb4.mono hb3.size)).mono (Nat.le_trans hb1.size hb2.size))⟩

end Go.Proofs.Ytjgbojgabgffgaa
