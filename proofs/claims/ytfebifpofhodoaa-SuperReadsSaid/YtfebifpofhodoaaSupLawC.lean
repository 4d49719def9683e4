/-
  The walk of SuperReads.
-/
import Derived.Test.YtfebifpofhodoaaSupK
import Derived.Test.YtfebifpofhodoaaSupLives
namespace Go.Proofs.Ytfebifpofhodoaa
open Go.RowKit
set_option linter.unusedVariables false
set_option linter.unusedSimpArgs false

set_option maxRecDepth 100000 in
set_option maxHeartbeats 3200000 in
theorem superreads_walk (A : Option Addr) (n c : Nat) (l0 : List UInt8) (w : World) (h : Bytes8 w A n c l0) :
    Calls Try.prog 4 #[.slice A n c] w fun e w' => e = .returned (.bool true) ∧ Below w.heap.size w w' := by
  obtain ⟨q, l, hB, hq, hcase⟩ := cut_bytes 600 h
  have R1 : Hid (∀ W, Below w.heap.size w W → Calls Try.prog 11 #[.slice A q c] W fun e w' => e = .returned (.tuple #[supV (readS l), .int .i64 (readE l)]) ∧ Below w.heap.size w w') := fun W hW => (SRead_any A q c l W (hB.below hW)).mono fun e w' ⟨h1, h2⟩ => ⟨h1, hW.trans (h2.mono hW.size)⟩
  have R2 : Hid (∀ w1 f, Below w.heap.size w w1 → Calls Try.prog 12 #[.slice A q c] (w1.alloc (.cells (supC f) 23)) fun e w' => e = .returned (.tuple #[supV (readS l), .int .i64 (readE l)]) ∧ Below w.heap.size w w' ∧ ∀ f', SupAt (w'.alloc (.cells (supC f') 23)) w1.heap.size f) := fun w1 f hW => by
    have hal : Below w1.heap.size w1 (w1.alloc (.cells (supC f) 23)) := (Below.refl _ _).alloc (Nat.le_refl _) _
    have hnew := heap_alloc_new w1 (.cells (supC f) 23)
    have hall := hW.trans (hal.mono hW.size)
    refine (refRead_any A q c l _ (hB.below hall)).mono fun e w' ⟨h1, h2⟩ => ⟨h1, hall.trans (h2.mono hall.size), fun f' => ?_⟩
    have hs := (h2.block _ (block_lt hnew)).trans hnew
    exact (((Below.refl _ _).alloc (Nat.le_refl _) _ : Below w'.heap.size w' (w'.alloc (.cells (supC f') 23))).block _ (block_lt hs)).trans hs
  have LV : Hid (∀ W, Below w.heap.size w W → Calls Try.prog 10 #[] W fun e w' => e = .returned (.bool true) ∧ Below w.heap.size w w') := fun W hW => (lives6_any W).mono fun e w' ⟨h1, h2⟩ => ⟨h1, hW.trans (h2.mono hW.size)⟩
  clear h hB
  generalize readS l = f at *
  generalize readE l = x at *
  have R3 := Lib.hid (fun w1 hW => R2.out w1 f hW)
  clear R2
  simp only [supV, supC] at R1 R3
  rcases hcase with ⟨h1, h2, rfl⟩ | ⟨h1, rfl⟩
  all_goals go_enter Try.func4, Try.ntmps4
  all_goals go_wp2_with (first
    | (go_at_call 11; (with_reducible refine (R1.out _ (Below.refl _ _)).mono ?_); rintro e w1 ⟨rfl, hb1⟩)
    | (go_at_call 12; (with_reducible refine (R3.out _ hb1).mono ?_); rintro e w2 ⟨rfl, hb2, hs2⟩; have hs3 := hs2 f; have s0 := SupAt.cell (f := f) hs3 (k := 0) (by omega); have s1 := SupAt.cell (f := f) hs3 (k := 1) (by omega); have s2 := SupAt.cell (f := f) hs3 (k := 2) (by omega); have s3 := SupAt.cell (f := f) hs3 (k := 3) (by omega); have s4 := SupAt.cell (f := f) hs3 (k := 4) (by omega); have s5 := SupAt.cell (f := f) hs3 (k := 5) (by omega); have s6 := SupAt.cell (f := f) hs3 (k := 6) (by omega); have s7 := SupAt.cell (f := f) hs3 (k := 7) (by omega); have s8 := SupAt.cell (f := f) hs3 (k := 8) (by omega); have s9 := SupAt.cell (f := f) hs3 (k := 9) (by omega); have s10 := SupAt.cell (f := f) hs3 (k := 10) (by omega); clear hs2 hs3)
    | (go_at_call 10; (with_reducible refine (LV.out _ (by first | exact hb2.alloc hb2.size _ | exact hb2)).mono ?_); rintro e w7 ⟨rfl, hb7⟩))
  all_goals go_ret
  all_goals exact ⟨rfl, hb7⟩

end Go.Proofs.Ytfebifpofhodoaa
