/-
  Layer 13: lives.
-/
import Derived.Test.YtkodddklomegfaaSpnF
namespace Go.Proofs.Ytkodddklomegfaa
open Go.RowKit
set_option linter.unusedVariables false
set_option linter.unusedSimpArgs false

theorem lv_child13 (w W : World) (g : Nat) (hg : W.heap.size = g) (hW : Below w.heap.size w W) (i a b : Int) (h1 : ch13 0 10 [2, 5] i = (a, b)) (h2 : chE13 0 10 [2, 5] i = 0) :
    Calls Try.prog 12 #[spnV 0 10, .slice (some ⟨g, 0, none⟩) 2 2, .int .i64 i] (W.alloc (.cells #[.int .i64 2, .int .i64 5] 3)) fun e w' => e = .returned (.tuple #[spnV a b, .int .i64 0]) ∧ Below w.heap.size w w' ∧ Below W.heap.size W w' := by
  subst hg
  have ha := (Below.refl W.heap.size W).alloc (Nat.le_refl _) (.cells #[.int .i64 2, .int .i64 5] 3)
  have hI : Ints (W.alloc (.cells #[.int .i64 2, .int .i64 5] 3)) (some ⟨W.heap.size, 0, none⟩) 2 2 [2, 5] := ⟨rfl, Nat.le_refl _, by omega, Row.of_block (heap_alloc_new W _)⟩
  have := Child_any13 0 10 i _ hI
  rw [h1, h2] at this
  exact this.mono fun e w' ⟨h3, h4⟩ => ⟨h3, hW.trans ((ha.trans (h4.mono ha.size)).mono hW.size), ha.trans (h4.mono ha.size)⟩

set_option maxRecDepth 100000 in
set_option maxHeartbeats 1600000 in
theorem lives13_any (w : World) : Calls Try.prog 5 #[] w fun e w' => e = .returned (.bool true) ∧ Below w.heap.size w w' := by
  have C0 := Lib.hid (lv_child13 w w _ rfl (Below.refl _ _) 0 2 5 (by decide) (by decide))
  have C1 : Hid (∀ W g, W.heap.size = g → Below w.heap.size w W → _) := fun W g hg hW => lv_child13 w W g hg hW 1 5 10 (by decide) (by decide)
  have AL := Lib.hid All_any13
  go_enter Try.func5, Try.ntmps5
  go_wp2_with (first
    | (go_at_call 12; (with_reducible refine (C0.out).mono ?_); rintro e w1 ⟨rfl, hb1, _⟩; have hA1 := SpnAt.new w1 2 5; have hbA := hb1.alloc hb1.size (.cells #[.int .i64 2, .int .i64 5] 23); clear C0)
    | (go_at_call 12; (with_reducible refine (C1.out _ _ (World.size_alloc _ _) hbA).mono ?_); rintro e w2 ⟨rfl, hb2, hk2⟩; have hA2 := hA1.later hk2; have hA3 := hA2.later ((Below.refl _ _).alloc (Nat.le_refl _) (.cells #[.int .i64 5, .int .i64 10] 23)); have a0 := hA3.c0; have a1 := hA3.c1; have hbB := hb2.alloc hb2.size (.cells #[.int .i64 5, .int .i64 10] 23); clear hA1 hA2)
    | (go_at_call 16; (with_reducible refine (AL.out _).mono ?_); rintro e w3 ⟨rfl, hb3⟩))
  go_ret
  exact ⟨rfl, hbB.trans (hb3.mono hbB.size)⟩

end Go.Proofs.Ytkodddklomegfaa
