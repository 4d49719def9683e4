/-
  The walk of RefsNobody.
-/
import Derived.Test.YtojmhkdlaalifaaRefV
namespace Go.Proofs.Ytojmhkdlaalifaa
open Go.RowKit
set_option linter.unusedVariables false
set_option linter.unusedSimpArgs false

/-- all below as it was; a Refs that New did not return, in its variable -/
structure ZrS (w W : World) : Prop where
  bel : Below w.heap.size w W
  zero : W.cell? ⟨w.heap.size, 0, none⟩ = some (.pointer none)
theorem ZrS.later {w W W' : World} (h : ZrS w W) (hb : Below W.heap.size W W') : ZrS w W' := ⟨h.bel.trans (hb.mono h.bel.size), (hb.cell (p := ⟨w.heap.size, 0, none⟩) (cell_lt h.zero)).trans h.zero⟩
theorem ZrS.start (w : World) : ZrS w (w.alloc (.cells #[.pointer none, .slice none 0 0] 46)) :=
  ⟨(Below.refl _ _).alloc (Nat.le_refl _) _, by rw [cell_of_row _ _ _ _ _ _ (heap_alloc_new w _)]; rfl⟩

section
variable {w : World} (W : World) (h : ZrS w W) {v : Value} (hv : v = .pointer none ∨ v = .pointer (some ⟨w.heap.size, 0, none⟩))
include h hv
theorem zr_own : Own12 W v none 0 [] := by
  rcases hv with rfl | rfl
  · exact Own12.none_ W
  · exact Own12.zero h.zero
theorem zr_len : Calls Try.prog 14 #[v] W fun e w' => e = .returned (.int .i64 0) ∧ W = w' := Len12_any W (zr_own W h hv)
theorem zr_count (k : Int) : Calls Try.prog 12 #[v, .int .i64 k] W fun e w' => e = .returned (.int .i64 0) ∧ W = w' := by
  have := Count12_any k W (zr_own W h hv)
  rwa [show cntAt12 [] k = 0 by unfold cntAt12; split <;> simp] at this
theorem zr_total : Calls Try.prog 18 #[v] W fun e w' => e = .returned (.int .i64 0) ∧ W = w' := Total12_any W (zr_own W h hv) (fun k _ => by simp [sumR12])
theorem zr_list : Calls Try.prog 16 #[v] W fun e w' => ∃ A c, e = .returned (.slice A 0 c) ∧ ZrS w w' := (List12_any W (zr_own W h hv)).mono fun e w' ⟨A, c, h1, _, h3, _⟩ => ⟨A, c, h1, h.later h3⟩
theorem zr_from : Calls Try.prog 19 #[v, .int .i64 0] W fun e w' => ∃ A c, e = .returned (.slice A 0 c) ∧ ZrS w w' := (From12_any 0 W (zr_own W h hv)).mono fun e w' ⟨A, k, c, h1, h2, h3, _⟩ => by
  obtain rfl : 0 = k := h2.len
  exact ⟨A, c, h1, h.later h3⟩
end
theorem zr_add (k : Int) {w : World} (W : World) (h : ZrS w W) : Calls Try.prog 10 #[.pointer (some ⟨w.heap.size, 0, none⟩), .int .i64 k] W fun e w' => e = .returned (.tuple #[.int .i64 0, .int .i64 3]) ∧ W = w' :=
  Add12_bad k W (Own12.zero h.zero) (by unfold hasB12; by_cases h0 : 0 ≤ k <;> simp [h0])

set_option maxRecDepth 100000 in
set_option maxHeartbeats 1600000 in
theorem refsnobody_walk (k : Int) (w : World) (_hk : -9223372036854775808 ≤ k ∧ k ≤ 9223372036854775807) :
    Calls Try.prog 6 #[.int .i64 k] w fun e w' => e = .returned (.bool true) ∧ Below w.heap.size w w' := by
  have hS0 := ZrS.start w
  have AN := Lib.hid (Add12_nil k)
  have AZ : Hid (∀ W, ZrS w W → _) := fun W h => zr_add k W h
  have L1 : Hid (∀ W, ZrS w W → _) := fun W h => zr_len W h (.inl rfl)
  have L2 : Hid (∀ W, ZrS w W → _) := fun W h => zr_len W h (.inr rfl)
  have C1 : Hid (∀ W, ZrS w W → _) := fun W h => zr_count W h (.inl rfl) k
  have C2 : Hid (∀ W, ZrS w W → _) := fun W h => zr_count W h (.inr rfl) k
  have T1 : Hid (∀ W, ZrS w W → _) := fun W h => zr_total W h (.inl rfl)
  have T2 : Hid (∀ W, ZrS w W → _) := fun W h => zr_total W h (.inr rfl)
  have I1 : Hid (∀ W, ZrS w W → _) := fun W h => zr_list W h (.inl rfl)
  have I2 : Hid (∀ W, ZrS w W → _) := fun W h => zr_list W h (.inr rfl)
  have F1 : Hid (∀ W, ZrS w W → _) := fun W h => zr_from W h (.inl rfl)
  have F2 : Hid (∀ W, ZrS w W → _) := fun W h => zr_from W h (.inr rfl)
  have LV : Hid (∀ W, ZrS w W → Calls Try.prog 9 #[] W fun e w' => e = .returned (.bool true) ∧ Below w.heap.size w w') := fun W h => (lives12_any W).mono fun e w' ⟨h1, h2⟩ => ⟨h1, h.bel.trans (h2.mono h.bel.size)⟩
  go_enter Try.func6, Try.ntmps6
  go_wp2_with (first
    | (go_at_call 10; first
        | ((with_reducible refine (AN.out _).mono ?_); rintro e w' ⟨rfl, rfl⟩)
        | ((with_reducible refine (AZ.out _ hS0).mono ?_); rintro e w' ⟨rfl, rfl⟩))
    | (go_at_call 14; first
        | ((with_reducible refine (L1.out _ hS0).mono ?_); rintro e w' ⟨rfl, rfl⟩)
        | ((with_reducible refine (L2.out _ hS0).mono ?_); rintro e w' ⟨rfl, rfl⟩))
    | (go_at_call 12; first
        | ((with_reducible refine (C1.out _ hS0).mono ?_); rintro e w' ⟨rfl, rfl⟩)
        | ((with_reducible refine (C2.out _ hS0).mono ?_); rintro e w' ⟨rfl, rfl⟩))
    | (go_at_call 18; first
        | ((with_reducible refine (T1.out _ hS0).mono ?_); rintro e w' ⟨rfl, rfl⟩)
        | ((with_reducible refine (T2.out _ hS0).mono ?_); rintro e w' ⟨rfl, rfl⟩))
    | (go_at_call 16; first
        | ((with_reducible refine (I1.out _ hS0).mono ?_); rintro e w1 ⟨A1, c1, rfl, hS1⟩)
        | ((with_reducible refine (I2.out _ hS1).mono ?_); rintro e w2 ⟨A2, c2, rfl, hS2⟩))
    | (go_at_call 19; first
        | ((with_reducible refine (F1.out _ hS2).mono ?_); rintro e w3 ⟨A3, c3, rfl, hS3⟩)
        | ((with_reducible refine (F2.out _ hS3).mono ?_); rintro e w4 ⟨A4, c4, rfl, hS4⟩))
    | (go_at_call 9; (with_reducible refine (LV.out _ hS4).mono ?_); rintro e w5 ⟨rfl, hb5⟩))
  go_ret
  exact ⟨rfl, hb5⟩

end Go.Proofs.Ytojmhkdlaalifaa
