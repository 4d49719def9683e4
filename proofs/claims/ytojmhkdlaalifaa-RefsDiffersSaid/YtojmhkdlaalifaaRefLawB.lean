/-
  The walk of RefsDiffers.
-/
import Derived.Test.YtojmhkdlaalifaaRefV
namespace Go.Proofs.Ytojmhkdlaalifaa
open Go.RowKit
set_option linter.unusedVariables false
set_option linter.unusedSimpArgs false

set_option maxRecDepth 100000 in
set_option maxHeartbeats 1600000 in
theorem refsdiffers_walk (A : Option Addr) (n c : Nat) (la : List Int) (B : Option Addr) (m d : Nat) (lb : List Int) (w : World) (h : Ints w A n c la) (_ha : ∀ x ∈ la, -9223372036854775808 ≤ x ∧ x ≤ 9223372036854775807) (h2 : Ints w B m d lb) (_hb : ∀ x ∈ lb, -9223372036854775808 ≤ x ∧ x ≤ 9223372036854775807) :
    Calls Try.prog 4 #[.slice A n c, .slice B m d] w fun e w' => e = .returned (.bool true) ∧ Below w.heap.size w w' := by
  have hle := h.le
  have hle2 := h2.le
  have LV : Hid (∀ W, Below w.heap.size w W → Calls Try.prog 9 #[] W fun e w' => e = .returned (.bool true) ∧ Below w.heap.size w w') := fun W hW => (lives12_any W).mono fun e w' ⟨h1, h2⟩ => ⟨h1, hW.trans (h2.mono hW.size)⟩
  by_cases hn : n ≤ 2000
  · by_cases hm : m ≤ 2000
    · have d1 : decide ((2000 : Int) < (n : Int)) = false := by simp; omega
      have d2 : decide ((2000 : Int) < (m : Int)) = false := by simp; omega
      obtain ⟨D, hD⟩ : ∃ D, difR12 la lb (mostR12 la lb) = D := ⟨_, rfl⟩
      have D1 : Hid (Calls Try.prog 21 #[.slice A n c, .slice B m d] w fun e w' => ∃ A' c', e = .returned (.slice A' D.length c') ∧ Ints w' A' D.length c' D ∧ Below w.heap.size w w') := (Differ12_any w h h2 (by omega) (by omega)).mono fun e w' ⟨A', k, c', e1, e2, e3, _⟩ => by
        rw [hD] at e2
        obtain rfl := e2.len
        exact ⟨A', c', e1, e2, e3⟩
      have D2 : Hid (∀ W, Below w.heap.size w W → Calls Try.prog 22 #[.slice A n c, .slice B m d] W fun e w' => ∃ A' c', e = .returned (.slice A' D.length c') ∧ Ints w' A' D.length c' D ∧ Below w.heap.size w w' ∧ Below W.heap.size W w') := fun W hW => (refDiffer12_any W (h.below hW) (h2.below hW) (by omega) (by omega)).mono fun e w' ⟨A', k, c', e1, e2, e3, _⟩ => by
        rw [hD] at e2
        obtain rfl := e2.len
        exact ⟨A', c', e1, e2, hW.trans (e3.mono hW.size), e3⟩
      have D3 : Hid (∀ W, Below w.heap.size w W → Calls Try.prog 21 #[.slice A n c, .slice A n c] W fun e w' => ∃ A' c', e = .returned (.slice A' 0 c') ∧ Below w.heap.size w w') := fun W hW => (Differ12_any W (h.below hW) (h.below hW) (by omega) (by omega)).mono fun e w' ⟨A', k, c', e1, e2, e3, _⟩ => by
        rw [difR12_same] at e2
        obtain rfl : 0 = k := e2.len
        exact ⟨A', c', e1, hW.trans (e3.mono hW.size)⟩
      have SM : Hid (∀ W A1 c1 A2 c2, Below w.heap.size w W → Ints W A1 D.length c1 D → Ints W A2 D.length c2 D → Calls Try.prog 15 #[.slice A1 D.length c1, .slice A2 D.length c2] W fun e w' => e = .returned (.bool true) ∧ Below w.heap.size w w') := fun W A1 c1 A2 c2 hW h1 h2 => (Same_same A1 A2 _ c1 c2 D W h1 h2).mono fun e w' ⟨h3, h4⟩ => ⟨h3, hW.trans (h4.mono hW.size)⟩
      clear h h2 hD
      generalize D.length = q at *
      go_enter Try.func4, Try.ntmps4
      go_wp2_with (first
        | (go_at_call 21; first
            | ((with_reducible refine (D1.out).mono ?_); rintro e w1 ⟨A1, c1, rfl, hI1, hb1⟩; clear D1)
            | ((with_reducible refine (D3.out _ hb3).mono ?_); rintro e w4 ⟨A4, c4, rfl, hb4⟩))
        | (go_at_call 22; (with_reducible refine (D2.out _ hb1).mono ?_); rintro e w2 ⟨A2, c2, rfl, hI2, hb2, hk2⟩; have HI1 := Lib.hid (hI1.below hk2); have HI2 := Lib.hid hI2; clear hI1 hI2 hk2)
        | (go_at_call 15; (with_reducible refine (SM.out _ _ _ _ _ hb2 HI1.out HI2.out).mono ?_); rintro e w3 ⟨rfl, hb3⟩)
        | (go_at_call 9; (with_reducible refine (LV.out _ hb4).mono ?_); rintro e w5 ⟨rfl, hb5⟩))
      go_ret
      exact ⟨rfl, hb5⟩
    · have d1 : decide ((2000 : Int) < (n : Int)) = false := by simp; omega
      have d2 : decide ((2000 : Int) < (m : Int)) = true := by simp; omega
      clear h h2
      go_enter Try.func4, Try.ntmps4
      go_wp2_with (go_at_call 9; (with_reducible refine (LV.out _ (Below.refl _ _)).mono ?_); rintro e w5 ⟨rfl, hb5⟩)
      go_ret
      exact ⟨rfl, hb5⟩
  · have d1 : decide ((2000 : Int) < (n : Int)) = true := by simp; omega
    clear h h2
    go_enter Try.func4, Try.ntmps4
    go_wp2_with (go_at_call 9; (with_reducible refine (LV.out _ (Below.refl _ _)).mono ?_); rintro e w5 ⟨rfl, hb5⟩)
    go_ret
    exact ⟨rfl, hb5⟩

end Go.Proofs.Ytojmhkdlaalifaa
