/-
  The walk of ImageNobody.
-/
import Derived.Test.YtadoclbalcecpaaImgD
namespace Go.Proofs.Ytadoclbalcecpaa
open Go.RowKit
set_option linter.unusedVariables false
set_option linter.unusedSimpArgs false

/-- an Image that no constructor returned lies at block p -/
def Zero (w : World) (p : Nat) : Prop := w.cell? ⟨p, 0, none⟩ = some (.pointer none)
theorem Zero.later {w w' : World} {p : Nat} (h : Zero w p) (hb : Below w.heap.size w w') : Zero w' p := (hb.cell (p := ⟨p, 0, none⟩) (cell_lt h)).trans h

theorem Blocks_zero (p : Nat) (w : World) (h : Zero w p) : Calls Try.prog 16 #[.pointer (some ⟨p, 0, none⟩)] w fun e w' => e = .returned (.int .i64 0) ∧ w = w' := Blocks_other p w h
theorem Bytes_zero (p : Nat) (w : World) (h : Zero w p) : Calls Try.prog 17 #[.pointer (some ⟨p, 0, none⟩)] w fun e w' => ∃ A, e = .returned (.slice A 0 0) ∧ Below w.heap.size w w' := Bytes_other p w h
theorem Copy_zero (p : Nat) (w : World) (h : Zero w p) : Calls Try.prog 21 #[.pointer (some ⟨p, 0, none⟩)] w fun e w' => ∃ p' g', e = .returned (.pointer (some ⟨p', 0, none⟩)) ∧ Img w' w.heap.size p' g' [] ∧ Below w.heap.size w w' := Copy_other p w h
theorem Read_zero (p : Nat) (k : Int) (w : World) (h : Zero w p) : Calls Try.prog 14 #[.pointer (some ⟨p, 0, none⟩), .int .i64 k] w fun e w' => e = .returned (.tuple #[.slice none 0 0, .int .i64 3]) ∧ w = w' :=
  Read_bad p k 0 w (Blocks_other p w h) (by omega)
theorem Write_zero (p : Nat) (k : Int) (A : Option Addr) (m c : Nat) (w : World) (h : Zero w p) : Calls Try.prog 12 #[.pointer (some ⟨p, 0, none⟩), .int .i64 k, .slice A m c] w fun e w' => e = .returned (.int .i64 3) ∧ w = w' :=
  Write_bad p k 0 A m c w (Blocks_other p w h) (by omega)

set_option maxRecDepth 100000 in
set_option maxHeartbeats 1600000 in
theorem nobody_walk (k : Int) (A : Option Addr) (m c : Nat) (l : List UInt8) (w : World) (hk : -9223372036854775808 ≤ k ∧ k ≤ 9223372036854775807) (h : Bytes8 w A m c l) :
    Calls Try.prog 7 #[.int .i64 k, .slice A m c] w fun e w' => e = .returned (.bool true) ∧ Below w.heap.size w w' := by
  have hz : Zero (w.alloc (.cells #[.pointer none, .slice none 0 0] 53)) w.heap.size := cell_of_row _ w.heap.size 0 _ _ _ (heap_alloc_new w _)
  have HZ := Lib.hid hz
  have hb0 : Below w.heap.size w (w.alloc (.cells #[.pointer none, .slice none 0 0] 53)) := (Below.refl _ _).alloc (Nat.le_refl _) _
  have K : Hid (∀ (W : World) B p g, Img W B p g [] → Calls Try.prog 16 #[.pointer (some ⟨p, 0, none⟩)] W fun e w' => e = .returned (.int .i64 0) ∧ W = w') := fun W B p g h => Blocks_img (n := 0) W h rfl
  clear hz h hk
  go_enter Try.func7, Try.ntmps7
  go_wp2_with (first
    | (go_at_call 14; (with_reducible refine (Read_nil _ _).mono ?_); rintro e w' ⟨rfl, rfl⟩)
    | (go_at_call 14; (with_reducible refine (Read_zero _ _ _ HZ.out).mono ?_); rintro e w' ⟨rfl, rfl⟩)
    | (go_at_call 12; (with_reducible refine (Write_nil _ _ _ _ _).mono ?_); rintro e w' ⟨rfl, rfl⟩)
    | (go_at_call 12; (with_reducible refine (Write_zero _ _ _ _ _ _ HZ.out).mono ?_); rintro e w' ⟨rfl, rfl⟩)
    | (go_at_call 16; (with_reducible refine (Blocks_nil _).mono ?_); rintro e w' ⟨rfl, rfl⟩)
    | (go_at_call 16; (with_reducible refine (Blocks_zero _ _ HZ.out).mono ?_); rintro e w' ⟨rfl, rfl⟩)
    | (go_at_call 16; (with_reducible refine (K.out _ _ p3 g3 HI3.out).mono ?_); rintro e w' ⟨rfl, rfl⟩)
    | (go_at_call 17; (with_reducible refine (Bytes_nil _).mono ?_); rintro e w1 ⟨A1, rfl, hb1⟩; have HZ1 := Lib.hid (HZ.out.later hb1))
    | (go_at_call 17; (with_reducible refine (Bytes_zero _ _ HZ1.out).mono ?_); rintro e w2 ⟨A2, rfl, hb2⟩; have HZ2 := Lib.hid (HZ1.out.later hb2))
    | (go_at_call 21; (with_reducible refine (Copy_nil _).mono ?_); rintro e w' ⟨rfl, rfl⟩)
    | (go_at_call 21; (with_reducible refine (Copy_zero _ _ HZ2.out).mono ?_); rintro e w3 ⟨p3, g3, rfl, hI3, hb3⟩; have HI3 := Lib.hid hI3; clear hI3)
    | (go_at_call 9; refine (lives_any _).mono ?_; rintro e w4 ⟨rfl, hb4⟩))
  go_ret
  have h1 := hb0.trans (hb1.mono hb0.size)
  have h2 := h1.trans (hb2.mono h1.size)
  have h3 := h2.trans (hb3.mono h2.size)
  exact ⟨rfl, h3.trans (hb4.mono h3.size)⟩

end Go.Proofs.Ytadoclbalcecpaa
