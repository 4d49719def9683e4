/-
  The walk of CodeGets.
-/
import Derived.Test.YtbflfnaiihbjoaaCodeI
import Derived.Test.YtbflfnaiihbjoaaCodeK
namespace Go.Proofs.Ytbflfnaiihbjoaa
open Go.RowKit
set_option linter.unusedVariables false
set_option linter.unusedSimpArgs false

set_option maxHeartbeats 800000 in
theorem gets_walk (A : Option Addr) (n c : Nat) (l : List UInt8) (i wd x : Int) (w : World) (h : Bytes8 w A n c l)
    (hi : -9223372036854775808 ≤ i ∧ i ≤ 9223372036854775807) (_hwd : -9223372036854775808 ≤ wd ∧ wd ≤ 9223372036854775807) (hx : -9223372036854775808 ≤ x ∧ x ≤ 9223372036854775807) :
    Calls Try.prog 3 #[.slice A n c, .int .i64 i, .int .i64 wd, .int .i64 x] w fun e w' => e = .returned (.bool true) ∧ Below w.heap.size w w' := by
  have hm := h.le
  by_cases hn : 3000 < n
  · clear h hi hx
    go_enter Try.func3, Try.ntmps3
    go_wp2_with (go_at_call 7; refine (lives_any _).mono ?_; rintro e w1 ⟨rfl, hb1⟩)
    go_ret
    exact ⟨rfl, hb1⟩
  · have hn' : n ≤ 3000 := by omega
    have G := Lib.hid (fun (W : World) (hb : Below w.heap.size w W) => Get_any A n c l i wd W (h.below hb) hi)
    have G' := Lib.hid (fun (W : World) (hb : Below w.heap.size w W) => refGet_any A n c l i wd W (h.below hb) hi)
    have P := Lib.hid (fun (W : World) (hb : Below w.heap.size w W) => Put_any A n c l i wd x W (h.below hb) (by omega) hi hx)
    have P' := Lib.hid (fun (W : World) (hb : Below w.heap.size w W) => refPut_any A n c l i wd x W (h.below hb) (by omega) hi hx)
    have Z := Lib.hid (fun (W : World) (hb : Below w.heap.size w W) => Zero_any A n c l W (h.below hb) _ rfl)
    have Z' := Lib.hid (fun (W : World) (hb : Below w.heap.size w W) => refZero_any A n c l W (h.below hb) _ rfl)
    generalize getN l i wd = gn at *
    generalize getE l i wd = ge at *
    generalize putE l i wd x = pe at *
    generalize putB l i wd x = pb at *
    generalize zeroB l = zb at *
    clear h hi hx
    go_enter Try.func3, Try.ntmps3
    go_wp2_with (first
      | (go_at_call 8; refine (G.out _ (Below.refl _ _)).mono ?_; rintro e w1 ⟨rfl, hb1⟩)
      | (go_at_call 9; refine (G'.out _ hb1).mono ?_; rintro e w' ⟨rfl, rfl⟩)
      | (go_at_call 10; refine (P.out _ hb1).mono ?_; rintro e w2 ⟨A2, m2, c2, rfl, hB2, hb2⟩; have hw2 := hb1.trans (hb2.mono hb1.size))
      | (go_at_call 11; refine (P'.out _ hw2).mono ?_; rintro e w3 ⟨A3, m3, c3, rfl, hB3, hb3⟩; have hw3 := hw2.trans (hb3.mono hw2.size); have cv2 := run_str (hB2.below hb3); have cv3 := run_str hB3)
      | (go_at_call 12; refine (Z.out _ hw3).mono ?_; rintro e w' ⟨rfl, rfl⟩)
      | (go_at_call 13; refine (Z'.out _ hw3).mono ?_; rintro e w' ⟨rfl, rfl⟩)
      | (go_at_call 7; refine (lives_any _).mono ?_; rintro e w4 ⟨rfl, hb4⟩))
    all_goals go_ret
    all_goals exact ⟨rfl, hw3.trans (hb4.mono hw3.size)⟩

end Go.Proofs.Ytbflfnaiihbjoaa
