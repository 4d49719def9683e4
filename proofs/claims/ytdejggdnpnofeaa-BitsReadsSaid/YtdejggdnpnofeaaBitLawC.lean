/-
  The walk of BitsReads.
-/
import Derived.Test.YtdejggdnpnofeaaBitF
import Derived.Test.YtdejggdnpnofeaaCodeK
import Derived.Test.YtdejggdnpnofeaaMemI
namespace Go.Proofs.Ytdejggdnpnofeaa
open Go.RowKit
set_option linter.unusedVariables false
set_option linter.unusedSimpArgs false

set_option maxRecDepth 100000 in
set_option maxHeartbeats 1600000 in
theorem bitsreads_walk (A : Option Addr) (n c : Nat) (l0 : List UInt8) (w : World) (h : Bytes8 w A n c l0) :
    Calls Try.prog 4 #[.slice A n c] w fun e w' => e = .returned (.bool true) ∧ Below w.heap.size w w' := by
  obtain ⟨q, l, hB, hq, hcase⟩ := cut_bytes 600 h
  have hn := h.le
  have LV : Hid (∀ W, Below w.heap.size w W → Calls Try.prog 6 #[] W fun e w' => e = .returned (.bool true) ∧ Below w.heap.size w w') := fun W hW => (lives9_any W).mono fun e w' ⟨h1, h2⟩ => ⟨h1, hW.trans (h2.mono hW.size)⟩
  obtain ⟨x, F, R1, R2⟩ : ∃ (x : Int) (F : List Int), (∀ W, Below w.heap.size w W → Calls Try.prog 11 #[.slice A q c] W fun e w' => ∃ A' c', e = .returned (.tuple #[.slice A' F.length c', .int .i64 x]) ∧ Ints w' A' F.length c' F ∧ Below w.heap.size w w') ∧
      (∀ W, Below w.heap.size w W → Calls Try.prog 12 #[.slice A q c] W fun e w' => ∃ A' c', e = .returned (.tuple #[.slice A' F.length c', .int .i64 x]) ∧ Ints w' A' F.length c' F ∧ Below W.heap.size W w' ∧ Below w.heap.size w w') :=
    ⟨readBE9 l, readBL9 l, fun W hW => (BRead_any A q c l W (hB.below hW)).mono fun e w' ⟨A', m, c', h1, h2, h3⟩ => by
        obtain rfl := h2.len
        exact ⟨A', c', h1, h2, hW.trans (h3.mono hW.size)⟩,
      fun W hW => (refRead_any9 A q c l W (hB.below hW)).mono fun e w' ⟨A', m, c', h1, h2, h3⟩ => by
        obtain rfl := h2.len
        exact ⟨A', c', h1, h2, h3, hW.trans (h3.mono hW.size)⟩⟩
  have HR1 := Lib.hid R1
  have HR2 := Lib.hid R2
  have SM : Hid (∀ W A1 c1 A2 c2, Below w.heap.size w W → Ints W A1 F.length c1 F → Ints W A2 F.length c2 F → Calls Try.prog 13 #[.slice A1 F.length c1, .slice A2 F.length c2] W fun e w' => e = .returned (.bool true) ∧ Below w.heap.size w w') := fun W A1 c1 A2 c2 hW h1 h2 =>
    (Same_same A1 A2 F.length c1 c2 F W h1 h2).mono fun e w' ⟨h3, h4⟩ => ⟨h3, hW.trans (h4.mono hW.size)⟩
  clear h hB R1 R2
  generalize F.length = m at *
  rcases hcase with ⟨h1, h3, rfl⟩ | ⟨h1, rfl⟩
  all_goals go_enter Try.func4, Try.ntmps4
  all_goals go_wp2_with (first
    | (go_at_call 11; (with_reducible refine (HR1.out _ (Below.refl _ _)).mono ?_); rintro e w1 ⟨A1, c1, rfl, hI1, hb1⟩)
    | (go_at_call 12; (with_reducible refine (HR2.out _ hb1).mono ?_); rintro e w2 ⟨A2, c2, rfl, hI2, hk2, hb2⟩; have hI3 := hI1.below hk2)
    | (go_at_call 13; (with_reducible refine (SM.out _ _ _ _ _ hb2 hI3 hI2).mono ?_); rintro e w3 ⟨rfl, hb3⟩)
    | (go_at_call 6; (with_reducible refine (LV.out _ hb3).mono ?_); rintro e w5 ⟨rfl, hb5⟩))
  all_goals go_ret
  all_goals exact ⟨rfl, hb5⟩

end Go.Proofs.Ytdejggdnpnofeaa
