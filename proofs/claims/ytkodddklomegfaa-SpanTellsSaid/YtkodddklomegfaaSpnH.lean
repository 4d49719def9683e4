/-
  Layer 13: Split and the reference's Split, for any keys.
-/
import Derived.Test.YtkodddklomegfaaSpnG
namespace Go.Proofs.Ytkodddklomegfaa
open Go.RowKit
set_option linter.unusedVariables false
set_option linter.unusedSimpArgs false

theorem Split_any13 {A : Option Addr} {n c : Nat} {L : List Int} (lo hi : Int) (w : World) (h : Ints w A n c L) (hn : n ≤ 1000000) :
    Calls Try.prog 14 #[spnV lo hi, .slice A n c] w fun e w' => ∃ A' c', e = .returned (.slice A' (spl13 lo hi L).length c') ∧ Prs w' A' (spl13 lo hi L).length c' (spl13 lo hi L) ∧ Below w.heap.size w w' ∧ Newer w.heap.size A' := by
  by_cases hf : fit13 lo hi L = 0
  · have e : (spl13 lo hi L).length = n := by rw [spl13_ok hf, List.length_map, List.length_range, h.len]
    rw [e]
    exact Split_good13 lo hi w h hn hf
  · rw [spl13_bad hf]
    exact (Split_bad13 lo hi w h hf).mono fun e w' ⟨h1, h2⟩ => ⟨none, 0, h1, Prs.nil w' 0 none (by omega), h2, Newer.nil _⟩

theorem refSplit_any13 {A : Option Addr} {n c : Nat} {L : List Int} (lo hi : Int) (w : World) (h : Ints w A n c L) (hn : n ≤ 1000000) :
    Calls Try.prog 15 #[spnV lo hi, .slice A n c] w fun e w' => ∃ A' c', e = .returned (.slice A' (spl13 lo hi L).length c') ∧ Prs w' A' (spl13 lo hi L).length c' (spl13 lo hi L) ∧ Below w.heap.size w w' := by
  by_cases hf : fit13 lo hi L = 0
  · have e : (spl13 lo hi L).length = n := by rw [spl13_ok hf, List.length_map, List.length_range, h.len]
    rw [e]
    exact refSplit_good13 lo hi w h hn hf
  · rw [spl13_bad hf]
    exact (refSplit_bad13 lo hi w h hf).mono fun e w' ⟨h1, h2⟩ => ⟨none, 0, h1, Prs.nil w' 0 none (by omega), h2⟩

end Go.Proofs.Ytkodddklomegfaa
