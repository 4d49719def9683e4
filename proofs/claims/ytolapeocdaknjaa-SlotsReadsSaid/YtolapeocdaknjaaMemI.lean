/-
  at most so many bytes of a slice.
-/
import Derived.Test.YtolapeocdaknjaaMem
namespace Go.Proofs.Ytolapeocdaknjaa
open Go.RowKit
set_option linter.unusedVariables false
set_option linter.unusedSimpArgs false

theorem cut_bytes {w : World} {A : Option Addr} {n c : Nat} {l : List UInt8} (m : Nat) (h : Bytes8 w A n c l) : ∃ (q : Nat) (l' : List UInt8), Bytes8 w A q c l' ∧ q ≤ m ∧ ((m < n ∧ m ≤ c ∧ q = m) ∨ (n ≤ m ∧ q = n)) := by
  by_cases hn : m < n
  · have hc := h.cap
    refine ⟨m, l.take m, ⟨by rw [List.length_take, h.len]; omega, by omega, h.most, ?_⟩, Nat.le_refl _, .inl ⟨hn, by omega, rfl⟩⟩
    have := h.row.take m
    rwa [u8s_take] at this
  · exact ⟨n, l, h, by omega, .inr ⟨by omega, rfl⟩⟩
end Go.Proofs.Ytolapeocdaknjaa
