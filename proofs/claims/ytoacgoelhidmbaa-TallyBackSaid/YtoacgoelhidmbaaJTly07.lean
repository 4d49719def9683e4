/-
  Joined: MemJ.
-/
import Derived.Lib.ConvBytes
import Derived.WalkKit
import Derived.Test.YtoacgoelhidmbaaJTly05
/-
  A string as bytes.
-/
namespace Go.Proofs.Ytoacgoelhidmbaa
open Go.RowKit
set_option linter.unusedVariables false
set_option linter.unusedSimpArgs false

theorem conv_bytes (l : List UInt8) (w : World) (h : l.length ≤ 9223372036854775807) : ∃ c w', (convert 9 65 (.string ⟨l.toArray⟩)).run Try.prog w = .ok (.slice (some ⟨w.heap.size, 0, none⟩) l.length c) w' ∧ Bytes8 w' (some ⟨w.heap.size, 0, none⟩) l.length c l ∧ Below w.heap.size w w' := by
  have hs : (ByteArray.mk l.toArray).size = l.length := by simp [ByteArray.size]
  have h1 := grownCap_ge w l.length 0 5
  have h2 := grownCap_le_maxLen w l.length 0 5 (by simpa [maxLen] using h)
  have := run_bytes_of_string (P := Try.prog) w 9 65 5 ⟨l.toArray⟩ Try.underlying9 Try.underlying65 Try.underlying5
  rw [hs] at this
  refine ⟨_, _, this, ⟨rfl, h1, by simpa [maxLen] using h2, ?_⟩, ((Below.refl _ _).drew).alloc (by simp) _⟩
  intro k v hk
  have hk2 : k < l.length := by
    have := (List.getElem?_eq_some_iff.1 hk).1
    rwa [u8s_length] at this
  refine ⟨_, rfl, ?_⟩
  rw [Addr.add_lit, Nat.zero_add, cell_of_row _ w.heap.size k _ _ _ (heap_alloc_new w.drew _)]
  rw [u8s_at l k hk2] at hk
  rw [← hk]
  simp [bytesRow, Array.getElem?_append, hk2]

end Go.Proofs.Ytoacgoelhidmbaa
