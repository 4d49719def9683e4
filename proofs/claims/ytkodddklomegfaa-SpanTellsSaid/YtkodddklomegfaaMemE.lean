/-
  Words for memory, fifth part: a slice of slices of bytes.
-/
import Derived.Test.YtkodddklomegfaaMemB
import Derived.Laws.Rows
namespace Go.Proofs.Ytkodddklomegfaa
open Go.RowKit
set_option linter.unusedVariables false
set_option linter.unusedSimpArgs false

/-- a slice of slices of bytes -/
structure Pcs (w : World) (A : Option Addr) (n c : Nat) (ll : List (List UInt8)) : Prop where
  len : ll.length = n
  cap : n ≤ c
  most : c ≤ 9223372036854775807
  row : ∀ k (h : k < ll.length), ∃ ad A' m c', A = some ad ∧ w.cell? (ad.add k) = some (.slice A' m c') ∧ Bytes8 w A' m c' ll[k]

theorem Pcs.below {w w' : World} {A : Option Addr} {n c : Nat} {ll : List (List UInt8)} (h : Pcs w A n c ll) (hb : Below w.heap.size w w') : Pcs w' A n c ll :=
  ⟨h.len, h.cap, h.most, fun k hk => by
    obtain ⟨ad, A', m, c', e, hc, hB⟩ := h.row k hk
    exact ⟨ad, A', m, c', e, (hb.cell (cell_lt hc)).trans hc, hB.below hb⟩⟩

theorem Pcs.nil (w : World) : Pcs w none 0 0 [] := ⟨rfl, Nat.le_refl _, Nat.zero_le _, fun k h => by simp at h⟩

theorem Pcs.lit {w : World} {A : Option Addr} {n c : Nat} {ll : List (List UInt8)} (h : Pcs w A n c ll) (hp : 0 < n) :
    ∃ b off, A = some ⟨b, off, none⟩ ∧ b < w.heap.size ∧ ∀ k (h : k < ll.length), ∃ A' m c', w.cell? ⟨b, off + k, none⟩ = some (.slice A' m c') ∧ Bytes8 w A' m c' ll[k] := by
  obtain ⟨ad, A', m, c', rfl, hc, _⟩ := h.row 0 (by rw [h.len]; exact hp)
  obtain ⟨b, off, spot⟩ := ad
  have hspot : spot = none := by simpa [Addr.add] using World.cell?_spot hc
  subst hspot
  refine ⟨b, off, rfl, by simpa [Addr.add] using cell_lt hc, fun k hk => ?_⟩
  obtain ⟨ad', A', m, c', e, hc', hB⟩ := h.row k hk
  cases e
  rw [Addr.add_lit] at hc'
  exact ⟨A', m, c', hc', hB⟩

/-- one slice of bytes, in a row of its own -/
theorem Pcs.one {w : World} {A : Option Addr} {m c : Nat} {l : List UInt8} (h : Bytes8 w A m c l) (t : TypeId) : Pcs (w.alloc (.cells #[.slice A m c] t)) (some ⟨w.heap.size, 0, none⟩) 1 1 [l] := by
  refine ⟨rfl, Nat.le_refl _, by omega, fun k hk => ?_⟩
  obtain rfl : k = 0 := by simpa using hk
  refine ⟨_, A, m, c, rfl, ?_, h.below ((Below.refl _ _).alloc (Nat.le_refl _) _)⟩
  rw [Addr.add_lit]
  exact cell_of_row _ w.heap.size 0 _ _ _ (heap_alloc_new w _)

/-- bytes in a row of their own -/
theorem Bytes8.new (w : World) (l : List UInt8) (t : TypeId) (fr : Nat × Nat) (h : l.length ≤ 9223372036854775807) : Bytes8 (w.alloc (.cells (u8s l).toArray t fr)) (some ⟨w.heap.size, 0, none⟩) l.length l.length l :=
  ⟨rfl, Nat.le_refl _, h, Row.of_block (heap_alloc_new w _)⟩

end Go.Proofs.Ytkodddklomegfaa
