/-
  Joined: MemN, PolS, PolU, PgE, PolV, PgF, PolX, PolY.
-/
import Derived.Test.YtlmpaelcnnnkfaaJPolB06
import Derived.Test.YtlmpaelcnnnkfaaJPolB14
import Derived.Test.YtlmpaelcnnnkfaaJPolB13
import Derived.Test.YtlmpaelcnnnkfaaJPolB15
import Derived.Test.YtlmpaelcnnnkfaaJPolB01
/-
  Texts, and structs of three integers, in a block of their own: one read, one stored.
-/
namespace Go.Proofs.Ytlmpaelcnnnkfaa
open Go.RowKit
set_option linter.unusedVariables false
set_option linter.unusedSimpArgs false

/-- texts in a block of their own, from block B on, that may be written -/
structure OwnT (w : World) (B g : Nat) (l : List (List UInt8)) : Prop where
  low : B ≤ g
  blk : w.heap[g]? = some (.cells (strV l).toArray 9 (0, 0))
theorem OwnT.lt {w : World} {B g : Nat} {l : List (List UInt8)} (h : OwnT w B g l) : g < w.heap.size := block_lt h.blk
theorem OwnT.below {w w' : World} {B C g : Nat} {l : List (List UInt8)} (h : OwnT w B g l) (hb : Below C w w') (hg : g < C) : OwnT w' B g l := ⟨h.low, (hb.block g hg).trans h.blk⟩
theorem OwnT.later {w w' : World} {B g : Nat} {l : List (List UInt8)} (h : OwnT w B g l) (hb : Below w.heap.size w w') : OwnT w' B g l := h.below hb h.lt
theorem OwnT.other {w : World} {B g : Nat} {l : List (List UInt8)} (h : OwnT w B g l) (a : Addr) (v : Value) (hg : g ≠ a.block) : OwnT (w.setCell a v) B g l := ⟨h.low, (heap_setCell_other w a g v hg).trans h.blk⟩
theorem OwnT.cell {w : World} {B g : Nat} {l : List (List UInt8)} (h : OwnT w B g l) {j : Nat} (hj : j < l.length) : w.cell? ⟨g, j, none⟩ = some (.string ⟨l[j].toArray⟩) := by
  rw [cell_of_row w g j _ 9 (0, 0) h.blk]
  have := strV_at l j hj
  simpa using this
theorem OwnT.free {w : World} {B g : Nat} {l : List (List UInt8)} (h : OwnT w B g l) (j : Nat) : w.frozen? ⟨g, j, none⟩ = false := frozen_of_row w g j _ 9 h.blk
theorem OwnT.set {w : World} {B g : Nat} {l : List (List UInt8)} (h : OwnT w B g l) (j : Nat) (s : List UInt8) : OwnT (w.setCell ⟨g, j, none⟩ (.string ⟨s.toArray⟩)) B g (l.set j s) := by
  refine ⟨h.low, ?_⟩
  rw [heap_setCell_same w g j _ 9 _ h.blk]
  have e : strV (l.set j s) = (strV l).set j (.string ⟨s.toArray⟩) := by simp only [strV, List.map_set]
  rw [e]
  simp
/-- structs of three integers as cells -/
def triC : List (Int × Int × Int) → List Value
  | [] => []
  | x :: r => .int .i64 x.1 :: .int .i64 x.2.1 :: .int .i64 x.2.2 :: triC r
theorem triC_length (l : List (Int × Int × Int)) : (triC l).length = l.length * 3 := by
  induction l with
  | nil => rfl
  | cons x r ih => simp only [triC, List.length_cons, ih]; omega
theorem triC_at : ∀ (l : List (Int × Int × Int)) (k : Nat) (h : k < l.length), (triC l)[k * 3]? = some (.int .i64 l[k].1) ∧ (triC l)[k * 3 + 1]? = some (.int .i64 l[k].2.1) ∧ (triC l)[k * 3 + 2]? = some (.int .i64 l[k].2.2)
  | x :: r, 0, _ => ⟨rfl, rfl, rfl⟩
  | x :: r, k + 1, h => by
    have := triC_at r k (by simpa using h)
    rw [show (k + 1) * 3 = k * 3 + 1 + 1 + 1 by omega]
    simpa [triC] using this
/-- structs of three integers in a block of their own, from block B on, that may be written -/
structure OwnR (w : World) (t : TypeId) (B g : Nat) (l : List (Int × Int × Int)) : Prop where
  low : B ≤ g
  blk : w.heap[g]? = some (.cells (triC l).toArray t (0, 0))
theorem OwnR.lt {w : World} {t : TypeId} {B g : Nat} {l : List (Int × Int × Int)} (h : OwnR w t B g l) : g < w.heap.size := block_lt h.blk
theorem OwnR.below {w w' : World} {t : TypeId} {B C g : Nat} {l : List (Int × Int × Int)} (h : OwnR w t B g l) (hb : Below C w w') (hg : g < C) : OwnR w' t B g l := ⟨h.low, (hb.block g hg).trans h.blk⟩
theorem OwnR.later {w w' : World} {t : TypeId} {B g : Nat} {l : List (Int × Int × Int)} (h : OwnR w t B g l) (hb : Below w.heap.size w w') : OwnR w' t B g l := h.below hb h.lt
theorem OwnR.cells {w : World} {t : TypeId} {B g : Nat} {l : List (Int × Int × Int)} (h : OwnR w t B g l) {k : Nat} (hk : k < l.length) : w.cell? ⟨g, k * 3, none⟩ = some (.int .i64 l[k].1) ∧ w.cell? ⟨g, k * 3 + 1, none⟩ = some (.int .i64 l[k].2.1) ∧ w.cell? ⟨g, k * 3 + 2, none⟩ = some (.int .i64 l[k].2.2) := by
  obtain ⟨h0, h1, h2⟩ := triC_at l k hk
  refine ⟨?_, ?_, ?_⟩
  · rw [cell_of_row w g _ _ _ _ h.blk]; simpa using h0
  · rw [cell_of_row w g _ _ _ _ h.blk]; simpa using h1
  · rw [cell_of_row w g _ _ _ _ h.blk]; simpa using h2
theorem OwnR.free {w : World} {t : TypeId} {B g : Nat} {l : List (Int × Int × Int)} (h : OwnR w t B g l) (j : Nat) : w.frozen? ⟨g, j, none⟩ = false := frozen_of_row w g j _ _ h.blk
theorem Trs.of_own {w : World} {base : Nat} {e : TypeId} {n : Nat} {v : Value} {l : List (Int × Int × Int)} (h : w.ownsRow base e 3 v n (triC l)) : ∃ A c, v = .slice A n c ∧ Trs w A n c l := by
  obtain ⟨A, c, rfl, h1, h2⟩ := ownsRow_form h
  have hr : Row w A (triC l) := Row.of_own h
  have hl : l.length = n := by have := h.1; rw [triC_length] at this; omega
  refine ⟨A, c, rfl, hl, h1, by simpa [maxLen] using h2, fun k hk => ?_⟩
  obtain ⟨h0, h1, h2⟩ := triC_at l k hk
  obtain ⟨ad, rfl, g0⟩ := hr _ _ h0
  exact ⟨ad, rfl, g0, hr.at_ h1, hr.at_ h2⟩

end Go.Proofs.Ytlmpaelcnnnkfaa

/-
  Layer 18: the reference's Find.
-/
namespace Go.Proofs.Ytlmpaelcnnnkfaa
open Go.RowKit
set_option linter.unusedVariables false
set_option linter.unusedSimpArgs false

def DevC (w : World) (b : Nat) (v0 v1 v2 v3 v4 : Value) : Prop := w.heap[b]? = some (.cells #[v0, v1, v2, v3, v4] 32 (0, 0))
theorem DevC.cs {W : World} {b : Nat} {v0 v1 v2 v3 v4 : Value} (h : DevC W b v0 v1 v2 v3 v4) : (W.cell? ⟨b, 0, none⟩ = some v0 ∧ W.cell? ⟨b, 1, none⟩ = some v1 ∧ W.cell? ⟨b, 2, none⟩ = some v2 ∧ W.cell? ⟨b, 3, none⟩ = some v3 ∧ W.cell? ⟨b, 4, none⟩ = some v4) ∧ W.frozen? ⟨b, 0, none⟩ = false ∧ W.frozen? ⟨b, 1, none⟩ = false ∧ W.frozen? ⟨b, 2, none⟩ = false ∧ W.frozen? ⟨b, 3, none⟩ = false ∧ W.frozen? ⟨b, 4, none⟩ = false :=
  ⟨⟨by rw [cell_of_row W b 0 _ _ _ h]; rfl, by rw [cell_of_row W b 1 _ _ _ h]; rfl, by rw [cell_of_row W b 2 _ _ _ h]; rfl, by rw [cell_of_row W b 3 _ _ _ h]; rfl, by rw [cell_of_row W b 4 _ _ _ h]; rfl⟩, frozen_of_row W b 0 _ _ h, frozen_of_row W b 1 _ _ h, frozen_of_row W b 2 _ _ h, frozen_of_row W b 3 _ _ h, frozen_of_row W b 4 _ _ h⟩
end Go.Proofs.Ytlmpaelcnnnkfaa

/-
  Layer 18: the reference's SameDevice.
-/
namespace Go.Proofs.Ytlmpaelcnnnkfaa
open Go.RowKit
set_option linter.unusedVariables false
set_option linter.unusedSimpArgs false

/-- are devices the same -/
def SamD18 (a b : Dev18) : Prop := a.id = b.id ∧ a.tx = b.tx ∧ a.made = b.made ∧ a.snap = b.snap ∧ a.maps = b.maps
instance (a b : Dev18) : Decidable (SamD18 a b) := inferInstanceAs (Decidable (_ ∧ _))
end Go.Proofs.Ytlmpaelcnnnkfaa

/-
  Layer 18: slices.Equal of mappings; alike.
-/
namespace Go.Proofs.Ytlmpaelcnnnkfaa
open Go.RowKit
set_option linter.unusedVariables false
set_option linter.unusedSimpArgs false

end Go.Proofs.Ytlmpaelcnnnkfaa

/-
  Layer 18: the reference's Same.
-/
namespace Go.Proofs.Ytlmpaelcnnnkfaa
open Go.RowKit
set_option linter.unusedVariables false
set_option linter.unusedSimpArgs false

def PolC (w : World) (b : Nat) (v0 v1 v2 v3 v4 : Value) : Prop := w.heap[b]? = some (.cells #[v0, v1, v2, v3, v4] 24 (0, 0))
theorem PolC.cs {W : World} {b : Nat} {v0 v1 v2 v3 v4 : Value} (h : PolC W b v0 v1 v2 v3 v4) : W.cell? ⟨b, 0, none⟩ = some v0 ∧ W.cell? ⟨b, 1, none⟩ = some v1 ∧ W.cell? ⟨b, 2, none⟩ = some v2 ∧ W.cell? ⟨b, 3, none⟩ = some v3 ∧ W.cell? ⟨b, 4, none⟩ = some v4 :=
  ⟨by rw [cell_of_row W b 0 _ _ _ h]; rfl, by rw [cell_of_row W b 1 _ _ _ h]; rfl, by rw [cell_of_row W b 2 _ _ _ h]; rfl, by rw [cell_of_row W b 3 _ _ _ h]; rfl, by rw [cell_of_row W b 4 _ _ _ h]; rfl⟩
theorem PolC.later {W W' : World} {lo b : Nat} {v0 v1 v2 v3 v4 : Value} (h : PolC W b v0 v1 v2 v3 v4) (hb : Below lo W W') (hl : b < lo) : PolC W' b v0 v1 v2 v3 v4 := (hb.block _ hl).trans h

end Go.Proofs.Ytlmpaelcnnnkfaa

/-
  Layer 18: slices.EqualFunc of devices; Same.
-/
namespace Go.Proofs.Ytlmpaelcnnnkfaa
open Go.RowKit
set_option linter.unusedVariables false
set_option linter.unusedSimpArgs false

end Go.Proofs.Ytlmpaelcnnnkfaa

/-
  Layer 18: the reference's Refs, once its Check is known.
-/
namespace Go.Proofs.Ytlmpaelcnnnkfaa
open Go.RowKit
set_option linter.unusedVariables false
set_option linter.unusedSimpArgs false

end Go.Proofs.Ytlmpaelcnnnkfaa

/-
  Layer 18: the reference's Check, where the pool's own numbers are wrong or it has too much.
-/
namespace Go.Proofs.Ytlmpaelcnnnkfaa
open Go.RowKit
set_option linter.unusedVariables false
set_option linter.unusedSimpArgs false

end Go.Proofs.Ytlmpaelcnnnkfaa
