/-
  Joined: MemN.
-/
import Derived.Test.YtccippplpcjaiaaJRunB05
import Derived.Test.YtccippplpcjaiaaJRunB09
import Derived.Test.YtccippplpcjaiaaJRunB08
/-
  Texts, and structs of three integers, in a block of their own: one read, one stored.
-/
namespace Go.Proofs.Ytccippplpcjaiaa
open Go.RowKit
set_option linter.unusedVariables false
set_option linter.unusedSimpArgs false

/-- texts in a block of their own, from block B on, that may be written -/
structure OwnT (w : World) (B g : Nat) (l : List (List UInt8)) : Prop where
  low : B ≤ g
  blk : w.heap[g]? = some (.cells (strV l).toArray 9 (0, 0))
theorem OwnT.lt {w : World} {B g : Nat} {l : List (List UInt8)} (h : OwnT w B g l) : g < w.heap.size := block_lt h.blk
theorem OwnT.below {w w' : World} {B C g : Nat} {l : List (List UInt8)} (h : OwnT w B g l) (hb : Below C w w') (hg : g < C) : OwnT w' B g l := ⟨h.low, (hb.block g hg).trans h.blk⟩
theorem OwnT.later {w w' : World} {B g : Nat} {l : List (List UInt8)} (h : OwnT w B g l) (hb : Below w.heap.size w w') : OwnT w' B g l := h.below hb h.lt
theorem OwnT.cell {w : World} {B g : Nat} {l : List (List UInt8)} (h : OwnT w B g l) {j : Nat} (hj : j < l.length) : w.cell? ⟨g, j, none⟩ = some (.string ⟨l[j].toArray⟩) := by
  rw [cell_of_row w g j _ 9 (0, 0) h.blk]
  have := strV_at l j hj
  simpa using this
theorem OwnT.free {w : World} {B g : Nat} {l : List (List UInt8)} (h : OwnT w B g l) (j : Nat) : w.frozen? ⟨g, j, none⟩ = false := frozen_of_row w g j _ 9 h.blk
theorem OwnT.set {w : World} {B g : Nat} {l : List (List UInt8)} (h : OwnT w B g l) (j : Nat) (s : List UInt8) : OwnT (w.setCell ⟨g, j, none⟩ (.string ⟨s.toArray⟩)) B g (l.set j s) := by
  refine ⟨h.low, ?_⟩
  rw [heap_setCell_same w g j _ 9 _ h.blk]
  have e : strV (l.set j s) = (strV l).set j (.string ⟨s.toArray⟩) := by simp only [strV, List.map_set]
  rw [e]
  simp
/-- structs of three integers as cells -/
def triC : List (Int × Int × Int) → List Value
  | [] => []
  | x :: r => .int .i64 x.1 :: .int .i64 x.2.1 :: .int .i64 x.2.2 :: triC r
theorem triC_length (l : List (Int × Int × Int)) : (triC l).length = l.length * 3 := by
  induction l with
  | nil => rfl
  | cons x r ih => simp only [triC, List.length_cons, ih]; omega
theorem triC_append (a b : List (Int × Int × Int)) : triC (a ++ b) = triC a ++ triC b := by
  induction a with
  | nil => rfl
  | cons x r ih => simp [triC, ih]
theorem triC_one (l : List (Int × Int × Int)) : ∀ u ∈ triC l, u.oneCell' = true := by
  induction l with
  | nil => intro u hu; cases hu
  | cons x r ih =>
    intro u hu
    simp only [triC, List.mem_cons] at hu
    rcases hu with rfl | rfl | rfl | hu
    · rfl
    · rfl
    · rfl
    · exact ih u hu
theorem triC_at : ∀ (l : List (Int × Int × Int)) (k : Nat) (h : k < l.length), (triC l)[k * 3]? = some (.int .i64 l[k].1) ∧ (triC l)[k * 3 + 1]? = some (.int .i64 l[k].2.1) ∧ (triC l)[k * 3 + 2]? = some (.int .i64 l[k].2.2)
  | x :: r, 0, _ => ⟨rfl, rfl, rfl⟩
  | x :: r, k + 1, h => by
    have := triC_at r k (by simpa using h)
    rw [show (k + 1) * 3 = k * 3 + 1 + 1 + 1 by omega]
    simpa [triC] using this
theorem triC_set : ∀ (l : List (Int × Int × Int)) (k : Nat) (x y z : Int), (((triC l).set (k * 3) (.int .i64 x)).set (k * 3 + 1) (.int .i64 y)).set (k * 3 + 2) (.int .i64 z) = triC (l.set k (x, y, z))
  | [], _, _, _, _ => rfl
  | q :: r, 0, _, _, _ => rfl
  | q :: r, k + 1, x, y, z => by
    have := triC_set r k x y z
    rw [show (k + 1) * 3 = k * 3 + 1 + 1 + 1 by omega, show k * 3 + 1 + 1 + 1 + 1 = k * 3 + 1 + 1 + 1 + 1 from rfl]
    simp only [triC, List.set_cons_succ]
    rw [← this]
/-- structs of three integers in a block of their own, from block B on, that may be written -/
structure OwnR (w : World) (t : TypeId) (B g : Nat) (l : List (Int × Int × Int)) : Prop where
  low : B ≤ g
  blk : w.heap[g]? = some (.cells (triC l).toArray t (0, 0))
theorem OwnR.lt {w : World} {t : TypeId} {B g : Nat} {l : List (Int × Int × Int)} (h : OwnR w t B g l) : g < w.heap.size := block_lt h.blk
theorem OwnR.below {w w' : World} {t : TypeId} {B C g : Nat} {l : List (Int × Int × Int)} (h : OwnR w t B g l) (hb : Below C w w') (hg : g < C) : OwnR w' t B g l := ⟨h.low, (hb.block g hg).trans h.blk⟩
theorem OwnR.later {w w' : World} {t : TypeId} {B g : Nat} {l : List (Int × Int × Int)} (h : OwnR w t B g l) (hb : Below w.heap.size w w') : OwnR w' t B g l := h.below hb h.lt
theorem OwnR.cells {w : World} {t : TypeId} {B g : Nat} {l : List (Int × Int × Int)} (h : OwnR w t B g l) {k : Nat} (hk : k < l.length) : w.cell? ⟨g, k * 3, none⟩ = some (.int .i64 l[k].1) ∧ w.cell? ⟨g, k * 3 + 1, none⟩ = some (.int .i64 l[k].2.1) ∧ w.cell? ⟨g, k * 3 + 2, none⟩ = some (.int .i64 l[k].2.2) := by
  obtain ⟨h0, h1, h2⟩ := triC_at l k hk
  refine ⟨?_, ?_, ?_⟩
  · rw [cell_of_row w g _ _ _ _ h.blk]; simpa using h0
  · rw [cell_of_row w g _ _ _ _ h.blk]; simpa using h1
  · rw [cell_of_row w g _ _ _ _ h.blk]; simpa using h2
theorem OwnR.free {w : World} {t : TypeId} {B g : Nat} {l : List (Int × Int × Int)} (h : OwnR w t B g l) (j : Nat) : w.frozen? ⟨g, j, none⟩ = false := frozen_of_row w g j _ _ h.blk
theorem OwnR.store {w : World} {t : TypeId} {B g : Nat} {l : List (Int × Int × Int)} (h : OwnR w t B g l) (k : Nat) (x y z : Int) : OwnR (((w.setCell ⟨g, k * 3, none⟩ (.int .i64 x)).setCell ⟨g, k * 3 + 1, none⟩ (.int .i64 y)).setCell ⟨g, k * 3 + 2, none⟩ (.int .i64 z)) t B g (l.set k (x, y, z)) := by
  refine ⟨h.low, ?_⟩
  rw [heap_setCell_same _ g _ _ _ _ (heap_setCell_same _ g _ _ _ _ (heap_setCell_same _ g _ _ _ _ h.blk)), ← triC_set]
  simp
theorem Trs.of_own {w : World} {base : Nat} {e : TypeId} {n : Nat} {v : Value} {l : List (Int × Int × Int)} (h : w.ownsRow base e 3 v n (triC l)) : ∃ A c, v = .slice A n c ∧ Trs w A n c l := by
  obtain ⟨A, c, rfl, h1, h2⟩ := ownsRow_form h
  have hr : Row w A (triC l) := Row.of_own h
  have hl : l.length = n := by have := h.1; rw [triC_length] at this; omega
  refine ⟨A, c, rfl, hl, h1, by simpa [maxLen] using h2, fun k hk => ?_⟩
  obtain ⟨h0, h1, h2⟩ := triC_at l k hk
  obtain ⟨ad, rfl, g0⟩ := hr _ _ h0
  exact ⟨ad, rfl, g0, hr.at_ h1, hr.at_ h2⟩

end Go.Proofs.Ytccippplpcjaiaa
