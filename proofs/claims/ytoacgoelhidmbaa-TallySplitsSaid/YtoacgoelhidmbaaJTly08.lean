/-
  Joined: MemL.
-/
import Derived.Test.YtoacgoelhidmbaaJTly05
import Derived.Test.YtoacgoelhidmbaaJTly02
/-
  Bytes in a block of their own: one byte read, one byte stored; the same for integers.
-/
namespace Go.Proofs.Ytoacgoelhidmbaa
open Go.RowKit
set_option linter.unusedVariables false
set_option linter.unusedSimpArgs false

theorem Own8.cell {w : World} {B g : Nat} {l : List UInt8} (h : Own8 w B g l) {j : Nat} (hj : j < l.length) : w.cell? ⟨g, j, none⟩ = some (.int .u8 (l[j].toNat : Int)) := by
  rw [cell_of_row w g j _ 5 (0, 0) h.blk]
  have := u8s_at l j hj
  simpa using this
theorem Own8.set {w : World} {B g : Nat} {l : List UInt8} (h : Own8 w B g l) (j v : Nat) (hv : v < 256) : Own8 (w.setCell ⟨g, j, none⟩ (.int .u8 (v : Int))) B g (l.set j (UInt8.ofNat v)) := by
  refine ⟨h.low, ?_⟩
  rw [heap_setCell_same w g j _ 5 _ h.blk]
  have e : u8s (l.set j (UInt8.ofNat v)) = (u8s l).set j (.int .u8 (v : Int)) := by
    simp only [u8s, List.map_set]
    rw [UInt8.toNat_ofNat', Nat.mod_eq_of_lt hv]
  rw [e]
  simp

/-- integers in a block of their own, from block B on, that may be written -/
structure OwnI (w : World) (B g : Nat) (l : List Int) : Prop where
  low : B ≤ g
  blk : w.heap[g]? = some (.cells (i64s l).toArray 3 (0, 0))
theorem OwnI.lt {w : World} {B g : Nat} {l : List Int} (h : OwnI w B g l) : g < w.heap.size := block_lt h.blk
theorem OwnI.below {w w' : World} {B C g : Nat} {l : List Int} (h : OwnI w B g l) (hb : Below C w w') (hg : g < C) : OwnI w' B g l := ⟨h.low, (hb.block g hg).trans h.blk⟩
theorem OwnI.later {w w' : World} {B g : Nat} {l : List Int} (h : OwnI w B g l) (hb : Below w.heap.size w w') : OwnI w' B g l := h.below hb h.lt
theorem OwnI.cell {w : World} {B g : Nat} {l : List Int} (h : OwnI w B g l) {j : Nat} (hj : j < l.length) : w.cell? ⟨g, j, none⟩ = some (.int .i64 l[j]) := by
  rw [cell_of_row w g j _ 3 (0, 0) h.blk]
  have := i64s_at l j hj
  simpa using this
theorem OwnI.set {w : World} {B g : Nat} {l : List Int} (h : OwnI w B g l) (j : Nat) (v : Int) : OwnI (w.setCell ⟨g, j, none⟩ (.int .i64 v)) B g (l.set j v) := by
  refine ⟨h.low, ?_⟩
  rw [heap_setCell_same w g j _ 3 _ h.blk]
  have e : i64s (l.set j v) = (i64s l).set j (.int .i64 v) := by simp only [i64s, List.map_set]
  rw [e]
  simp
end Go.Proofs.Ytoacgoelhidmbaa
