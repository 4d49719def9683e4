/-
  Joined: ValA, ValB, ValC, ValD, ValE.
-/
import Derived.LoopTactic
import Derived.BigQuiet
import Derived.Deep.RegionHeld3
import Derived.Test.YtajeelbeochojaaGreatDoorJAlcB16
import Derived.Test.YtajeelbeochojaaGreatDoorJAlcB00
import Derived.Test.YtajeelbeochojaaGreatDoorJAlcB08
import Derived.Test.YtajeelbeochojaaGreatDoorJAlcB02
import Derived.Laws.Rows
import Derived.Test.YtajeelbeochojaaGreatDoorJAlcB11
/-
  Layer 8's numbers in memory; build.
-/
namespace Go.Proofs.YtajeelbeochojaaGreatDoor
open Go.RowKit
set_option linter.unusedVariables false
set_option linter.unusedSimpArgs false

/-- the numbers of a value in memory: k's pointer leads to block g k, cell o k -/
structure NumsAt (w : World) (b off n c : Nat) (l : List (NumS × Int)) (g o : Nat → Nat) : Prop where
  len : l.length = n
  pos : 0 < n
  small : n ≤ 100
  cap : n ≤ c
  most : c ≤ 9223372036854775807
  lt : b < w.heap.size
  fit : ∀ p ∈ l, fitN p.1
  row : ∀ k (h : k < l.length), w.cell? ⟨b, off + k * 4, none⟩ = some (.pointer (some ⟨g k, o k, none⟩)) ∧ w.cell? ⟨b, off + k * 4 + 1, none⟩ = some (.int .i64 (l[k].1.1 : Int)) ∧
    w.cell? ⟨b, off + k * 4 + 2, none⟩ = some (.int .i64 l[k].1.2.1) ∧ w.cell? ⟨b, off + k * 4 + 3, none⟩ = some (.int .i64 l[k].1.2.2)
theorem NumsAt.later {w w' : World} {b off n c : Nat} {l : List (NumS × Int)} {g o : Nat → Nat} (h : NumsAt w b off n c l g o) (hb : w.heap.size ≤ w'.heap.size) (he : w'.heap[b]? = w.heap[b]?) : NumsAt w' b off n c l g o :=
  ⟨h.len, h.pos, h.small, h.cap, h.most, Nat.lt_of_lt_of_le h.lt hb, h.fit, fun k hk => by
    obtain ⟨h0, h1, h2, h3⟩ := h.row k hk
    exact ⟨(World.cell?_of_block (w := w) (a := ⟨b, off + k * 4, none⟩) he).trans h0, (World.cell?_of_block (w := w) (a := ⟨b, off + k * 4 + 1, none⟩) he).trans h1, (World.cell?_of_block (w := w) (a := ⟨b, off + k * 4 + 2, none⟩) he).trans h2, (World.cell?_of_block (w := w) (a := ⟨b, off + k * 4 + 3, none⟩) he).trans h3⟩⟩
end Go.Proofs.YtajeelbeochojaaGreatDoor

/-
  Layer 8's build.
-/
namespace Go.Proofs.YtajeelbeochojaaGreatDoor
open Go.RowKit
set_option linter.unusedVariables false
set_option linter.unusedSimpArgs false

end Go.Proofs.YtajeelbeochojaaGreatDoor

/-
  Layer 8's numbers of each kind; the values of all kinds.
-/
namespace Go.Proofs.YtajeelbeochojaaGreatDoor
open Go.RowKit
set_option linter.unusedVariables false
set_option linter.unusedSimpArgs false

/-! ### the lists -/
/-! ### the values -/
end Go.Proofs.YtajeelbeochojaaGreatDoor

/-
  Layer 8's Detail, Slot, Root, Count.
-/
namespace Go.Proofs.YtajeelbeochojaaGreatDoor
open Go.RowKit
set_option linter.unusedVariables false
set_option linter.unusedSimpArgs false

end Go.Proofs.YtajeelbeochojaaGreatDoor

/-
  Layer 8's read: what it reads, and where it writes.
-/
namespace Go.Proofs.YtajeelbeochojaaGreatDoor
open Go.RowKit
set_option linter.unusedVariables false
set_option linter.unusedSimpArgs false

/-- all but some blocks as they were -/
structure Frm (G : Nat → Prop) (w w' : World) : Prop where
  os : w'.os = w.os
  tape : w'.tape = w.tape
  output : w'.output = w.output
  size : w.heap.size ≤ w'.heap.size
  block : ∀ q, q < w.heap.size → ¬ G q → w'.heap[q]? = w.heap[q]?
theorem Frm.of_below {G : Nat → Prop} {w w' : World} (h : Below w.heap.size w w') : Frm G w w' := ⟨h.os, h.tape, h.output, h.size, fun q hq _ => h.block q hq⟩
theorem Frm.trans {G : Nat → Prop} {a b c : World} (h : Frm G a b) (k : Frm G b c) : Frm G a c :=
  ⟨k.os.trans h.os, k.tape.trans h.tape, k.output.trans h.output, Nat.le_trans h.size k.size, fun q hq hg => (k.block q (Nat.lt_of_lt_of_le hq h.size) hg).trans (h.block q hq hg)⟩
theorem Frm.set {G : Nat → Prop} {w0 w : World} (h : Frm G w0 w) {p : Addr} (hp : G p.block) (v : Value) : Frm G w0 (w.setCell p v) :=
  ⟨h.os, h.tape, h.output, by simpa [World.setCell] using h.size, fun q hq hg => (Below.heap_setCell w p v q (fun e => hg (e ▸ hp))).trans (h.block q hq hg)⟩
theorem Frm.below {G : Nat → Prop} {a w w' : World} (h : Frm G w w') (hb : Below a.heap.size a w) (hG : ∀ q, G q → a.heap.size ≤ q) : Below a.heap.size a w' :=
  ⟨h.os.trans hb.os, h.tape.trans hb.tape, h.output.trans hb.output, Nat.le_trans hb.size h.size, fun q hq => (h.block q (Nat.lt_of_lt_of_le hq hb.size) (fun e => by have := hG q e; omega)).trans (hb.block q hq)⟩

/-- where the pointers lead: cells that may be written, each another -/
structure TgtAt (w : World) (n : Nat) (g o : Nat → Nat) : Prop where
  row : ∀ k, k < n → ∃ cs t, w.heap[g k]? = some (.cells cs t (0, 0)) ∧ o k < cs.size
  apart : ∀ i j, i < j → j < n → (⟨g i, o i, none⟩ : Addr) ≠ ⟨g j, o j, none⟩
theorem TgtAt.later {w w' : World} {n : Nat} {g o : Nat → Nat} (h : TgtAt w n g o) (hb : Below w.heap.size w w') : TgtAt w' n g o :=
  ⟨fun k hk => by obtain ⟨cs, t, e, hs⟩ := h.row k hk; exact ⟨cs, t, (hb.block _ (block_lt e)).trans e, hs⟩, h.apart⟩
theorem TgtAt.lt {w : World} {n : Nat} {g o : Nat → Nat} (h : TgtAt w n g o) {k : Nat} (hk : k < n) : g k < w.heap.size := by
  obtain ⟨cs, t, e, hs⟩ := h.row k hk
  exact block_lt e
theorem TgtAt.cell {w : World} {n : Nat} {g o : Nat → Nat} (h : TgtAt w n g o) {k : Nat} (hk : k < n) : (∃ v, w.cell? ⟨g k, o k, none⟩ = some v) ∧ w.frozen? ⟨g k, o k, none⟩ = false := by
  obtain ⟨cs, t, e, hs⟩ := h.row k hk
  refine ⟨⟨cs[o k], ?_⟩, Lib.frozen_of_heap e _⟩
  rw [cell_of_row w _ _ _ _ _ e]
  exact Array.getElem?_eq_getElem hs
theorem TgtAt.set {w : World} {n : Nat} {g o : Nat → Nat} (h : TgtAt w n g o) {k : Nat} (hk : k < n) (v : Value) : TgtAt (w.setCell ⟨g k, o k, none⟩ v) n g o := by
  refine ⟨fun j hj => ?_, h.apart⟩
  obtain ⟨cs, t, e, hs⟩ := h.row j hj
  by_cases hg : g j = g k
  · rw [hg] at e ⊢
    exact ⟨_, t, heap_setCell_same w _ _ _ _ _ e, by simpa using hs⟩
  · exact ⟨cs, t, (Below.heap_setCell w _ _ _ hg).trans e, hs⟩
theorem TgtAt.drew {w : World} {n : Nat} {g o : Nat → Nat} (h : TgtAt w n g o) : TgtAt w.drew n g o := ⟨h.row, h.apart⟩
theorem Frm.drew {G : Nat → Prop} {w0 w : World} (h : Frm G w0 w) : Frm G w0 w.drew := ⟨h.os, h.tape, h.output, h.size, h.block⟩
end Go.Proofs.YtajeelbeochojaaGreatDoor
