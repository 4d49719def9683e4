/-
  Joined: SlotA, SlotB, SlotC, SlotF.
-/
import Derived.Test.YtnjlganofjkpfaaGreatDoorJBldC15
import Derived.Test.YtnjlganofjkpfaaGreatDoorJBldC18
import Derived.Test.YtnjlganofjkpfaaGreatDoorJBldC23
import Derived.Test.YtnjlganofjkpfaaGreatDoorJBldC12
import Derived.Test.YtnjlganofjkpfaaGreatDoorJBldC24
import Derived.Test.YtnjlganofjkpfaaGreatDoorJBldC29
import Derived.Test.YtnjlganofjkpfaaGreatDoorJBldC28
import Derived.Test.YtnjlganofjkpfaaGreatDoorJBldC30
import Derived.Test.YtnjlganofjkpfaaGreatDoorJBldC11
import Derived.Test.YtnjlganofjkpfaaGreatDoorJBldC03
/-
  Layer 10: Put.
-/
namespace Go.Proofs.YtnjlganofjkpfaaGreatDoor
open Go.RowKit
set_option linter.unusedVariables false
set_option linter.unusedSimpArgs false

/-- what the program's Put answers -/
def SlPut (l : List Slt) (w : World) (e : Ending) (w' : World) : Prop :=
  (okS10 l = true → ∃ g, e = .returned (.tuple #[.slice (some ⟨g, 0, none⟩) 244 244, .int .i64 0]) ∧ Own8 w' w.heap.size g (encS10 l)) ∧ (okS10 l = false → e = .returned (.tuple #[.slice none 0 0, .int .i64 1])) ∧ Below w.heap.size w w'
theorem SlPut.bad {l : List Slt} {w w' : World} (h : okS10 l = false) (hb : Below w.heap.size w w') : SlPut l w (.returned (.tuple #[.slice none 0 0, .int .i64 1])) w' :=
  ⟨fun e => (by rw [h] at e; cases e), fun _ => rfl, hb⟩
theorem SlPut.good {l : List Slt} {w w' : World} {g : Nat} (h : okS10 l = true) (hO : Own8 w' w.heap.size g (encS10 l)) (hb : Below w.heap.size w w') : SlPut l w (.returned (.tuple #[.slice (some ⟨g, 0, none⟩) 244 244, .int .i64 0])) w' :=
  ⟨fun _ => ⟨g, rfl, hO⟩, fun e => (by rw [h] at e; cases e), hb⟩
end Go.Proofs.YtnjlganofjkpfaaGreatDoor

/-
  Layer 10: decode, and the function literal that takes from the input.
-/
namespace Go.Proofs.YtnjlganofjkpfaaGreatDoor
open Go.RowKit
set_option linter.unusedVariables false
set_option linter.unusedSimpArgs false

/-- the bytes from s on -/
theorem Bytes8.rest {w : World} {b off m c : Nat} {l : List UInt8} (h : Bytes8 w (some ⟨b, off, none⟩) m c l) {s : Nat} (hs : s ≤ m) : Bytes8 w (if c = s then some ⟨b, off, none⟩ else some ⟨b, off + s, none⟩) (m - s) (c - s) (l.drop s) := by
  have hc := h.cap
  have hm := h.most
  refine ⟨by rw [List.length_drop, h.len], by omega, by omega, ?_⟩
  have := h.row.cut_lit (m := s) (c := c) (by rw [u8s_length, h.len]; exact hc)
  rwa [u8s_drop] at this
theorem Bytes8.first {w : World} {A : Option Addr} {m c : Nat} {l : List UInt8} (h : Bytes8 w A m c l) {s : Nat} (hs : s ≤ m) : Bytes8 w A s c (l.take s) := by
  have hc := h.cap
  refine ⟨by rw [List.length_take, h.len]; omega, by omega, h.most, ?_⟩
  have := h.row.take s
  rwa [u8s_take] at this

/-- a variable that holds a slice of bytes -/
def RestAt (w : World) (q : Nat) (A : Option Addr) (m c : Nat) : Prop := w.heap[q]? = some (.cells #[.slice A m c] 29 (0, 0))

/-! ### decode -/
end Go.Proofs.YtnjlganofjkpfaaGreatDoor

/-
  Layer 10: Read.
-/
namespace Go.Proofs.YtnjlganofjkpfaaGreatDoor
open Go.RowKit
set_option linter.unusedVariables false
set_option linter.unusedSimpArgs false

theorem readSE10_bad {b : List UInt8} (h : formS b = false) : readSE10 b = 7 ∧ readSL10 b = [] := by
  have e : readSE10 b = 7 := by rw [readSE10, h]; rfl
  exact ⟨e, by rw [readSL10, if_neg (by rw [e]; decide)]⟩
/-- what Read answers -/
def SlRd (b : List UInt8) (w : World) (e : Ending) (w' : World) : Prop := ∃ A m c, e = .returned (.tuple #[.slice A m c, .int .i64 (readSE10 b)]) ∧ Trs w' A m c (readSL10 b) ∧ Below w.heap.size w w'
theorem SlRd.bad {b : List UInt8} {w w' : World} (h : formS b = false) (hb : Below w.heap.size w w') : SlRd b w (.returned (.tuple #[.slice none 0 0, .int .i64 7])) w' := by
  obtain ⟨e1, e2⟩ := readSE10_bad h
  exact ⟨none, 0, 0, by rw [e1], by rw [e2]; exact Trs.nil _, hb⟩

/-- the texts as they are taken -/
def tookP (l : List UInt8) (N k : Nat) : List (List UInt8) := (List.range k).map (sltAt10 l) ++ List.replicate (N - k) []
theorem tookP_length (l : List UInt8) {N k : Nat} (h : k ≤ N) : (tookP l N k).length = N := by simp [tookP]; omega
theorem tookP_step (l : List UInt8) {N k : Nat} (hk : k < N) : (tookP l N k).set k (sltAt10 l k) = tookP l N (k + 1) := by
  rw [tookP, List.set_append_right _ _ (by simp), tookP, List.range_succ, List.map_append, show N - k = (N - (k + 1)) + 1 by omega, List.replicate_succ]
  simp

/-- what Read keeps: its variable, the texts, all below as it was -/
structure TookAt (w W : World) (q g : Nat) (l : List UInt8) (N k : Nat) : Prop where
  bel : Below w.heap.size w W
  low : w.heap.size ≤ q
  apart : g ≠ q
  txt : OwnT W w.heap.size g (tookP l N k)
  rest : ∃ A m c, RestAt W q A m c ∧ Bytes8 w A m c (l.drop (4 + 16 * k))

theorem TookAt.step {w W : World} {q g : Nat} {l : List UInt8} {N k : Nat} (h : TookAt w W q g l N k) (hk : k < N) (hl : l.length = 244) (hN : N ≤ 15) : ∃ A m c, 16 ≤ m ∧ Bytes8 w A m c (l.drop (4 + 16 * k)) ∧ RestAt W q A m c ∧
    ∀ A2, Bytes8 w A2 (m - 16) (c - 16) ((l.drop (4 + 16 * k)).drop 16) → (convert 29 9 (.slice A 16 c)).run Tryz.prog (W.setCell ⟨q, 0, none⟩ (.slice A2 (m - 16) (c - 16))) = .ok (.string ⟨(sltAt10 l k).toArray⟩) (W.setCell ⟨q, 0, none⟩ (.slice A2 (m - 16) (c - 16))) ∧
      (∃ z, (W.setCell ⟨q, 0, none⟩ (.slice A2 (m - 16) (c - 16))).cell? ⟨g, k, none⟩ = some (.string z)) ∧ (W.setCell ⟨q, 0, none⟩ (.slice A2 (m - 16) (c - 16))).frozen? ⟨g, k, none⟩ = false ∧
      TookAt w ((W.setCell ⟨q, 0, none⟩ (.slice A2 (m - 16) (c - 16))).setCell ⟨g, k, none⟩ (.string ⟨(sltAt10 l k).toArray⟩)) q g l N (k + 1) := by
  obtain ⟨A, m, c, hr, hB⟩ := h.rest
  have hm : m = 244 - (4 + 16 * k) := by rw [← hB.len, List.length_drop, hl]
  have hm2 : 16 ≤ m := by omega
  refine ⟨A, m, c, hm2, hB, hr, fun A2 hB2 => ?_⟩
  have hb2 : Below w.heap.size w (W.setCell ⟨q, 0, none⟩ (.slice A2 (m - 16) (c - 16))) := h.bel.setCell (p := ⟨q, 0, none⟩) h.low _
  have hT2 : OwnT (W.setCell ⟨q, 0, none⟩ (.slice A2 (m - 16) (c - 16))) w.heap.size g (tookP l N k) := h.txt.other _ _ h.apart
  have hr2 : RestAt (W.setCell ⟨q, 0, none⟩ (.slice A2 (m - 16) (c - 16))) q A2 (m - 16) (c - 16) := by
    unfold RestAt
    rw [heap_setCell_same _ q 0 _ _ _ hr]
    rfl
  refine ⟨run_str ((hB.first hm2).below hb2), ⟨_, hT2.cell (by rw [tookP_length l (by omega)]; exact hk)⟩, hT2.free k, ?_⟩
  refine ⟨hb2.setCell (p := ⟨g, k, none⟩) h.txt.low _, h.low, h.apart, ?_, ⟨A2, m - 16, c - 16, ?_, ?_⟩⟩
  · have := hT2.set k (sltAt10 l k)
    rw [tookP_step l hk] at this
    exact this
  · unfold RestAt
    rw [heap_setCell_other _ _ q _ (fun e => h.apart e.symm)]
    exact hr2
  · rw [List.drop_drop] at hB2
    exact hB2

end Go.Proofs.YtnjlganofjkpfaaGreatDoor

/-
  Layer 10: the reference's Read.
-/
namespace Go.Proofs.YtnjlganofjkpfaaGreatDoor
open Go.RowKit
set_option linter.unusedVariables false
set_option linter.unusedSimpArgs false

/-- what Read answers, and what it hands back is newer than all that stood -/
def SlRdF (b : List UInt8) (w : World) (e : Ending) (w' : World) : Prop := ∃ A m c, e = .returned (.tuple #[.slice A m c, .int .i64 (readSE10 b)]) ∧ Trs w' A m c (readSL10 b) ∧ Below w.heap.size w w' ∧ Newer w.heap.size A
theorem SlRdF.bad {b : List UInt8} {w w' : World} (h : formS b = false) (hb : Below w.heap.size w w') : SlRdF b w (.returned (.tuple #[.slice none 0 0, .int .i64 7])) w' := by
  obtain ⟨h1, h2⟩ := readSE10_bad h
  exact ⟨none, 0, 0, by rw [h1], by rw [h2]; exact Trs.nil _, hb, Newer.nil _⟩

end Go.Proofs.YtnjlganofjkpfaaGreatDoor
