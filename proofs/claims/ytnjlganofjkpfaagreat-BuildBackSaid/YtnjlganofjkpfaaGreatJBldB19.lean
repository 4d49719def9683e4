/-
  Joined: FltK.
-/
import Derived.LoopTactic
import Derived.OwnWalk
import Derived.Test.YtnjlganofjkpfaaGreatJBldB15
import Derived.Test.YtnjlganofjkpfaaGreatJBldB02
import Derived.Test.YtnjlganofjkpfaaGreatJBldB09
/-
  fault.Blocks.
-/
namespace Go.Proofs.YtnjlganofjkpfaaGreat
open Go.RowKit
set_option linter.unusedVariables false
set_option linter.unusedSimpArgs false

/-- the blocks of an error's Faults -/
def blocksOf : List Node → List Int
  | [] => []
  | .flt b _ :: l => b :: blocksOf l
  | .num _ :: l => []

/-- the loop of Blocks: what has been gathered, and what is left -/
structure RunB (w0 wr : World) (lv : Value) (done : List Int) (s : List Node) (N : Nat) (tot : List Int) : Prop where
  bel : Below w0.heap.size w0 wr
  own : wr.ownsRow (w0.heap.size + 1) 3 1 lv done.length (i64s done)
  seen : Seen wr w0.heap.size s
  good : Good wr s
  num : count wr w0.heap.size + s.length = N
  all : done ++ blocksOf s = tot

/-- the error has been visited -/
structure MidB (w0 wr : World) (lv : Value) (done : List Int) (x : Node) (s : List Node) (N : Nat) : Prop where
  bel : Below w0.heap.size w0 wr
  own : wr.ownsRow (w0.heap.size + 1) 3 1 lv done.length (i64s done)
  seen : Seen wr w0.heap.size s
  good : Good wr (x :: s)
  num : count wr w0.heap.size + s.length = N

theorem MidB.mlt {w0 wr : World} {lv : Value} {done : List Int} {x : Node} {s : List Node} {N : Nat} (h : MidB w0 wr lv done x s N) : w0.heap.size < wr.heap.size := by
  obtain ⟨es, c, hm, _⟩ := h.seen.ex
  exact block_lt hm
theorem RunB.mlt {w0 wr : World} {lv : Value} {done : List Int} {s : List Node} {N : Nat} {tot : List Int} (h : RunB w0 wr lv done s N tot) : w0.heap.size < wr.heap.size := by
  obtain ⟨es, c, hm, _⟩ := h.seen.ex
  exact block_lt hm

theorem MidB.put {w0 wr w' : World} {lv lv' : Value} {done done' : List Int} {x : Node} {s : List Node} {N : Nat} (h : MidB w0 wr lv done x s N) (ho : w'.ownsRow (w0.heap.size + 1) 3 1 lv' done'.length (i64s done')) (hg : wr.grownBy w' lv.ownBlock) : MidB w0 w' lv' done' x s N := by
  have hap := own_apart h.own
  have hmm : w'.heap[w0.heap.size]? = wr.heap[w0.heap.size]? := hg.block _ h.mlt (fun e => by have := (hap _ e.symm).1; omega)
  have hK : Keeps wr w' := fun p c e => by
    by_cases hp : lv.ownBlock = some p
    · obtain ⟨_, cur, hc⟩ := hap p hp
      rw [hc] at e
      cases e
    · exact (hg.block p (block_lt e) (fun e2 => hp e2.symm)).trans e
  refine ⟨h.bel.trans ⟨hg.os, hg.tape, hg.output, hg.size, fun i hi => hg.block i (by have := h.bel.size; omega) (fun e => by have := (hap _ e.symm).1; omega)⟩, ho, h.seen.same hmm hK, h.good.same hK, by rw [count_same hmm]; exact h.num⟩

theorem MidB.later {w0 wr w' : World} {lv : Value} {done : List Int} {x : Node} {s : List Node} {N : Nat} (h : MidB w0 wr lv done x s N) (hb : Below wr.heap.size wr w') : MidB w0 w' lv done x s N :=
  ⟨h.bel.trans (hb.mono h.bel.size), own_kept h.own (fun k h1 h2 => hb.block k h2), h.seen.later hb, h.good.below hb, by rw [count_same (hb.block _ h.mlt)]; exact h.num⟩

theorem MidB.next {w0 wr : World} {lv : Value} {done : List Int} {x : Node} {s : List Node} {N : Nat} {tot : List Int} (h : MidB w0 wr lv done x s N) (ht : done ++ blocksOf s = tot) : RunB w0 wr lv done s N tot := ⟨h.bel, h.own, h.seen, h.good.tail, h.num, ht⟩

end Go.Proofs.YtnjlganofjkpfaaGreat
