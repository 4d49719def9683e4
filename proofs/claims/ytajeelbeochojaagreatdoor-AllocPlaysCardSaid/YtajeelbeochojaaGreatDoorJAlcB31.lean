/-
  Joined: NodB.
-/
import Derived.LoopTactic
import Derived.Test.YtajeelbeochojaaGreatDoorJAlcB16
import Derived.Test.YtajeelbeochojaaGreatDoorJAlcB24
/-
  Layer 7's nodes in memory; Right; begin.
-/
namespace Go.Proofs.YtajeelbeochojaaGreatDoor
open Go.RowKit
set_option linter.unusedVariables false
set_option linter.unusedSimpArgs false

/-- its parts in memory -/
structure NodIn (w : World) (nd : Nod) (A : Option Addr) (n c : Nat) (A2 : Option Addr) (n2 c2 : Nat) : Prop where
  keys : Ints w A n c nd.keys
  vals : Strs w A2 n2 c2 nd.vals
  tb : i64b nd.tree
  kb : ∀ k ∈ nd.keys, i64b k
  vb : ∀ v ∈ nd.vals, v.length ≤ 9223372036854775807
theorem NodIn.below {w w' : World} {nd : Nod} {A : Option Addr} {n c : Nat} {A2 : Option Addr} {n2 c2 : Nat} (h : NodIn w nd A n c A2 n2 c2) (hb : Below w.heap.size w w') : NodIn w' nd A n c A2 n2 c2 := ⟨h.keys.below hb, h.vals.below hb, h.tb, h.kb, h.vb⟩
theorem NodIn.zero (w : World) : NodIn w Nod.zero none 0 0 none 0 0 := ⟨Ints.nil w, Strs.nil w, by simp [Nod.zero, i64b], by simp [Nod.zero], by simp [Nod.zero]⟩

section
variable {w : World} {p : Nat} {tree : Int} {leaf : Bool} {s1 s2 : Value}
end

/-! ### Right -/
end Go.Proofs.YtajeelbeochojaaGreatDoor
