/-
  Joined: FltA, FltB.
-/
import Derived.Test.YtnjlganofjkpfaaGreatChecked
import Derived.LaidEql
import Derived.Stop.Asserts
import Derived.MapKept
import Derived.Carry
import Derived.Deep.DeepMust
import Derived.Outline
import Derived.Test.YtnjlganofjkpfaaGreatJBldB03
import Derived.Tactics2
import Derived.Defers
import Derived.Recover
import Derived.Laws.Pointers
/-
  Layer 5's errors as values: chains of faults, others and numbers; an error as a key of a map.
-/
namespace Go.Proofs.YtnjlganofjkpfaaGreat
open Go.RowKit
set_option linter.unusedVariables false
set_option linter.unusedSimpArgs false

/-- one link of an error, from the outermost one on: a Fault with its block's number, in block p of memory; an error of another kind; a number -/
inductive Node where
  | flt (b : Int) (p : Nat)
  | num (n : Int)

/-- the error that the links make -/
def val : List Node → Value
  | [] => .nilIface
  | .flt _ p :: _ => .iface 112 (.pointer (some ⟨p, 0, none⟩))
  | .num n :: l => (fun _ => .iface 49 (.int .i64 n)) (val l)

/-- the Faults of l lie below block p -/
def Lower (p : Nat) (l : List Node) : Prop := ∀ b q, Node.flt b q ∈ l → q < p
/-- none of l is of another kind -/
def Plain (l : List Node) : Prop := True

/-- memory holds these links -/
def Good (w : World) : List Node → Prop
  | [] => True
  | .flt b p :: l => w.heap[p]? = some (.cells #[.int .i64 b, val l] 114 (0, 0)) ∧ Lower p l ∧ l ≠ [] ∧ Good w l
  | .num _ :: l => l = []

theorem Good.below {w w' : World} (hb : Below w.heap.size w w') : ∀ {l : List Node}, Good w l → Good w' l
  | [], _ => trivial
  | .flt _ p :: l, ⟨h1, h2, h3, h4⟩ => ⟨(hb.block p (block_lt h1)).trans h1, h2, h3, Good.below hb h4⟩
  | .num _ :: l, h => h

/-- every Fault stands as it stood -/
def Keeps (w w' : World) : Prop := ∀ (p : Nat) (c : Array Value), w.heap[p]? = some (Obj.cells c 114 (0, 0)) → w'.heap[p]? = some (Obj.cells c 114 (0, 0))
theorem Keeps.trans {a b c : World} (h : Keeps a b) (k : Keeps b c) : Keeps a c := fun p x e => k p x (h p x e)
theorem Keeps.of_below {w w' : World} (hb : Below w.heap.size w w') : Keeps w w' := fun p x e => (hb.block p (block_lt e)).trans e
/-- all but one block, which is no Fault -/
theorem Keeps.of_grown {w w' : World} {g : Nat} (h : w.grownBy w' (some g)) (hg : ∀ c, w.heap[g]? ≠ some (Obj.cells c 114 (0, 0))) : Keeps w w' := fun p x e => by
  by_cases hp : p = g
  · subst hp; exact absurd e (hg x)
  · exact (h.block p (block_lt e) (fun h2 => hp (by injection h2))).trans e

theorem Good.same {w w' : World} (hb : Keeps w w') : ∀ {l : List Node}, Good w l → Good w' l
  | [], _ => trivial
  | .flt _ p :: l, ⟨h1, h2, h3, h4⟩ => ⟨hb _ _ h1, h2, h3, Good.same hb h4⟩
  | .num _ :: l, h => h

theorem Good.tail {w : World} {x : Node} {l : List Node} (h : Good w (x :: l)) : Good w l := by
  cases x with
  | flt b p => exact h.2.2.2
  | num n => have : l = [] := h; subst this; trivial

/-- a key of a map that is none of the errors of l -/
def Past (w : World) (l : List Node) (v : Value) : Prop :=
  (∃ p c, v = .iface 112 (.pointer (some ⟨p, 0, none⟩)) ∧ w.heap[p]? = some (.cells c 114 (0, 0)) ∧ Lower p l) ∨ (∃ a, v = .iface 30 a ∧ Plain l)

theorem Past.tail {w : World} {x : Node} {l : List Node} {v : Value} (h : Past w (x :: l) v) : Past w l v := by
  rcases h with ⟨p, c, rfl, h1, h2⟩ | ⟨a, rfl, h1⟩
  · exact .inl ⟨p, c, rfl, h1, fun b q hq => h2 b q (List.mem_cons_of_mem _ hq)⟩
  · exact .inr ⟨a, rfl, trivial⟩
theorem Past.same {w w' : World} {l : List Node} {v : Value} (hb : Keeps w w') (h : Past w l v) : Past w' l v := by
  rcases h with ⟨p, c, rfl, h1, h2⟩ | h
  · exact .inl ⟨p, c, rfl, hb _ _ h1, h2⟩
  · exact .inr h
/-- an error's own key, to what it wraps -/
theorem Past.own {w : World} {x : Node} {l : List Node} (h : Good w (x :: l)) (hl : l ≠ []) : Past w l (val (x :: l)) := by
  cases x with
  | flt b p => exact .inl ⟨p, _, rfl, h.1, h.2.1⟩
  | num n => exact absurd h hl

theorem comp_num : (Tryz.prog.info? 49).map (fun i => i.comparable) = some true := by kernel_rfl

/-- how much a map holds -/
def count (w : World) (m : Nat) : Nat := match w.heap[m]? with
  | some (.map es _) => es.size
  | _ => 0
theorem count_same {w w' : World} {m : Nat} (h : w'.heap[m]? = w.heap[m]?) : count w' m = count w m := by
  unfold count; rw [h]

/-- the map of what has been visited: at block m -/
structure Seen (w : World) (m : Nat) (l : List Node) : Prop where
  ex : ∃ es c, w.heap[m]? = some (.map es c) ∧ (l ≠ [] → ∀ e ∈ es.toList, Past w l e.key)

theorem Seen.first (w : World) (l : List Node) : Seen (w.alloc (.map #[] 0)) w.heap.size l := ⟨#[], 0, (MapKept.heap_alloc w _).1, fun _ e he => by simp at he⟩
theorem Seen.same {w w' : World} {m : Nat} {l : List Node} (h : Seen w m l) (hm : w'.heap[m]? = w.heap[m]?) (hk : Keeps w w') : Seen w' m l := by
  obtain ⟨es, c, hb, hp⟩ := h.ex
  exact ⟨es, c, hm.trans hb, fun hl e he => (hp hl e he).same hk⟩
theorem Seen.later {w w' : World} {m : Nat} {l : List Node} (h : Seen w m l) (hb : Below w.heap.size w w') : Seen w' m l := by
  obtain ⟨es, c, hm, hp⟩ := h.ex
  exact h.same (hb.block m (block_lt hm)) (.of_below hb)

end Go.Proofs.YtnjlganofjkpfaaGreat

/-
  fault.enter: an error is visited for the first time.
-/
namespace Go.Proofs.YtnjlganofjkpfaaGreat
open Go.RowKit
set_option linter.unusedVariables false
set_option linter.unusedSimpArgs false

/-- all but block m stands as it stood; there may be more -/
structure KeptMap (m : Nat) (w w' : World) : Prop where
  os : w'.os = w.os
  tape : w'.tape = w.tape
  output : w'.output = w.output
  size : w.heap.size ≤ w'.heap.size
  block : ∀ k, k < w.heap.size → k ≠ m → w'.heap[k]? = w.heap[k]?

theorem KeptMap.grown {m : Nat} {w w' : World} (h : KeptMap m w w') : w.grownBy w' (some m) := ⟨h.os, h.tape, h.output, h.size, fun k hk hm => h.block k hk (fun e => hm (by rw [e]))⟩
theorem KeptMap.keeps {m : Nat} {w w' : World} {l : List Node} (h : KeptMap m w w') (hs : Seen w m l) : Keeps w w' := by
  obtain ⟨es, k, hb, _⟩ := hs.ex
  exact .of_grown h.grown (fun c e => by rw [hb] at e; cases e)
theorem KeptMap.below {m B : Nat} {w w' : World} (h : KeptMap m w w') (hB : B ≤ m) (hm : B ≤ w.heap.size) : Below B w w' := ⟨h.os, h.tape, h.output, h.size, fun k hk => h.block k (by omega) (by omega)⟩

theorem KeptMap.setCell {m : Nat} {w w' : World} (h : KeptMap m w w') {p : Addr} (hp : w.heap.size ≤ p.block) (v : Value) : KeptMap m w (w'.setCell p v) :=
  ⟨h.os, h.tape, h.output, by simpa [World.setCell] using h.size, fun k hk hm => by rw [Below.heap_setCell _ _ _ _ (by omega)]; exact h.block k hk hm⟩

end Go.Proofs.YtnjlganofjkpfaaGreat
