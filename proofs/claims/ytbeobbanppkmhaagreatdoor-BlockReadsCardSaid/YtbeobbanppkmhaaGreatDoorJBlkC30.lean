/-
  Joined: NodB.
-/
import Derived.LoopTactic
import Derived.Test.YtbeobbanppkmhaaGreatDoorJBlkC14
import Derived.Test.YtbeobbanppkmhaaGreatDoorJBlkC23
/-
  Layer 7's nodes in memory; Right; begin.
-/
namespace Go.Proofs.YtbeobbanppkmhaaGreatDoor
open Go.RowKit
set_option linter.unusedVariables false
set_option linter.unusedSimpArgs false

/-- a node as a value -/
def nodV (nd : Nod) (A : Option Addr) (n c : Nat) (A2 : Option Addr) (n2 c2 : Nat) : Value := .agg #[.int .i64 nd.tree, .bool nd.leaf, .slice A n c, .slice A2 n2 c2]

/-- its parts in memory -/
structure NodIn (w : World) (nd : Nod) (A : Option Addr) (n c : Nat) (A2 : Option Addr) (n2 c2 : Nat) : Prop where
  keys : Ints w A n c nd.keys
  vals : Strs w A2 n2 c2 nd.vals
  tb : i64b nd.tree
  kb : ∀ k ∈ nd.keys, i64b k
  vb : ∀ v ∈ nd.vals, v.length ≤ 9223372036854775807
theorem NodIn.below {w w' : World} {nd : Nod} {A : Option Addr} {n c : Nat} {A2 : Option Addr} {n2 c2 : Nat} (h : NodIn w nd A n c A2 n2 c2) (hb : Below w.heap.size w w') : NodIn w' nd A n c A2 n2 c2 := ⟨h.keys.below hb, h.vals.below hb, h.tb, h.kb, h.vb⟩
theorem NodIn.zero (w : World) : NodIn w Nod.zero none 0 0 none 0 0 := ⟨Ints.nil w, Strs.nil w, by simp [Nod.zero, i64b], by simp [Nod.zero], by simp [Nod.zero]⟩

/-- a node in block p -/
def NodAt (w : World) (p : Nat) (tree : Int) (leaf : Bool) (s1 s2 : Value) : Prop := w.heap[p]? = some (Obj.cells #[.int .i64 tree, .bool leaf, s1, s2] 41 (0, 0))
section
variable {w : World} {p : Nat} {tree : Int} {leaf : Bool} {s1 s2 : Value}
theorem NodAt.c0 (h : NodAt w p tree leaf s1 s2) : w.cell? ⟨p, 0, none⟩ = some (.int .i64 tree) := by rw [cell_of_row w p 0 _ _ _ h]; rfl
theorem NodAt.c1 (h : NodAt w p tree leaf s1 s2) : w.cell? ⟨p, 1, none⟩ = some (.bool leaf) := by rw [cell_of_row w p 1 _ _ _ h]; rfl
theorem NodAt.c2 (h : NodAt w p tree leaf s1 s2) : w.cell? ⟨p, 2, none⟩ = some s1 := by rw [cell_of_row w p 2 _ _ _ h]; rfl
theorem NodAt.c3 (h : NodAt w p tree leaf s1 s2) : w.cell? ⟨p, 3, none⟩ = some s2 := by rw [cell_of_row w p 3 _ _ _ h]; rfl
theorem NodAt.later {w' : World} (h : NodAt w p tree leaf s1 s2) (hb : Below w.heap.size w w') : NodAt w' p tree leaf s1 s2 := (hb.block _ (block_lt h)).trans h
theorem NodAt.new (w : World) (tree : Int) (leaf : Bool) (s1 s2 : Value) : NodAt (w.alloc (.cells #[.int .i64 tree, .bool leaf, s1, s2] 41)) w.heap.size tree leaf s1 s2 := heap_alloc_new w _
end

/-! ### Right -/
theorem capN_pos {tree : Int} {leaf : Bool} : 0 < capN (widN tree leaf) ↔ widN tree leaf ≠ 0 := by
  rcases widN_cases tree leaf with ⟨h1, h2⟩ | ⟨h1, h2⟩ | ⟨h1, h2⟩ | ⟨h1, h2⟩ | ⟨h1, h2⟩ <;> rw [h2, h1] <;> simp

theorem prevK_bd {l : List Int} {i : Nat} (hi : i ≤ l.length) (h : upFrom (-1) (l.take i) = true) : -1 ≤ prevK (-1) l i ∧ prevK (-1) l i ≤ maxK := by
  simp only [prevK]
  split
  · exact ⟨by omega, by simp [maxK]⟩
  · have hm : l.getD (i - 1) 0 ∈ l.take i := by
      rw [List.getD_eq_getElem?_getD, List.getElem?_eq_getElem (by omega)]
      simp only [Option.getD_some]
      have : (l.take i)[i - 1]'(by rw [List.length_take]; omega) = l[i - 1] := List.getElem_take
      rw [← this]
      exact List.getElem_mem _
    have := upFrom_bounds h _ hm
    omega

theorem prevK_succ {p : Int} {l : List Int} {i : Nat} (h : i < l.length) : prevK p l (i + 1) = l[i] := by
  simp [prevK, List.getD_eq_getElem?_getD, h]

theorem followsE_ok {key p : Int} (hp : -1 ≤ p) : followsE key (p + 1) = 0 ↔ p < key ∧ key ≤ maxK := by
  unfold followsE maxK
  split
  · constructor <;> intro h <;> omega
  · split
    · constructor <;> intro h <;> omega
    · constructor <;> intro h <;> omega
theorem strs_cell {w : World} {A : Option Addr} {n c : Nat} {ll : List (List UInt8)} (h : Strs w A n c ll) (hp : 0 < n) :
    ∃ b off, A = some ⟨b, off, none⟩ ∧ b < w.heap.size ∧ ∀ k (hk : k < ll.length), ∃ s : ByteArray, s = ⟨ll[k].toArray⟩ ∧ s.size = ll[k].length ∧ w.cell? ⟨b, off + k, none⟩ = some (.string s) := by
  obtain ⟨b, off, e, hb, hc⟩ := h.row.lit (by rw [strV_length, h.len]; omega)
  exact ⟨b, off, e, hb, fun k hk => ⟨_, rfl, by simp [ByteArray.size], hc k _ (strV_at ll k hk)⟩⟩

end Go.Proofs.YtbeobbanppkmhaaGreatDoor
