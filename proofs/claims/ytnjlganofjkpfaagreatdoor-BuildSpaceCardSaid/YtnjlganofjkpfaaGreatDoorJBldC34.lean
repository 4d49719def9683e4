/-
  Joined: NodG, NodH, NodIA, NodIB, NodIC, NodID, NodJ, NodK.
-/
import Derived.Laws.ResultCell
import Derived.Deep.RegionHeld3
import Derived.BigRegion
import Derived.Test.YtnjlganofjkpfaaGreatDoorJBldC33
import Derived.Test.YtnjlganofjkpfaaGreatDoorJBldC11
import Derived.Test.YtnjlganofjkpfaaGreatDoorJBldC15
import Derived.WalkSmall
import Derived.BigQuiet
import Derived.Test.YtnjlganofjkpfaaGreatDoorJBldC03
/-
  Layer 7's Read: what it asks of the form.
-/
namespace Go.Proofs.YtnjlganofjkpfaaGreatDoor
open Go.RowKit
set_option linter.unusedVariables false
set_option linter.unusedSimpArgs false

/-! ### the form, as Read asks it -/
/-! ### nodes as results -/
theorem NodAt.store {w : World} {g : Nat} {tree : Int} {leaf : Bool} {s1 s2 : Value} (h : NodAt w g tree leaf s1 s2) (tree' : Int) (leaf' : Bool) (s1' s2' : Value) :
    NodAt ((((w.setCell ⟨g, 0, none⟩ (.int .i64 tree')).setCell ⟨g, 1, none⟩ (.bool leaf')).setCell ⟨g, 2, none⟩ s1').setCell ⟨g, 3, none⟩ s2') g tree' leaf' s1' s2' := by
  unfold NodAt
  rw [heap_setCell_same _ g 3 _ _ _ (heap_setCell_same _ g 2 _ _ _ (heap_setCell_same _ g 1 _ _ _ (heap_setCell_same w g 0 _ _ _ h)))]
  rfl

theorem below_store7 {B g : Nat} {w0 w : World} (hb : Below B w0 w) (hg : B ≤ g) (v0 v1 v2 v3 : Value) : Below B w0 ((((w.setCell ⟨g, 0, none⟩ v0).setCell ⟨g, 1, none⟩ v1).setCell ⟨g, 2, none⟩ v2).setCell ⟨g, 3, none⟩ v3) :=
  (((hb.setCell (p := ⟨g, 0, none⟩) hg _).setCell (p := ⟨g, 1, none⟩) hg _).setCell (p := ⟨g, 2, none⟩) hg _).setCell (p := ⟨g, 3, none⟩) hg _

/-- the result's variable and the node's, all below as it was -/
structure RdN (w0 w : World) (tree : Int) (leaf : Bool) : Prop where
  zero : NodAt w w0.heap.size 0 false (.slice none 0 0) (.slice none 0 0)
  node : NodAt w (w0.heap.size + 1) tree leaf (.slice none 0 0) (.slice none 0 0)
  bel : Below w0.heap.size w0 w
theorem RdN.later {w0 w w' : World} {tree : Int} {leaf : Bool} (h : RdN w0 w tree leaf) (hb : Below w.heap.size w w') : RdN w0 w' tree leaf := ⟨h.zero.later hb, h.node.later hb, h.bel.trans (hb.mono h.bel.size)⟩

abbrev zN : Obj := .cells #[.int .i64 0, .bool false, .slice none 0 0, .slice none 0 0] 76

theorem RdN.start (w : World) (tree : Int) (leaf : Bool) : RdN w ((w.alloc zN).alloc (.cells #[.int .i64 tree, .bool leaf, .slice none 0 0, .slice none 0 0] 76)).drew tree leaf := by
  obtain ⟨h1, h2, h3⟩ := two_nodes w Nod.zero ⟨tree, leaf, [], []⟩ (.slice none 0 0) (.slice none 0 0) (.slice none 0 0) (.slice none 0 0)
  exact ⟨h1, h2, h3.drew⟩

end Go.Proofs.YtnjlganofjkpfaaGreatDoor

/-
  Layer 7's Read: what its loop keeps.
-/
namespace Go.Proofs.YtnjlganofjkpfaaGreatDoor
open Go.RowKit
set_option linter.unusedVariables false
set_option linter.unusedSimpArgs false

theorem nod_own_other {w w' : World} {base : Nat} {e : TypeId} {v : Value} {n : Nat} {xs : List Value} (h : w.ownsRow base e 1 v n xs) (hk : ∀ k, v.ownBlock = some k → w'.heap[k]? = w.heap[k]?) : w'.ownsRow base e 1 v n xs := by
  refine ⟨h.1, ?_⟩
  rcases h.2 with hn | ⟨g, cap, cur, hv, hg, hh, rest⟩
  · exact .inl hn
  · refine .inr ⟨g, cap, cur, hv, hg, (hk g ?_).trans hh, rest⟩
    rw [hv]
    rfl

/-- what the loop keeps: i keys and j values so far -/
structure LpN (w0 w : World) (tree : Int) (leaf : Bool) (i : Nat) (Ak : Option Addr) (ck : Nat) (j : Nat) (Av : Option Addr) (cv : Nat) (ks : List Int) (vs : List (List UInt8)) : Prop where
  zero : NodAt w w0.heap.size 0 false (.slice none 0 0) (.slice none 0 0)
  node : NodAt w (w0.heap.size + 1) tree leaf (.slice Ak i ck) (.slice Av j cv)
  bel : Below w0.heap.size w0 w
  ok : w.ownsRow (w0.heap.size + 2) 3 1 (.slice Ak i ck) i (i64s ks)
  ov : w.ownsRow (w0.heap.size + 2) 9 1 (.slice Av j cv) j (strV vs)

section
variable {w0 w w' : World} {tree : Int} {leaf : Bool} {i j ck cv : Nat} {Ak Av : Option Addr} {ks : List Int} {vs : List (List UInt8)}

theorem LpN.low (h : LpN w0 w tree leaf i Ak ck j Av cv ks vs) : w0.heap.size + 2 ≤ w.heap.size := by have := block_lt h.node; omega
theorem LpN.later (h : LpN w0 w tree leaf i Ak ck j Av cv ks vs) (hb : Below w.heap.size w w') : LpN w0 w' tree leaf i Ak ck j Av cv ks vs :=
  ⟨h.zero.later hb, h.node.later hb, h.bel.trans (hb.mono h.bel.size), own_kept h.ok (fun k _ hk => hb.block k hk), own_kept h.ov (fun k _ hk => hb.block k hk)⟩
theorem LpN.apart (h : LpN w0 w tree leaf i Ak ck j Av cv ks vs) (g : Nat) (hk : (Value.slice Ak i ck).ownBlock = some g) : (Value.slice Av j cv).ownBlock ≠ some g := fun hv => by
  obtain ⟨_, c1, h1⟩ := own_apart h.ok g hk
  obtain ⟨_, c2, h2⟩ := own_apart h.ov g hv
  rw [h1] at h2
  injection h2 with h2
  injection h2 with _ h3 _
  exact absurd h3 (by decide)

/-- one more key -/
theorem LpN.addKey (h : LpN w0 w tree leaf i Ak ck j Av cv ks vs) {v' : Value} {key : Int} (hown : w'.ownsRow (w0.heap.size + 2) 3 1 v' (i + 1) (i64s ks ++ [.int .i64 key])) (hg : w.grownBy w' (Value.slice Ak i ck).ownBlock) :
    ∃ Ak' ck', v' = .slice Ak' (i + 1) ck' ∧ NodAt w' (w0.heap.size + 1) tree leaf (.slice Ak i ck) (.slice Av j cv) ∧ LpN w0 (w'.setCell ⟨w0.heap.size + 1, 2, none⟩ (.slice Ak' (i + 1) ck')) tree leaf (i + 1) Ak' ck' j Av cv (ks ++ [key]) vs := by
  obtain ⟨Ak', ck', rfl, _, _⟩ := ownsRow_form hown
  have hlow := h.low
  have keep : ∀ g, g < w0.heap.size + 2 → w'.heap[g]? = w.heap[g]? := fun g hlt => hg.block g (by omega) (fun e => by have := (own_apart h.ok g e.symm).1; omega)
  have hn : NodAt w' (w0.heap.size + 1) tree leaf (.slice Ak i ck) (.slice Av j cv) := (keep _ (by omega)).trans h.node
  refine ⟨Ak', ck', rfl, hn, ?_, ?_, ?_, ?_, ?_⟩
  · unfold NodAt
    rw [heap_setCell_other _ _ w0.heap.size _ (by simp)]
    exact (keep _ (by omega)).trans h.zero
  · unfold NodAt
    rw [heap_setCell_same _ _ 2 _ _ _ hn]
    rfl
  · refine Below.setCell ?_ (p := ⟨w0.heap.size + 1, 2, none⟩) (by simp) _
    exact h.bel.trans ⟨hg.os, hg.tape, hg.output, hg.size, fun k hk => keep k (by omega)⟩
  · have e : i64s (ks ++ [key]) = i64s ks ++ [.int .i64 key] := i64s_append _ _
    rw [e]
    refine nod_own_other hown fun k hk => ?_
    have := (own_apart hown k hk).1
    exact heap_setCell_other _ _ _ _ (by simp; omega)
  · refine nod_own_other h.ov fun k hk => ?_
    have h1 := own_apart h.ov k hk
    rw [heap_setCell_other _ _ _ _ (by simp; omega)]
    obtain ⟨hb, cur, hc⟩ := h1
    exact hg.block k (block_lt hc) (fun e => h.apart k e.symm hk)

/-- one more value -/
theorem LpN.addVal (h : LpN w0 w tree leaf i Ak ck j Av cv ks vs) {v' : Value} {s : List UInt8} (hown : w'.ownsRow (w0.heap.size + 2) 9 1 v' (j + 1) (strV vs ++ [.string ⟨s.toArray⟩])) (hg : w.grownBy w' (Value.slice Av j cv).ownBlock) :
    ∃ Av' cv', v' = .slice Av' (j + 1) cv' ∧ NodAt w' (w0.heap.size + 1) tree leaf (.slice Ak i ck) (.slice Av j cv) ∧ LpN w0 (w'.setCell ⟨w0.heap.size + 1, 3, none⟩ (.slice Av' (j + 1) cv')) tree leaf i Ak ck (j + 1) Av' cv' ks (vs ++ [s]) := by
  obtain ⟨Av', cv', rfl, _, _⟩ := ownsRow_form hown
  have hlow := h.low
  have keep : ∀ g, g < w0.heap.size + 2 → w'.heap[g]? = w.heap[g]? := fun g hlt => hg.block g (by omega) (fun e => by have := (own_apart h.ov g e.symm).1; omega)
  have hn : NodAt w' (w0.heap.size + 1) tree leaf (.slice Ak i ck) (.slice Av j cv) := (keep _ (by omega)).trans h.node
  refine ⟨Av', cv', rfl, hn, ?_, ?_, ?_, ?_, ?_⟩
  · unfold NodAt
    rw [heap_setCell_other _ _ w0.heap.size _ (by simp)]
    exact (keep _ (by omega)).trans h.zero
  · unfold NodAt
    rw [heap_setCell_same _ _ 3 _ _ _ hn]
    rfl
  · refine Below.setCell ?_ (p := ⟨w0.heap.size + 1, 3, none⟩) (by simp) _
    exact h.bel.trans ⟨hg.os, hg.tape, hg.output, hg.size, fun k hk => keep k (by omega)⟩
  · refine nod_own_other h.ok fun k hk => ?_
    have h1 := own_apart h.ok k hk
    rw [heap_setCell_other _ _ _ _ (by simp; omega)]
    obtain ⟨hb, cur, hc⟩ := h1
    exact hg.block k (block_lt hc) (fun e => h.apart k hk e.symm)
  · have e : strV (vs ++ [s]) = strV vs ++ [.string ⟨s.toArray⟩] := strV_append _ _
    rw [e]
    refine nod_own_other hown fun k hk => ?_
    have := (own_apart hown k hk).1
    exact heap_setCell_other _ _ _ _ (by simp; omega)

end

/-! ### what the loop of Read finds -/
end Go.Proofs.YtnjlganofjkpfaaGreatDoor

/-
  Layer 7's Read: the zeros, and the loop.
-/
namespace Go.Proofs.YtnjlganofjkpfaaGreatDoor
open Go.RowKit
set_option linter.unusedVariables false
set_option linter.unusedSimpArgs false

end Go.Proofs.YtnjlganofjkpfaaGreatDoor

/-
  Layer 7's Read: the zeros, and the loop.
-/
namespace Go.Proofs.YtnjlganofjkpfaaGreatDoor
open Go.RowKit
set_option linter.unusedVariables false
set_option linter.unusedSimpArgs false

end Go.Proofs.YtnjlganofjkpfaaGreatDoor

/-
  Layer 7's Read: the zeros, and the loop.
-/
namespace Go.Proofs.YtnjlganofjkpfaaGreatDoor
open Go.RowKit
set_option linter.unusedVariables false
set_option linter.unusedSimpArgs false

end Go.Proofs.YtnjlganofjkpfaaGreatDoor

/-
  Layer 7's Read: the zeros, and the loop.
-/
namespace Go.Proofs.YtnjlganofjkpfaaGreatDoor
open Go.RowKit
set_option linter.unusedVariables false
set_option linter.unusedSimpArgs false

end Go.Proofs.YtnjlganofjkpfaaGreatDoor

/-
  Layer 7: Read whole; short; lives.
-/
namespace Go.Proofs.YtnjlganofjkpfaaGreatDoor
open Go.RowKit
set_option linter.unusedVariables false
set_option linter.unusedSimpArgs false

/-! ### short -/
/-! ### lives -/
end Go.Proofs.YtnjlganofjkpfaaGreatDoor

/-
  Layer 7, NodeMost: the node that is made key by key.
-/
namespace Go.Proofs.YtnjlganofjkpfaaGreatDoor
open Go.RowKit
set_option linter.unusedVariables false
set_option linter.unusedSimpArgs false

/-- i keys and j values so far -/
structure MsN (w0 w : World) (tree : Int) (leaf : Bool) (i : Nat) (Ak : Option Addr) (ck : Nat) (j : Nat) (Av : Option Addr) (cv : Nat) (ks : List Int) (vs : List (List UInt8)) : Prop where
  node : NodAt w w0.heap.size tree leaf (.slice Ak i ck) (.slice Av j cv)
  bel : Below w0.heap.size w0 w
  ok : w.ownsRow (w0.heap.size + 1) 3 1 (.slice Ak i ck) i (i64s ks)
  ov : w.ownsRow (w0.heap.size + 1) 9 1 (.slice Av j cv) j (strV vs)

section
variable {w0 w w' : World} {tree : Int} {leaf : Bool} {i j ck cv : Nat} {Ak Av : Option Addr} {ks : List Int} {vs : List (List UInt8)}

theorem MsN.low (h : MsN w0 w tree leaf i Ak ck j Av cv ks vs) : w0.heap.size + 1 ≤ w.heap.size := by have := block_lt h.node; omega
theorem MsN.later (h : MsN w0 w tree leaf i Ak ck j Av cv ks vs) (hb : Below w.heap.size w w') : MsN w0 w' tree leaf i Ak ck j Av cv ks vs :=
  ⟨h.node.later hb, h.bel.trans (hb.mono h.bel.size), own_kept h.ok (fun k _ hk => hb.block k hk), own_kept h.ov (fun k _ hk => hb.block k hk)⟩
theorem MsN.start (w0 : World) (tree : Int) (leaf : Bool) : MsN w0 (w0.alloc (.cells #[.int .i64 tree, .bool leaf, .slice none 0 0, .slice none 0 0] 76)) tree leaf 0 none 0 0 none 0 [] [] := ⟨NodAt.new _ _ _ _ _, (Below.refl _ _).alloc (Nat.le_refl _) _, World.ownsRow_nil _ _ _ _, World.ownsRow_nil _ _ _ _⟩

theorem MsN.apart (h : MsN w0 w tree leaf i Ak ck j Av cv ks vs) (g : Nat) (hk : (Value.slice Ak i ck).ownBlock = some g) : (Value.slice Av j cv).ownBlock ≠ some g := fun hv => by
  obtain ⟨_, c1, h1⟩ := own_apart h.ok g hk
  obtain ⟨_, c2, h2⟩ := own_apart h.ov g hv
  rw [h1] at h2
  injection h2 with h2
  injection h2 with _ h3 _
  exact absurd h3 (by decide)

theorem MsN.addKey (h : MsN w0 w tree leaf i Ak ck j Av cv ks vs) {v' : Value} {key : Int} (hown : w'.ownsRow (w0.heap.size + 1) 3 1 v' (i + 1) (i64s ks ++ [.int .i64 key])) (hg : w.grownBy w' (Value.slice Ak i ck).ownBlock) :
    ∃ Ak' ck', v' = .slice Ak' (i + 1) ck' ∧ NodAt w' w0.heap.size tree leaf (.slice Ak i ck) (.slice Av j cv) ∧ MsN w0 (w'.setCell ⟨w0.heap.size, 2, none⟩ (.slice Ak' (i + 1) ck')) tree leaf (i + 1) Ak' ck' j Av cv (ks ++ [key]) vs := by
  obtain ⟨Ak', ck', rfl, _, _⟩ := ownsRow_form hown
  have hlow := h.low
  have keep : ∀ g, g < w0.heap.size + 1 → w'.heap[g]? = w.heap[g]? := fun g hlt => hg.block g (by omega) (fun e => by have := (own_apart h.ok g e.symm).1; omega)
  have hn : NodAt w' w0.heap.size tree leaf (.slice Ak i ck) (.slice Av j cv) := (keep _ (by omega)).trans h.node
  refine ⟨Ak', ck', rfl, hn, ?_, ?_, ?_, ?_⟩
  · unfold NodAt
    rw [heap_setCell_same _ _ 2 _ _ _ hn]
    rfl
  · refine Below.setCell ?_ (p := ⟨w0.heap.size, 2, none⟩) (by simp) _
    exact h.bel.trans ⟨hg.os, hg.tape, hg.output, hg.size, fun k hk => keep k (by omega)⟩
  · have e : i64s (ks ++ [key]) = i64s ks ++ [.int .i64 key] := i64s_append _ _
    rw [e]
    refine nod_own_other hown fun k hk => ?_
    have := (own_apart hown k hk).1
    exact heap_setCell_other _ _ _ _ (by simp; omega)
  · refine nod_own_other h.ov fun k hk => ?_
    have h1 := own_apart h.ov k hk
    rw [heap_setCell_other _ _ _ _ (by simp; omega)]
    obtain ⟨hb, cur, hc⟩ := h1
    exact hg.block k (block_lt hc) (fun e => h.apart k e.symm hk)

theorem MsN.addVal (h : MsN w0 w tree leaf i Ak ck j Av cv ks vs) {v' : Value} {s : List UInt8} (hown : w'.ownsRow (w0.heap.size + 1) 9 1 v' (j + 1) (strV vs ++ [.string ⟨s.toArray⟩])) (hg : w.grownBy w' (Value.slice Av j cv).ownBlock) :
    ∃ Av' cv', v' = .slice Av' (j + 1) cv' ∧ NodAt w' w0.heap.size tree leaf (.slice Ak i ck) (.slice Av j cv) ∧ MsN w0 (w'.setCell ⟨w0.heap.size, 3, none⟩ (.slice Av' (j + 1) cv')) tree leaf i Ak ck (j + 1) Av' cv' ks (vs ++ [s]) := by
  obtain ⟨Av', cv', rfl, _, _⟩ := ownsRow_form hown
  have hlow := h.low
  have keep : ∀ g, g < w0.heap.size + 1 → w'.heap[g]? = w.heap[g]? := fun g hlt => hg.block g (by omega) (fun e => by have := (own_apart h.ov g e.symm).1; omega)
  have hn : NodAt w' w0.heap.size tree leaf (.slice Ak i ck) (.slice Av j cv) := (keep _ (by omega)).trans h.node
  refine ⟨Av', cv', rfl, hn, ?_, ?_, ?_, ?_⟩
  · unfold NodAt
    rw [heap_setCell_same _ _ 3 _ _ _ hn]
    rfl
  · refine Below.setCell ?_ (p := ⟨w0.heap.size, 3, none⟩) (by simp) _
    exact h.bel.trans ⟨hg.os, hg.tape, hg.output, hg.size, fun k hk => keep k (by omega)⟩
  · refine nod_own_other h.ok fun k hk => ?_
    have h1 := own_apart h.ok k hk
    rw [heap_setCell_other _ _ _ _ (by simp; omega)]
    obtain ⟨hb, cur, hc⟩ := h1
    exact hg.block k (block_lt hc) (fun e => h.apart k hk e.symm)
  · have e : strV (vs ++ [s]) = strV vs ++ [.string ⟨s.toArray⟩] := strV_append _ _
    rw [e]
    refine nod_own_other hown fun k hk => ?_
    have := (own_apart hown k hk).1
    exact heap_setCell_other _ _ _ _ (by simp; omega)

theorem MsN.nodin (h : MsN w0 w tree leaf i Ak ck j Av cv ks vs) (ht : i64b tree) (hk : ∀ k ∈ ks, i64b k) (hv : ∀ v ∈ vs, v.length ≤ 9223372036854775807) : NodIn w ⟨tree, leaf, ks, vs⟩ Ak i ck Av j cv := by
  obtain ⟨A1, c1, e1, h1⟩ := Ints.of_own h.ok
  obtain ⟨A2, c2, e2, h2⟩ := Strs.of_own h.ov
  injection e1 with e1 _ e3
  injection e2 with e2 _ e4
  subst e1; subst e2; subst e3; subst e4
  exact ⟨h1, h2, ht, hk, hv⟩
end

/-! ### the keys and the values -/
end Go.Proofs.YtnjlganofjkpfaaGreatDoor
