/-
  Joined: NodG, NodH, NodIA, NodIB, NodIC, NodID, NodJ, NodK, NodLawB, NodM, NodQ, NodR.
-/
import Derived.Laws.ResultCell
import Derived.Deep.RegionHeld3
import Derived.BigRegion
import Derived.Test.YtnjlganofjkpfaaGreatDoorJBldA37
import Derived.Test.YtnjlganofjkpfaaGreatDoorJBldA12
import Derived.Test.YtnjlganofjkpfaaGreatDoorJBldA17
import Derived.WalkSmall
import Derived.BigQuiet
import Derived.Test.YtnjlganofjkpfaaGreatDoorJBldA03
import Derived.Deep.RegionWith
import Derived.Test.YtnjlganofjkpfaaGreatDoorJBldA00
import Derived.LoopTactic
import Derived.Laws.BitsLemmas
/-
  Layer 7's Read: what it asks of the form.
-/
namespace Go.Proofs.YtnjlganofjkpfaaGreatDoor
open Go.RowKit
set_option linter.unusedVariables false
set_option linter.unusedSimpArgs false

/-! ### the form, as Read asks it -/
/-! ### nodes as results -/
theorem NodAt.store {w : World} {g : Nat} {tree : Int} {leaf : Bool} {s1 s2 : Value} (h : NodAt w g tree leaf s1 s2) (tree' : Int) (leaf' : Bool) (s1' s2' : Value) :
    NodAt ((((w.setCell ⟨g, 0, none⟩ (.int .i64 tree')).setCell ⟨g, 1, none⟩ (.bool leaf')).setCell ⟨g, 2, none⟩ s1').setCell ⟨g, 3, none⟩ s2') g tree' leaf' s1' s2' := by
  unfold NodAt
  rw [heap_setCell_same _ g 3 _ _ _ (heap_setCell_same _ g 2 _ _ _ (heap_setCell_same _ g 1 _ _ _ (heap_setCell_same w g 0 _ _ _ h)))]
  rfl

theorem below_store7 {B g : Nat} {w0 w : World} (hb : Below B w0 w) (hg : B ≤ g) (v0 v1 v2 v3 : Value) : Below B w0 ((((w.setCell ⟨g, 0, none⟩ v0).setCell ⟨g, 1, none⟩ v1).setCell ⟨g, 2, none⟩ v2).setCell ⟨g, 3, none⟩ v3) :=
  (((hb.setCell (p := ⟨g, 0, none⟩) hg _).setCell (p := ⟨g, 1, none⟩) hg _).setCell (p := ⟨g, 2, none⟩) hg _).setCell (p := ⟨g, 3, none⟩) hg _

/-- the result's variable and the node's, all below as it was -/
structure RdN (w0 w : World) (tree : Int) (leaf : Bool) : Prop where
  zero : NodAt w w0.heap.size 0 false (.slice none 0 0) (.slice none 0 0)
  node : NodAt w (w0.heap.size + 1) tree leaf (.slice none 0 0) (.slice none 0 0)
  bel : Below w0.heap.size w0 w
theorem RdN.later {w0 w w' : World} {tree : Int} {leaf : Bool} (h : RdN w0 w tree leaf) (hb : Below w.heap.size w w') : RdN w0 w' tree leaf := ⟨h.zero.later hb, h.node.later hb, h.bel.trans (hb.mono h.bel.size)⟩

abbrev zN : Obj := .cells #[.int .i64 0, .bool false, .slice none 0 0, .slice none 0 0] 76

theorem RdN.start (w : World) (tree : Int) (leaf : Bool) : RdN w ((w.alloc zN).alloc (.cells #[.int .i64 tree, .bool leaf, .slice none 0 0, .slice none 0 0] 76)).drew tree leaf := by
  obtain ⟨h1, h2, h3⟩ := two_nodes w Nod.zero ⟨tree, leaf, [], []⟩ (.slice none 0 0) (.slice none 0 0) (.slice none 0 0) (.slice none 0 0)
  exact ⟨h1, h2, h3.drew⟩

end Go.Proofs.YtnjlganofjkpfaaGreatDoor

/-
  Layer 7's Read: what its loop keeps.
-/
namespace Go.Proofs.YtnjlganofjkpfaaGreatDoor
open Go.RowKit
set_option linter.unusedVariables false
set_option linter.unusedSimpArgs false

theorem nod_own_other {w w' : World} {base : Nat} {e : TypeId} {v : Value} {n : Nat} {xs : List Value} (h : w.ownsRow base e 1 v n xs) (hk : ∀ k, v.ownBlock = some k → w'.heap[k]? = w.heap[k]?) : w'.ownsRow base e 1 v n xs := by
  refine ⟨h.1, ?_⟩
  rcases h.2 with hn | ⟨g, cap, cur, hv, hg, hh, rest⟩
  · exact .inl hn
  · refine .inr ⟨g, cap, cur, hv, hg, (hk g ?_).trans hh, rest⟩
    rw [hv]
    rfl

/-- what the loop keeps: i keys and j values so far -/
structure LpN (w0 w : World) (tree : Int) (leaf : Bool) (i : Nat) (Ak : Option Addr) (ck : Nat) (j : Nat) (Av : Option Addr) (cv : Nat) (ks : List Int) (vs : List (List UInt8)) : Prop where
  zero : NodAt w w0.heap.size 0 false (.slice none 0 0) (.slice none 0 0)
  node : NodAt w (w0.heap.size + 1) tree leaf (.slice Ak i ck) (.slice Av j cv)
  bel : Below w0.heap.size w0 w
  ok : w.ownsRow (w0.heap.size + 2) 3 1 (.slice Ak i ck) i (i64s ks)
  ov : w.ownsRow (w0.heap.size + 2) 9 1 (.slice Av j cv) j (strV vs)

section
variable {w0 w w' : World} {tree : Int} {leaf : Bool} {i j ck cv : Nat} {Ak Av : Option Addr} {ks : List Int} {vs : List (List UInt8)}

theorem LpN.low (h : LpN w0 w tree leaf i Ak ck j Av cv ks vs) : w0.heap.size + 2 ≤ w.heap.size := by have := block_lt h.node; omega
theorem LpN.later (h : LpN w0 w tree leaf i Ak ck j Av cv ks vs) (hb : Below w.heap.size w w') : LpN w0 w' tree leaf i Ak ck j Av cv ks vs :=
  ⟨h.zero.later hb, h.node.later hb, h.bel.trans (hb.mono h.bel.size), own_kept h.ok (fun k _ hk => hb.block k hk), own_kept h.ov (fun k _ hk => hb.block k hk)⟩
theorem LpN.apart (h : LpN w0 w tree leaf i Ak ck j Av cv ks vs) (g : Nat) (hk : (Value.slice Ak i ck).ownBlock = some g) : (Value.slice Av j cv).ownBlock ≠ some g := fun hv => by
  obtain ⟨_, c1, h1⟩ := own_apart h.ok g hk
  obtain ⟨_, c2, h2⟩ := own_apart h.ov g hv
  rw [h1] at h2
  injection h2 with h2
  injection h2 with _ h3 _
  exact absurd h3 (by decide)

/-- one more key -/
theorem LpN.addKey (h : LpN w0 w tree leaf i Ak ck j Av cv ks vs) {v' : Value} {key : Int} (hown : w'.ownsRow (w0.heap.size + 2) 3 1 v' (i + 1) (i64s ks ++ [.int .i64 key])) (hg : w.grownBy w' (Value.slice Ak i ck).ownBlock) :
    ∃ Ak' ck', v' = .slice Ak' (i + 1) ck' ∧ NodAt w' (w0.heap.size + 1) tree leaf (.slice Ak i ck) (.slice Av j cv) ∧ LpN w0 (w'.setCell ⟨w0.heap.size + 1, 2, none⟩ (.slice Ak' (i + 1) ck')) tree leaf (i + 1) Ak' ck' j Av cv (ks ++ [key]) vs := by
  obtain ⟨Ak', ck', rfl, _, _⟩ := ownsRow_form hown
  have hlow := h.low
  have keep : ∀ g, g < w0.heap.size + 2 → w'.heap[g]? = w.heap[g]? := fun g hlt => hg.block g (by omega) (fun e => by have := (own_apart h.ok g e.symm).1; omega)
  have hn : NodAt w' (w0.heap.size + 1) tree leaf (.slice Ak i ck) (.slice Av j cv) := (keep _ (by omega)).trans h.node
  refine ⟨Ak', ck', rfl, hn, ?_, ?_, ?_, ?_, ?_⟩
  · unfold NodAt
    rw [heap_setCell_other _ _ w0.heap.size _ (by simp)]
    exact (keep _ (by omega)).trans h.zero
  · unfold NodAt
    rw [heap_setCell_same _ _ 2 _ _ _ hn]
    rfl
  · refine Below.setCell ?_ (p := ⟨w0.heap.size + 1, 2, none⟩) (by simp) _
    exact h.bel.trans ⟨hg.os, hg.tape, hg.output, hg.size, fun k hk => keep k (by omega)⟩
  · have e : i64s (ks ++ [key]) = i64s ks ++ [.int .i64 key] := i64s_append _ _
    rw [e]
    refine nod_own_other hown fun k hk => ?_
    have := (own_apart hown k hk).1
    exact heap_setCell_other _ _ _ _ (by simp; omega)
  · refine nod_own_other h.ov fun k hk => ?_
    have h1 := own_apart h.ov k hk
    rw [heap_setCell_other _ _ _ _ (by simp; omega)]
    obtain ⟨hb, cur, hc⟩ := h1
    exact hg.block k (block_lt hc) (fun e => h.apart k e.symm hk)

/-- one more value -/
theorem LpN.addVal (h : LpN w0 w tree leaf i Ak ck j Av cv ks vs) {v' : Value} {s : List UInt8} (hown : w'.ownsRow (w0.heap.size + 2) 9 1 v' (j + 1) (strV vs ++ [.string ⟨s.toArray⟩])) (hg : w.grownBy w' (Value.slice Av j cv).ownBlock) :
    ∃ Av' cv', v' = .slice Av' (j + 1) cv' ∧ NodAt w' (w0.heap.size + 1) tree leaf (.slice Ak i ck) (.slice Av j cv) ∧ LpN w0 (w'.setCell ⟨w0.heap.size + 1, 3, none⟩ (.slice Av' (j + 1) cv')) tree leaf i Ak ck (j + 1) Av' cv' ks (vs ++ [s]) := by
  obtain ⟨Av', cv', rfl, _, _⟩ := ownsRow_form hown
  have hlow := h.low
  have keep : ∀ g, g < w0.heap.size + 2 → w'.heap[g]? = w.heap[g]? := fun g hlt => hg.block g (by omega) (fun e => by have := (own_apart h.ov g e.symm).1; omega)
  have hn : NodAt w' (w0.heap.size + 1) tree leaf (.slice Ak i ck) (.slice Av j cv) := (keep _ (by omega)).trans h.node
  refine ⟨Av', cv', rfl, hn, ?_, ?_, ?_, ?_, ?_⟩
  · unfold NodAt
    rw [heap_setCell_other _ _ w0.heap.size _ (by simp)]
    exact (keep _ (by omega)).trans h.zero
  · unfold NodAt
    rw [heap_setCell_same _ _ 3 _ _ _ hn]
    rfl
  · refine Below.setCell ?_ (p := ⟨w0.heap.size + 1, 3, none⟩) (by simp) _
    exact h.bel.trans ⟨hg.os, hg.tape, hg.output, hg.size, fun k hk => keep k (by omega)⟩
  · refine nod_own_other h.ok fun k hk => ?_
    have h1 := own_apart h.ok k hk
    rw [heap_setCell_other _ _ _ _ (by simp; omega)]
    obtain ⟨hb, cur, hc⟩ := h1
    exact hg.block k (block_lt hc) (fun e => h.apart k hk e.symm)
  · have e : strV (vs ++ [s]) = strV vs ++ [.string ⟨s.toArray⟩] := strV_append _ _
    rw [e]
    refine nod_own_other hown fun k hk => ?_
    have := (own_apart hown k hk).1
    exact heap_setCell_other _ _ _ _ (by simp; omega)

end

/-! ### what the loop of Read finds -/
end Go.Proofs.YtnjlganofjkpfaaGreatDoor

/-
  Layer 7's Read: the zeros, and the loop.
-/
namespace Go.Proofs.YtnjlganofjkpfaaGreatDoor
open Go.RowKit
set_option linter.unusedVariables false
set_option linter.unusedSimpArgs false

end Go.Proofs.YtnjlganofjkpfaaGreatDoor

/-
  Layer 7's Read: the zeros, and the loop.
-/
namespace Go.Proofs.YtnjlganofjkpfaaGreatDoor
open Go.RowKit
set_option linter.unusedVariables false
set_option linter.unusedSimpArgs false

end Go.Proofs.YtnjlganofjkpfaaGreatDoor

/-
  Layer 7's Read: the zeros, and the loop.
-/
namespace Go.Proofs.YtnjlganofjkpfaaGreatDoor
open Go.RowKit
set_option linter.unusedVariables false
set_option linter.unusedSimpArgs false

end Go.Proofs.YtnjlganofjkpfaaGreatDoor

/-
  Layer 7's Read: the zeros, and the loop.
-/
namespace Go.Proofs.YtnjlganofjkpfaaGreatDoor
open Go.RowKit
set_option linter.unusedVariables false
set_option linter.unusedSimpArgs false

end Go.Proofs.YtnjlganofjkpfaaGreatDoor

/-
  Layer 7: Read whole; short; lives.
-/
namespace Go.Proofs.YtnjlganofjkpfaaGreatDoor
open Go.RowKit
set_option linter.unusedVariables false
set_option linter.unusedSimpArgs false

/-! ### short -/
/-! ### lives -/
end Go.Proofs.YtnjlganofjkpfaaGreatDoor

/-
  Layer 7, NodeMost: the node that is made key by key.
-/
namespace Go.Proofs.YtnjlganofjkpfaaGreatDoor
open Go.RowKit
set_option linter.unusedVariables false
set_option linter.unusedSimpArgs false

/-- i keys and j values so far -/
structure MsN (w0 w : World) (tree : Int) (leaf : Bool) (i : Nat) (Ak : Option Addr) (ck : Nat) (j : Nat) (Av : Option Addr) (cv : Nat) (ks : List Int) (vs : List (List UInt8)) : Prop where
  node : NodAt w w0.heap.size tree leaf (.slice Ak i ck) (.slice Av j cv)
  bel : Below w0.heap.size w0 w
  ok : w.ownsRow (w0.heap.size + 1) 3 1 (.slice Ak i ck) i (i64s ks)
  ov : w.ownsRow (w0.heap.size + 1) 9 1 (.slice Av j cv) j (strV vs)

section
variable {w0 w w' : World} {tree : Int} {leaf : Bool} {i j ck cv : Nat} {Ak Av : Option Addr} {ks : List Int} {vs : List (List UInt8)}

theorem MsN.low (h : MsN w0 w tree leaf i Ak ck j Av cv ks vs) : w0.heap.size + 1 ≤ w.heap.size := by have := block_lt h.node; omega
theorem MsN.later (h : MsN w0 w tree leaf i Ak ck j Av cv ks vs) (hb : Below w.heap.size w w') : MsN w0 w' tree leaf i Ak ck j Av cv ks vs :=
  ⟨h.node.later hb, h.bel.trans (hb.mono h.bel.size), own_kept h.ok (fun k _ hk => hb.block k hk), own_kept h.ov (fun k _ hk => hb.block k hk)⟩
theorem MsN.start (w0 : World) (tree : Int) (leaf : Bool) : MsN w0 (w0.alloc (.cells #[.int .i64 tree, .bool leaf, .slice none 0 0, .slice none 0 0] 76)) tree leaf 0 none 0 0 none 0 [] [] := ⟨NodAt.new _ _ _ _ _, (Below.refl _ _).alloc (Nat.le_refl _) _, World.ownsRow_nil _ _ _ _, World.ownsRow_nil _ _ _ _⟩

theorem MsN.apart (h : MsN w0 w tree leaf i Ak ck j Av cv ks vs) (g : Nat) (hk : (Value.slice Ak i ck).ownBlock = some g) : (Value.slice Av j cv).ownBlock ≠ some g := fun hv => by
  obtain ⟨_, c1, h1⟩ := own_apart h.ok g hk
  obtain ⟨_, c2, h2⟩ := own_apart h.ov g hv
  rw [h1] at h2
  injection h2 with h2
  injection h2 with _ h3 _
  exact absurd h3 (by decide)

theorem MsN.addKey (h : MsN w0 w tree leaf i Ak ck j Av cv ks vs) {v' : Value} {key : Int} (hown : w'.ownsRow (w0.heap.size + 1) 3 1 v' (i + 1) (i64s ks ++ [.int .i64 key])) (hg : w.grownBy w' (Value.slice Ak i ck).ownBlock) :
    ∃ Ak' ck', v' = .slice Ak' (i + 1) ck' ∧ NodAt w' w0.heap.size tree leaf (.slice Ak i ck) (.slice Av j cv) ∧ MsN w0 (w'.setCell ⟨w0.heap.size, 2, none⟩ (.slice Ak' (i + 1) ck')) tree leaf (i + 1) Ak' ck' j Av cv (ks ++ [key]) vs := by
  obtain ⟨Ak', ck', rfl, _, _⟩ := ownsRow_form hown
  have hlow := h.low
  have keep : ∀ g, g < w0.heap.size + 1 → w'.heap[g]? = w.heap[g]? := fun g hlt => hg.block g (by omega) (fun e => by have := (own_apart h.ok g e.symm).1; omega)
  have hn : NodAt w' w0.heap.size tree leaf (.slice Ak i ck) (.slice Av j cv) := (keep _ (by omega)).trans h.node
  refine ⟨Ak', ck', rfl, hn, ?_, ?_, ?_, ?_⟩
  · unfold NodAt
    rw [heap_setCell_same _ _ 2 _ _ _ hn]
    rfl
  · refine Below.setCell ?_ (p := ⟨w0.heap.size, 2, none⟩) (by simp) _
    exact h.bel.trans ⟨hg.os, hg.tape, hg.output, hg.size, fun k hk => keep k (by omega)⟩
  · have e : i64s (ks ++ [key]) = i64s ks ++ [.int .i64 key] := i64s_append _ _
    rw [e]
    refine nod_own_other hown fun k hk => ?_
    have := (own_apart hown k hk).1
    exact heap_setCell_other _ _ _ _ (by simp; omega)
  · refine nod_own_other h.ov fun k hk => ?_
    have h1 := own_apart h.ov k hk
    rw [heap_setCell_other _ _ _ _ (by simp; omega)]
    obtain ⟨hb, cur, hc⟩ := h1
    exact hg.block k (block_lt hc) (fun e => h.apart k e.symm hk)

theorem MsN.addVal (h : MsN w0 w tree leaf i Ak ck j Av cv ks vs) {v' : Value} {s : List UInt8} (hown : w'.ownsRow (w0.heap.size + 1) 9 1 v' (j + 1) (strV vs ++ [.string ⟨s.toArray⟩])) (hg : w.grownBy w' (Value.slice Av j cv).ownBlock) :
    ∃ Av' cv', v' = .slice Av' (j + 1) cv' ∧ NodAt w' w0.heap.size tree leaf (.slice Ak i ck) (.slice Av j cv) ∧ MsN w0 (w'.setCell ⟨w0.heap.size, 3, none⟩ (.slice Av' (j + 1) cv')) tree leaf i Ak ck (j + 1) Av' cv' ks (vs ++ [s]) := by
  obtain ⟨Av', cv', rfl, _, _⟩ := ownsRow_form hown
  have hlow := h.low
  have keep : ∀ g, g < w0.heap.size + 1 → w'.heap[g]? = w.heap[g]? := fun g hlt => hg.block g (by omega) (fun e => by have := (own_apart h.ov g e.symm).1; omega)
  have hn : NodAt w' w0.heap.size tree leaf (.slice Ak i ck) (.slice Av j cv) := (keep _ (by omega)).trans h.node
  refine ⟨Av', cv', rfl, hn, ?_, ?_, ?_, ?_⟩
  · unfold NodAt
    rw [heap_setCell_same _ _ 3 _ _ _ hn]
    rfl
  · refine Below.setCell ?_ (p := ⟨w0.heap.size, 3, none⟩) (by simp) _
    exact h.bel.trans ⟨hg.os, hg.tape, hg.output, hg.size, fun k hk => keep k (by omega)⟩
  · refine nod_own_other h.ok fun k hk => ?_
    have h1 := own_apart h.ok k hk
    rw [heap_setCell_other _ _ _ _ (by simp; omega)]
    obtain ⟨hb, cur, hc⟩ := h1
    exact hg.block k (block_lt hc) (fun e => h.apart k hk e.symm)
  · have e : strV (vs ++ [s]) = strV vs ++ [.string ⟨s.toArray⟩] := strV_append _ _
    rw [e]
    refine nod_own_other hown fun k hk => ?_
    have := (own_apart hown k hk).1
    exact heap_setCell_other _ _ _ _ (by simp; omega)

theorem MsN.nodin (h : MsN w0 w tree leaf i Ak ck j Av cv ks vs) (ht : i64b tree) (hk : ∀ k ∈ ks, i64b k) (hv : ∀ v ∈ vs, v.length ≤ 9223372036854775807) : NodIn w ⟨tree, leaf, ks, vs⟩ Ak i ck Av j cv := by
  obtain ⟨A1, c1, e1, h1⟩ := Ints.of_own h.ok
  obtain ⟨A2, c2, e2, h2⟩ := Strs.of_own h.ov
  injection e1 with e1 _ e3
  injection e2 with e2 _ e4
  subst e1; subst e2; subst e3; subst e4
  exact ⟨h1, h2, ht, hk, hv⟩
end

/-! ### the keys and the values -/
end Go.Proofs.YtnjlganofjkpfaaGreatDoor

/-
  The walk of NodeBack.
-/
namespace Go.Proofs.YtnjlganofjkpfaaGreatDoor
open Go.RowKit
set_option linter.unusedVariables false
set_option linter.unusedSimpArgs false

/-- the law's node in block p, all below as it was -/
structure BkN (w0 w : World) (tree : Int) (leaf : Bool) (s1 s2 : Value) : Prop where
  node : NodAt w w0.heap.size tree leaf s1 s2
  bel : Below w0.heap.size w0 w
theorem BkN.later {w0 w w' : World} {tree : Int} {leaf : Bool} {s1 s2 : Value} (h : BkN w0 w tree leaf s1 s2) (hb : Below w.heap.size w w') : BkN w0 w' tree leaf s1 s2 := ⟨h.node.later hb, h.bel.trans (hb.mono h.bel.size)⟩
theorem BkN.new (w : World) (tree : Int) (leaf : Bool) (s1 s2 : Value) : BkN w (w.alloc (.cells #[.int .i64 tree, .bool leaf, s1, s2] 76)) tree leaf s1 s2 := ⟨NodAt.new _ _ _ _ _, (Below.refl _ _).alloc (Nat.le_refl _) _⟩
theorem BkN.past {w0 w : World} {tree : Int} {leaf : Bool} {s1 s2 : Value} (h : BkN w0 w tree leaf s1 s2) (o : Obj) : BkN w0 (w.alloc o) tree leaf s1 s2 := h.later ((Below.refl _ _).alloc (Nat.le_refl _) _)

section
variable {w : World} {nd : Nod} {A : Option Addr} {n c : Nat} {A2 : Option Addr} {n2 c2 : Nat} {A3 : Option Addr} {q c3 : Nat} {l : List UInt8}

end

end Go.Proofs.YtnjlganofjkpfaaGreatDoor

/-
  Layer 7: the reference's Right.
-/
namespace Go.Proofs.YtnjlganofjkpfaaGreatDoor
open Go.RowKit
set_option linter.unusedVariables false
set_option linter.unusedSimpArgs false

theorem BkN.facts {w0 w : World} {tree : Int} {leaf : Bool} {s1 s2 : Value} (h : BkN w0 w tree leaf s1 s2) : w.cell? ⟨w0.heap.size, 0, none⟩ = some (.int .i64 tree) ∧ w.cell? ⟨w0.heap.size, 1, none⟩ = some (.bool leaf) ∧ w.cell? ⟨w0.heap.size, 2, none⟩ = some s1 ∧ w.cell? ⟨w0.heap.size, 3, none⟩ = some s2 := ⟨h.node.c0, h.node.c1, h.node.c2, h.node.c3⟩

theorem bk_refw {w : World} {tree : Int} {leaf : Bool} {s1 s2 : Value} (ht : i64b tree) (wd : Nat) (hw : widN tree leaf = wd) (W : World) (hW : BkN w W tree leaf s1 s2) : Calls Tryz.prog 61 #[.int .i64 tree, .bool leaf] W fun e w' => e = .returned (.int .i64 (wd : Int)) ∧ BkN w w' tree leaf s1 s2 :=
  (refWidth_any tree leaf W wd hw ht).mono fun e w' ⟨h1, h2⟩ => ⟨h1, hW.later h2⟩
theorem bk_refm {w : World} {tree : Int} {leaf : Bool} {s1 s2 : Value} (ht : i64b tree) (mx : Nat) (hm : capN (widN tree leaf) = mx) (W : World) (hW : BkN w W tree leaf s1 s2) : Calls Tryz.prog 35 #[.int .i64 tree, .bool leaf] W fun e w' => e = .returned (.int .i64 (mx : Int)) ∧ BkN w w' tree leaf s1 s2 :=
  (refMax_any tree leaf W mx hm ht).mono fun e w' ⟨h1, h2⟩ => ⟨h1, hW.later h2⟩

theorem rightN_no {nd : Nod} (h : widN nd.tree nd.leaf = 0 ∨ capN (widN nd.tree nd.leaf) < nd.keys.length ∨ nd.vals.length ≠ nd.keys.length) : rightN nd = false := by
  rw [Bool.eq_false_iff]
  intro hr
  obtain ⟨h1, h2, h3, h4, h5, h6⟩ := rightN_iff.1 hr
  rcases h with h | h | h
  · exact h1 h
  · omega
  · exact h h3

theorem rightN_loop {nd : Nod} (h1 : widN nd.tree nd.leaf ≠ 0) (h2 : nd.keys.length ≤ capN (widN nd.tree nd.leaf)) (h3 : nd.vals.length = nd.keys.length) : rightN nd = (okN nd nd.keys.length && (nd.leaf || decide (0 < nd.keys.length))) := by
  rw [rightN_parts, holdsN, decide_eq_true (capN_pos.2 h1), decide_eq_true h2, decide_eq_true h3]
  simp [Bool.and_comm]

end Go.Proofs.YtnjlganofjkpfaaGreatDoor

/-
  Layer 7: the reference's Right, where a test strikes what stands behind it.
-/
namespace Go.Proofs.YtnjlganofjkpfaaGreatDoor
open Go.RowKit
set_option linter.unusedVariables false
set_option linter.unusedSimpArgs false

set_option maxRecDepth 100000 in
set_option maxHeartbeats 3200000 in
theorem refRight_noA (w : World) (nd : Nod) (A : Option Addr) (n c : Nat) (A2 : Option Addr) (n2 c2 : Nat) (h : NodIn w nd A n c A2 n2 c2) (hn : widN nd.tree nd.leaf = 0) :
    Calls Tryz.prog 63 #[nodV nd A n c A2 n2 c2] w fun e w' => e = .returned (.bool false) ∧ Below w.heap.size w w' := by
  have N0 := Lib.hid (BkN.new w nd.tree nd.leaf (.slice A n c) (.slice A2 n2 c2))
  have WD : Hid (∀ wd, widN nd.tree nd.leaf = wd → ∀ W, BkN w W nd.tree nd.leaf (.slice A n c) (.slice A2 n2 c2) → _) := fun wd hw W hW => bk_refw h.tb wd hw W hW
  have MX : Hid (∀ mx, capN (widN nd.tree nd.leaf) = mx → ∀ W, BkN w W nd.tree nd.leaf (.slice A n c) (.slice A2 n2 c2) → _) := fun mx hm W hW => bk_refm h.tb mx hm W hW
  have hkn := h.keys.le
  have hvn : n2 ≤ 9223372036854775807 := Nat.le_trans h.vals.cap h.vals.most
  have hkl := h.keys.len
  have hvl := h.vals.len
  clear h
  obtain ⟨tree, leaf, ks, vs⟩ := nd
  dsimp only at *
  simp only [nodV]
  have f0 := (N0.out.later ((Below.refl _ _).drew)).facts
  have f1 := N0.out.facts
  obtain ⟨wd, hwd⟩ : ∃ wd, widN tree leaf = wd := ⟨_, rfl⟩
  have W0 := Lib.hid (WD.out wd hwd)
  have hne : ((wd : Int) == 0) = true := by rw [beq_iff_eq]; rw [hn] at hwd; omega
  clear hn WD MX hwd hkl hvl
  go_enter Tryz.func63, Tryz.ntmps63
  go_wp2
  refine wp_region_held_drew (S := (fun W => W.cell? ⟨w.heap.size, 0, none⟩ = some (.int .i64 tree) ∧ W.cell? ⟨w.heap.size, 1, none⟩ = some (.bool leaf) ∧ W.cell? ⟨w.heap.size, 2, none⟩ = some (.slice A n c) ∧ W.cell? ⟨w.heap.size, 3, none⟩ = some (.slice A2 n2 c2))) (by kernel_rfl) (by assumption) (fun hHeld => ?_)
  refine wpAnyH_takeD (i := 0) (d := some 4) (v := ?va0) rfl (by rfl) (by kernel_rfl) (by kernel_rfl) (by kernel_rfl) (fun _ _ _ h => h) (Or.inl ⟨by rfl, ?hya0⟩) (by assumption) ?resta0
  case hya0 => (intro w hSw; (try dsimp only at hSw); go_simp; try (with_reducible rfl))
  try simp only [Act.put, List.setIfInBounds_toArray, List.set_cons_zero, List.set_cons_succ]
  refine wpAnyH_takeD (i := 1) (d := some 5) (v := ?va1) rfl (by rfl) (by kernel_rfl) (by kernel_rfl) (by kernel_rfl) (fun _ _ _ h => h) (Or.inl ⟨by rfl, ?hya1⟩) (by assumption) ?resta1
  case hya1 => (intro w hSw; (try dsimp only at hSw); go_simp; try (with_reducible rfl))
  try simp only [Act.put, List.setIfInBounds_toArray, List.set_cons_zero, List.set_cons_succ]
  refine wpAnyH_takeD (i := 2) (d := some 6) (v := ?va2) rfl (by rfl) (by kernel_rfl) (by kernel_rfl) (by kernel_rfl) (fun _ _ _ h => h) (Or.inl ⟨by rfl, ?hya2⟩) (by assumption) ?resta2
  case hya2 => (intro w hSw; (try dsimp only at hSw); go_simp; try (with_reducible rfl))
  try simp only [Act.put, List.setIfInBounds_toArray, List.set_cons_zero, List.set_cons_succ]
  refine wpAnyH_takeD (i := 3) (d := some 7) (v := ?va3) rfl (by rfl) (by kernel_rfl) (by kernel_rfl) (by kernel_rfl) (fun _ _ _ h => h) (Or.inl ⟨by rfl, ?hya3⟩) (by assumption) ?resta3
  case hya3 => (intro w hSw; (try dsimp only at hSw); go_simp; try (with_reducible rfl))
  try simp only [Act.put, List.setIfInBounds_toArray, List.set_cons_zero, List.set_cons_succ]
  refine wpAnyH_ready (rs := [4]) (by kernel_rfl) (by simp) ?_
  refine AllReadyH.cons rfl (fun K hK => ?_) AllReadyH.nil
  go_simp
  go_at_call 61
  (with_reducible refine (W0.out _ (N0.out.later ((Below.refl _ _).drew))).mono ?_)
  rintro e w5 ⟨rfl, hN5⟩
  have hfa4 := hN5.facts
  refine hK.out _ _ hfa4 (fun hHelda4 => ?_)
  clear hK K
  try simp only [Act.put, List.setIfInBounds_toArray, List.set_cons_zero, List.set_cons_succ]
  refine wpAnyH_takeD (i := 5) (d := some 9) (v := ?va5) rfl (by rfl) (by kernel_rfl) (by kernel_rfl) (by kernel_rfl) (fun _ _ _ h => h) (Or.inl ⟨by rfl, ?hya5⟩) (by assumption) ?resta5
  case hya5 => (intro w hSw; (try dsimp only at hSw); go_simp; try (with_reducible rfl))
  try simp only [Act.put, List.setIfInBounds_toArray, List.set_cons_zero, List.set_cons_succ]
  refine wpAnyH_takeD (i := 6) (d := some 10) (v := ?va6) rfl (by rfl) (by kernel_rfl) (by kernel_rfl) (by kernel_rfl) (fun _ _ _ h => h) (Or.inl ⟨by rfl, ?hya6⟩) (by assumption) ?resta6
  case hya6 => (intro w hSw; (try dsimp only at hSw); go_simp; try (with_reducible rfl))
  try simp only [Act.put, List.setIfInBounds_toArray, List.set_cons_zero, List.set_cons_succ]
  refine wpAnyH_strikes [7, 8, 9, 10, 11, 12, 13, 14, 15] (by kernel_rfl) (fun _ _ _ _ h => h) (n := 9) (by assumption) rfl (by kernel_rfl) (by rfl) ?_
  try simp only [List.foldl, List.setIfInBounds_toArray, List.set_cons_zero, List.set_cons_succ]
  refine wpAnyH_takeD (i := 16) (d := some 20) (v := ?va8) rfl (by rfl) (by kernel_rfl) (by kernel_rfl) (by kernel_rfl) (fun _ _ _ h => h) (Or.inl ⟨by rfl, ?hya8⟩) (by assumption) ?resta8
  case hya8 => (intro w hSw; (try dsimp only at hSw); go_simp; try (with_reducible rfl))
  try simp only [Act.put, List.setIfInBounds_toArray, List.set_cons_zero, List.set_cons_succ]
  refine wpAnyH_takeD (i := 17) (d := some 21) (v := ?va9) rfl (by rfl) (by kernel_rfl) (by kernel_rfl) (by kernel_rfl) (fun _ _ _ h => h) (Or.inl ⟨by rfl, ?hya9⟩) (by assumption) ?resta9
  case hya9 => (intro w hSw; (try dsimp only at hSw); go_simp; try (with_reducible rfl))
  try simp only [Act.put, List.setIfInBounds_toArray, List.set_cons_zero, List.set_cons_succ]
  refine wpAnyH_strikes [18, 19, 20, 21, 22, 23, 24] (by kernel_rfl) (fun _ _ _ _ h => h) (n := 7) (by assumption) rfl (by kernel_rfl) (by rfl) ?_
  try simp only [List.foldl, List.setIfInBounds_toArray, List.set_cons_zero, List.set_cons_succ]
  refine wpAnyH_takeD (i := 25) (d := some 29) (v := ?va11) rfl (by rfl) (by kernel_rfl) (by kernel_rfl) (by kernel_rfl) (fun _ _ _ h => h) (Or.inl ⟨by rfl, ?hya11⟩) (by assumption) ?resta11
  case hya11 => (intro w hSw; (try dsimp only at hSw); go_simp; try (with_reducible rfl))
  try simp only [Act.put, List.setIfInBounds_toArray, List.set_cons_zero, List.set_cons_succ]
  refine wpAnyH_done (by kernel_rfl) ?_ _
  go_wp2
  go_ret
  exact ⟨rfl, hN5.bel⟩

set_option maxRecDepth 100000 in
set_option maxHeartbeats 3200000 in
theorem refRight_noB (w : World) (nd : Nod) (A : Option Addr) (n c : Nat) (A2 : Option Addr) (n2 c2 : Nat) (h : NodIn w nd A n c A2 n2 c2) (hn : widN nd.tree nd.leaf ≠ 0) (hm : capN (widN nd.tree nd.leaf) < nd.keys.length) :
    Calls Tryz.prog 63 #[nodV nd A n c A2 n2 c2] w fun e w' => e = .returned (.bool false) ∧ Below w.heap.size w w' := by
  have N0 := Lib.hid (BkN.new w nd.tree nd.leaf (.slice A n c) (.slice A2 n2 c2))
  have WD : Hid (∀ wd, widN nd.tree nd.leaf = wd → ∀ W, BkN w W nd.tree nd.leaf (.slice A n c) (.slice A2 n2 c2) → _) := fun wd hw W hW => bk_refw h.tb wd hw W hW
  have MX : Hid (∀ mx, capN (widN nd.tree nd.leaf) = mx → ∀ W, BkN w W nd.tree nd.leaf (.slice A n c) (.slice A2 n2 c2) → _) := fun mx hm W hW => bk_refm h.tb mx hm W hW
  have hkn := h.keys.le
  have hvn : n2 ≤ 9223372036854775807 := Nat.le_trans h.vals.cap h.vals.most
  have hkl := h.keys.len
  have hvl := h.vals.len
  clear h
  obtain ⟨tree, leaf, ks, vs⟩ := nd
  dsimp only at *
  simp only [nodV]
  have f0 := (N0.out.later ((Below.refl _ _).drew)).facts
  have f1 := N0.out.facts
  obtain ⟨wd, hwd⟩ : ∃ wd, widN tree leaf = wd := ⟨_, rfl⟩
  obtain ⟨mx, hmx⟩ : ∃ mx, capN (widN tree leaf) = mx := ⟨_, rfl⟩
  have W0 := Lib.hid (WD.out wd hwd)
  have M0 := Lib.hid (MX.out mx hmx)
  have hne : ((wd : Int) == 0) = false := by rw [beq_eq_false_iff_ne]; rw [hwd] at hn; omega
  have hd : decide ((mx : Int) < (n : Int)) = true := decide_eq_true (by rw [hmx, hkl] at hm; omega)
  have hd2 : decide (mx < n) = true := decide_eq_true (by rw [hmx, hkl] at hm; omega)
  clear hn hm WD MX hwd hmx hkl hvl
  go_enter Tryz.func63, Tryz.ntmps63
  go_wp2
  refine wp_region_held_drew (S := (fun W => W.cell? ⟨w.heap.size, 0, none⟩ = some (.int .i64 tree) ∧ W.cell? ⟨w.heap.size, 1, none⟩ = some (.bool leaf) ∧ W.cell? ⟨w.heap.size, 2, none⟩ = some (.slice A n c) ∧ W.cell? ⟨w.heap.size, 3, none⟩ = some (.slice A2 n2 c2))) (by kernel_rfl) (by assumption) (fun hHeld => ?_)
  refine wpAnyH_takeD (i := 0) (d := some 4) (v := ?vb0) rfl (by rfl) (by kernel_rfl) (by kernel_rfl) (by kernel_rfl) (fun _ _ _ h => h) (Or.inl ⟨by rfl, ?hyb0⟩) (by assumption) ?restb0
  case hyb0 => (intro w hSw; (try dsimp only at hSw); go_simp; try (with_reducible rfl))
  try simp only [Act.put, List.setIfInBounds_toArray, List.set_cons_zero, List.set_cons_succ]
  refine wpAnyH_takeD (i := 1) (d := some 5) (v := ?vb1) rfl (by rfl) (by kernel_rfl) (by kernel_rfl) (by kernel_rfl) (fun _ _ _ h => h) (Or.inl ⟨by rfl, ?hyb1⟩) (by assumption) ?restb1
  case hyb1 => (intro w hSw; (try dsimp only at hSw); go_simp; try (with_reducible rfl))
  try simp only [Act.put, List.setIfInBounds_toArray, List.set_cons_zero, List.set_cons_succ]
  refine wpAnyH_takeD (i := 2) (d := some 6) (v := ?vb2) rfl (by rfl) (by kernel_rfl) (by kernel_rfl) (by kernel_rfl) (fun _ _ _ h => h) (Or.inl ⟨by rfl, ?hyb2⟩) (by assumption) ?restb2
  case hyb2 => (intro w hSw; (try dsimp only at hSw); go_simp; try (with_reducible rfl))
  try simp only [Act.put, List.setIfInBounds_toArray, List.set_cons_zero, List.set_cons_succ]
  refine wpAnyH_takeD (i := 3) (d := some 7) (v := ?vb3) rfl (by rfl) (by kernel_rfl) (by kernel_rfl) (by kernel_rfl) (fun _ _ _ h => h) (Or.inl ⟨by rfl, ?hyb3⟩) (by assumption) ?restb3
  case hyb3 => (intro w hSw; (try dsimp only at hSw); go_simp; try (with_reducible rfl))
  try simp only [Act.put, List.setIfInBounds_toArray, List.set_cons_zero, List.set_cons_succ]
  refine wpAnyH_ready (rs := [4]) (by kernel_rfl) (by simp) ?_
  refine AllReadyH.cons rfl (fun K hK => ?_) AllReadyH.nil
  go_simp
  go_at_call 61
  (with_reducible refine (W0.out _ (N0.out.later ((Below.refl _ _).drew))).mono ?_)
  rintro e w5 ⟨rfl, hN5⟩
  have hfb4 := hN5.facts
  refine hK.out _ _ hfb4 (fun hHeldb4 => ?_)
  clear hK K
  try simp only [Act.put, List.setIfInBounds_toArray, List.set_cons_zero, List.set_cons_succ]
  refine wpAnyH_takeD (i := 5) (d := some 9) (v := ?vb5) rfl (by rfl) (by kernel_rfl) (by kernel_rfl) (by kernel_rfl) (fun _ _ _ h => h) (Or.inl ⟨by rfl, ?hyb5⟩) (by assumption) ?restb5
  case hyb5 => (intro w hSw; (try dsimp only at hSw); go_simp; try (with_reducible rfl))
  try simp only [Act.put, List.setIfInBounds_toArray, List.set_cons_zero, List.set_cons_succ]
  refine wpAnyH_takeD (i := 6) (d := some 10) (v := ?vb6) rfl (by rfl) (by kernel_rfl) (by kernel_rfl) (by kernel_rfl) (fun _ _ _ h => h) (Or.inl ⟨by rfl, ?hyb6⟩) (by assumption) ?restb6
  case hyb6 => (intro w hSw; (try dsimp only at hSw); go_simp; try (with_reducible rfl))
  try simp only [Act.put, List.setIfInBounds_toArray, List.set_cons_zero, List.set_cons_succ]
  refine wpAnyH_takeD (i := 7) (d := some 11) (v := ?vb7) rfl (by rfl) (by kernel_rfl) (by kernel_rfl) (by kernel_rfl) (fun _ _ _ h => h) (Or.inl ⟨by rfl, ?hyb7⟩) (by assumption) ?restb7
  case hyb7 => (intro w hSw; (try dsimp only at hSw); go_simp; try (with_reducible rfl))
  try simp only [Act.put, List.setIfInBounds_toArray, List.set_cons_zero, List.set_cons_succ]
  refine wpAnyH_takeD (i := 8) (d := some 12) (v := ?vb8) rfl (by rfl) (by kernel_rfl) (by kernel_rfl) (by kernel_rfl) (fun _ _ _ h => h) (Or.inl ⟨by rfl, ?hyb8⟩) (by assumption) ?restb8
  case hyb8 => (intro w hSw; (try dsimp only at hSw); go_simp; try (with_reducible rfl))
  try simp only [Act.put, List.setIfInBounds_toArray, List.set_cons_zero, List.set_cons_succ]
  refine wpAnyH_takeD (i := 9) (d := some 13) (v := ?vb9) rfl (by rfl) (by kernel_rfl) (by kernel_rfl) (by kernel_rfl) (fun _ _ _ h => h) (Or.inl ⟨by rfl, ?hyb9⟩) (by assumption) ?restb9
  case hyb9 => (intro w hSw; (try dsimp only at hSw); go_simp; try (with_reducible rfl))
  try simp only [Act.put, List.setIfInBounds_toArray, List.set_cons_zero, List.set_cons_succ]
  refine wpAnyH_takeD (i := 10) (d := some 14) (v := ?vb10) rfl (by rfl) (by kernel_rfl) (by kernel_rfl) (by kernel_rfl) (fun _ _ _ h => h) (Or.inl ⟨by rfl, ?hyb10⟩) (by assumption) ?restb10
  case hyb10 => (intro w hSw; (try dsimp only at hSw); go_simp; try (with_reducible rfl))
  try simp only [Act.put, List.setIfInBounds_toArray, List.set_cons_zero, List.set_cons_succ]
  refine wpAnyH_takeD (i := 11) (d := some 15) (v := ?vb11) rfl (by rfl) (by kernel_rfl) (by kernel_rfl) (by kernel_rfl) (fun _ _ _ h => h) (Or.inl ⟨by rfl, ?hyb11⟩) (by assumption) ?restb11
  case hyb11 => (intro w hSw; (try dsimp only at hSw); go_simp; try (with_reducible rfl))
  try simp only [Act.put, List.setIfInBounds_toArray, List.set_cons_zero, List.set_cons_succ]
  refine wpAnyH_takeD (i := 12) (d := some 16) (v := ?vb12) rfl (by rfl) (by kernel_rfl) (by kernel_rfl) (by kernel_rfl) (fun _ _ _ h => h) (Or.inl ⟨by rfl, ?hyb12⟩) (by assumption) ?restb12
  case hyb12 => (intro w hSw; (try dsimp only at hSw); go_simp; try (with_reducible rfl))
  try simp only [Act.put, List.setIfInBounds_toArray, List.set_cons_zero, List.set_cons_succ]
  refine wpAnyH_takeD (i := 13) (d := some 17) (v := ?vb13) rfl (by rfl) (by kernel_rfl) (by kernel_rfl) (by kernel_rfl) (fun _ _ _ h => h) (Or.inl ⟨by rfl, ?hyb13⟩) (by assumption) ?restb13
  case hyb13 => (intro w hSw; (try dsimp only at hSw); go_simp; try (with_reducible rfl))
  try simp only [Act.put, List.setIfInBounds_toArray, List.set_cons_zero, List.set_cons_succ]
  refine wpAnyH_ready (rs := [14]) (by kernel_rfl) (by simp) ?_
  refine AllReadyH.cons rfl (fun K hK => ?_) AllReadyH.nil
  go_simp
  go_at_call 35
  (with_reducible refine (M0.out _ hN5).mono ?_)
  rintro e w6 ⟨rfl, hN6⟩
  have hfb14 := hN6.facts
  refine hK.out _ _ hfb14 (fun hHeldb14 => ?_)
  clear hK K
  try simp only [Act.put, List.setIfInBounds_toArray, List.set_cons_zero, List.set_cons_succ]
  refine wpAnyH_takeD (i := 15) (d := some 19) (v := ?vb15) rfl (by rfl) (by kernel_rfl) (by kernel_rfl) (by kernel_rfl) (fun _ _ _ h => h) (Or.inl ⟨by rfl, ?hyb15⟩) (by assumption) ?restb15
  case hyb15 => (intro w hSw; (try dsimp only at hSw); go_simp; try (with_reducible rfl))
  try simp only [Act.put, List.setIfInBounds_toArray, List.set_cons_zero, List.set_cons_succ]
  refine wpAnyH_takeD (i := 16) (d := some 20) (v := ?vb16) rfl (by rfl) (by kernel_rfl) (by kernel_rfl) (by kernel_rfl) (fun _ _ _ h => h) (Or.inl ⟨by rfl, ?hyb16⟩) (by assumption) ?restb16
  case hyb16 => (intro w hSw; (try dsimp only at hSw); go_simp; try (with_reducible rfl))
  try simp only [Act.put, List.setIfInBounds_toArray, List.set_cons_zero, List.set_cons_succ]
  refine wpAnyH_takeD (i := 17) (d := some 21) (v := ?vb17) rfl (by rfl) (by kernel_rfl) (by kernel_rfl) (by kernel_rfl) (fun _ _ _ h => h) (Or.inl ⟨by rfl, ?hyb17⟩) (by assumption) ?restb17
  case hyb17 => (intro w hSw; (try dsimp only at hSw); go_simp; try (with_reducible rfl))
  try simp only [Act.put, List.setIfInBounds_toArray, List.set_cons_zero, List.set_cons_succ]
  refine wpAnyH_strikes [18, 19, 20, 21, 22, 23, 24] (by kernel_rfl) (fun _ _ _ _ h => h) (n := 7) (by assumption) rfl (by kernel_rfl) (by rfl) ?_
  try simp only [List.foldl, List.setIfInBounds_toArray, List.set_cons_zero, List.set_cons_succ]
  refine wpAnyH_takeD (i := 25) (d := some 29) (v := ?vb19) rfl (by rfl) (by kernel_rfl) (by kernel_rfl) (by kernel_rfl) (fun _ _ _ h => h) (Or.inl ⟨by rfl, ?hyb19⟩) (by assumption) ?restb19
  case hyb19 => (intro w hSw; (try dsimp only at hSw); go_simp; try (with_reducible rfl))
  try simp only [Act.put, List.setIfInBounds_toArray, List.set_cons_zero, List.set_cons_succ]
  refine wpAnyH_done (by kernel_rfl) ?_ _
  go_wp2
  go_ret
  exact ⟨rfl, hN6.bel⟩

end Go.Proofs.YtnjlganofjkpfaaGreatDoor

/-
  Layer 7: the reference's Right, its loop.
-/
namespace Go.Proofs.YtnjlganofjkpfaaGreatDoor
open Go.RowKit
set_option linter.unusedVariables false
set_option linter.unusedSimpArgs false

/-- both regions' cells: the node's, key k and value k -/
theorem rg_cells {w W : World} {tree : Int} {leaf : Bool} {b off n c b2 off2 c2 k : Nat} {key : Int} {s : ByteArray} (hb : b < w.heap.size) (hb2 : b2 < w.heap.size) (h1 : w.cell? ⟨b, off + k, none⟩ = some (.int .i64 key)) (h2 : w.cell? ⟨b2, off2 + k, none⟩ = some (.string s))
    (h : BkN w W tree leaf (.slice (some ⟨b, off, none⟩) n c) (.slice (some ⟨b2, off2, none⟩) n c2)) : W.cell? ⟨w.heap.size, 0, none⟩ = some (.int .i64 tree) ∧ W.cell? ⟨w.heap.size, 1, none⟩ = some (.bool leaf) ∧ W.cell? ⟨w.heap.size, 2, none⟩ = some (.slice (some ⟨b, off, none⟩) n c) ∧ W.cell? ⟨w.heap.size, 3, none⟩ = some (.slice (some ⟨b2, off2, none⟩) n c2) ∧ W.cell? ⟨b, off + k, none⟩ = some (.int .i64 key) ∧ W.cell? ⟨b2, off2 + k, none⟩ = some (.string s) := by
  obtain ⟨f0, f1, f2, f3⟩ := h.facts
  exact ⟨f0, f1, f2, f3, (h.bel.cell (p := ⟨b, off + k, none⟩) hb).trans h1, (h.bel.cell (p := ⟨b2, off2 + k, none⟩) hb2).trans h2⟩
theorem rg_cells1 {w W : World} {tree : Int} {leaf : Bool} {b off n c b2 off2 c2 k k' : Nat} {key P : Int} {s : ByteArray} (hb : b < w.heap.size) (hb2 : b2 < w.heap.size) (h1 : w.cell? ⟨b, off + k, none⟩ = some (.int .i64 key)) (h2 : w.cell? ⟨b2, off2 + k, none⟩ = some (.string s)) (h3 : w.cell? ⟨b, off + k', none⟩ = some (.int .i64 P))
    (h : BkN w W tree leaf (.slice (some ⟨b, off, none⟩) n c) (.slice (some ⟨b2, off2, none⟩) n c2)) : W.cell? ⟨w.heap.size, 0, none⟩ = some (.int .i64 tree) ∧ W.cell? ⟨w.heap.size, 1, none⟩ = some (.bool leaf) ∧ W.cell? ⟨w.heap.size, 2, none⟩ = some (.slice (some ⟨b, off, none⟩) n c) ∧ W.cell? ⟨w.heap.size, 3, none⟩ = some (.slice (some ⟨b2, off2, none⟩) n c2) ∧ W.cell? ⟨b, off + k, none⟩ = some (.int .i64 key) ∧ W.cell? ⟨b2, off2 + k, none⟩ = some (.string s) ∧ W.cell? ⟨b, off + k', none⟩ = some (.int .i64 P) := by
  obtain ⟨f0, f1, f2, f3⟩ := h.facts
  exact ⟨f0, f1, f2, f3, (h.bel.cell (p := ⟨b, off + k, none⟩) hb).trans h1, (h.bel.cell (p := ⟨b2, off2 + k, none⟩) hb2).trans h2, (h.bel.cell (p := ⟨b, off + k', none⟩) hb).trans h3⟩

set_option maxRecDepth 100000 in
set_option maxHeartbeats 6400000 in
theorem refRight_loop (w : World) (nd : Nod) (A : Option Addr) (n c : Nat) (A2 : Option Addr) (n2 c2 : Nat) (h : NodIn w nd A n c A2 n2 c2) (hn : widN nd.tree nd.leaf ≠ 0) (hm : nd.keys.length ≤ capN (widN nd.tree nd.leaf)) (hv : nd.vals.length = nd.keys.length) (h0 : 0 < n) (r : Bool) (hr : okN nd nd.keys.length = r) :
    Calls Tryz.prog 63 #[nodV nd A n c A2 n2 c2] w fun e w' => e = .returned (.bool r) ∧ Below w.heap.size w w' := by
  have N0 := Lib.hid (BkN.new w nd.tree nd.leaf (.slice A n c) (.slice A2 n2 c2))
  have WD : Hid (∀ wd, widN nd.tree nd.leaf = wd → ∀ W, BkN w W nd.tree nd.leaf (.slice A n c) (.slice A2 n2 c2) → _) := fun wd hw W hW => bk_refw h.tb wd hw W hW
  have MX : Hid (∀ mx, capN (widN nd.tree nd.leaf) = mx → ∀ W, BkN w W nd.tree nd.leaf (.slice A n c) (.slice A2 n2 c2) → _) := fun mx hm W hW => bk_refm h.tb mx hm W hW
  have hkn := h.keys.le
  have hkl := h.keys.len
  have hvl := h.vals.len
  have kcap := h.keys.cap
  have kmost := h.keys.most
  have vcap := h.vals.cap
  have vmost := h.vals.most
  obtain rfl : n = n2 := by omega
  obtain ⟨b, off, rfl, hb, hcell⟩ := h.keys.row.lit (by rw [i64s_length]; omega)
  obtain ⟨b2, off2, rfl, hb2, hcell2⟩ := strs_cell h.vals h0
  have HC := Lib.hid hcell
  have HC2 := Lib.hid hcell2
  have HKB := Lib.hid h.kb
  have HF : Hid (∀ k, okN nd k = false → r = false) := fun k hk => by
    rw [← hr]
    rcases okN_false k hk with h1 | h1
    · exact h1
    · exact absurd hv h1
  have HR := Lib.hid hr
  clear h hcell hcell2 hr hv
  obtain ⟨tree, leaf, ks, vs⟩ := nd
  dsimp only at *
  simp only [nodV]
  have f0 := (N0.out.later ((Below.refl _ _).drew)).facts
  have f1 := N0.out.facts
  obtain ⟨wd, hwd⟩ : ∃ wd, widN tree leaf = wd := ⟨_, rfl⟩
  obtain ⟨mx, hmx⟩ : ∃ mx, capN (widN tree leaf) = mx := ⟨_, rfl⟩
  have W0 := Lib.hid (WD.out wd hwd)
  have M0 := Lib.hid (MX.out mx hmx)
  have HWD := Lib.hid hwd
  rw [hmx, hkl] at hm
  rw [hwd] at hn
  have hwb : Hid (wd ≤ 24) := by rcases widN_cases tree leaf with ⟨h1, _⟩ | ⟨h1, _⟩ | ⟨h1, _⟩ | ⟨h1, _⟩ | ⟨h1, _⟩ <;> (unfold Hid; omega)
  have hne : ((wd : Int) == 0) = false := by rw [beq_eq_false_iff_ne]; omega
  have hd : decide ((mx : Int) < (n : Int)) = false := decide_eq_false (by omega)
  have hd2 : decide (mx < n) = false := decide_eq_false (by omega)
  have hne2 : ((n : Int) != (n : Int)) = false := by simp
  clear WD MX hwd hmx hn hm
  go_enter Tryz.func63, Tryz.ntmps63
  go_wp2
  go_region_held3 (fun W => W.cell? ⟨w.heap.size, 0, none⟩ = some (.int .i64 tree) ∧ W.cell? ⟨w.heap.size, 1, none⟩ = some (.bool leaf) ∧ W.cell? ⟨w.heap.size, 2, none⟩ = some (.slice (some ⟨b, off, none⟩) n c) ∧ W.cell? ⟨w.heap.size, 3, none⟩ = some (.slice (some ⟨b2, off2, none⟩) n c2))
    (assumption)
    (first
      | (go_at_call 61; (with_reducible refine (W0.out _ (N0.out.later ((Below.refl _ _).drew))).mono ?_); rintro e w5 ⟨rfl, hN5⟩; have hf5 := hN5.facts)
      | (go_at_call 35; (with_reducible refine (M0.out _ hN5).mono ?_); rintro e w6 ⟨rfl, hN6⟩; have hf6 := hN6.facts))
  have HN6 := Lib.hid hN6
  clear f0 f1 hf5 hf6 hN5 hN6 hd hd2 hne hne2 M0
  go_wp2
  go_loopw [3] (fun i wr => ∃ k : Nat, k ≤ n ∧ i = .int .i64 k ∧ Hid (okN ⟨tree, leaf, ks, vs⟩ k = true) ∧ Hid (BkN w wr tree leaf (.slice (some ⟨b, off, none⟩) n c) (.slice (some ⟨b2, off2, none⟩) n c2))) (fun i _ => n - (intOf i).toNat)
  case atStart => exact ⟨0, by omega, rfl, rfl, HN6.out⟩
  case round =>
    clear HN6
    obtain ⟨k, hk, rfl, hO, hB⟩ := hrel
    have fk := hB.out.facts
    obtain ⟨fk0, fk1, fk2, fk3⟩ := fk
    by_cases hlt : k < n
    · have hkk : k < ks.length := by omega
      have hkv : k < vs.length := by omega
      have hcc := HC.out k _ (i64s_at ks k hkk)
      obtain ⟨s, hse, hsz, hcs⟩ := HC2.out k hkv
      clear hse
      have hst := okN_step (nd := ⟨tree, leaf, ks, vs⟩) hkk hkv
      rw [hO.out, Bool.true_and] at hst
      dsimp only at hst
      rw [HWD.out, ← hsz] at hst
      have hBd := hB.out.later ((Below.refl _ _).drew)
      have hkey := HKB.out _ (List.getElem_mem hkk)
      have hprev : Hid (∀ k', k = k' + 1 → w.cell? ⟨b, off + k', none⟩ = some (.int .i64 (prevK (-1) ks k)) ∧ 0 ≤ prevK (-1) ks k) := fun k' e => by
        have h1 := HC.out k' _ (i64s_at ks k' (by omega))
        have h2 : ks[k']'(by omega) = prevK (-1) ks k := by
          have h3 := prevK_succ (p := -1) (l := ks) (i := k') (by omega)
          rw [← e] at h3
          exact h3.symm
        rw [h2] at h1
        refine ⟨h1, ?_⟩
        have ho := hO.out
        simp only [okN, Bool.and_eq_true] at ho
        have := (upFrom_bounds ho.2 (prevK (-1) ks k) (by
          rw [← h2]
          refine List.mem_iff_getElem.2 ⟨k', by rw [List.length_take]; omega, by simp⟩)).1
        omega
      have CS := Lib.hid (fun W => rg_cells (W := W) (tree := tree) (leaf := leaf) (n := n) (c := c) (c2 := c2) hb hb2 hcc hcs)
      have hpz : Hid (k = 0 → prevK (-1) ks k = -1) := fun e => by rw [e]; rfl
      generalize prevK (-1) ks k = P at *
      generalize ks[k] = key at *
      clear hsz
      obtain ⟨kl, ku⟩ := hkey
      by_cases hneg : key < 0
      · have hz : r = false := HF.out (k + 1) (by
          rw [hst]
          by_cases e : k = 0
          · rw [hpz.out e, decide_eq_false (by omega)]; simp
          · have := (hprev.out (k - 1) (by omega)).2
            rw [decide_eq_false (by omega)]; simp)
        subst hz
        have hd1 : decide (key < 0) = true := decide_eq_true hneg
        have cs1 := CS.out _ hBd
        have cs2 := CS.out _ hB.out
        obtain ⟨_, _, _, _, cs3, _⟩ := cs1
        obtain ⟨_, _, _, _, cs4, _⟩ := cs2
        have HB := Lib.hid hB.out
        clear hst hprev hpz CS hcc hcs
        go_wp2
        go_quiet (fail)
        go_wp2
        go_ret
        exact ⟨rfl, below_drewN HB.out.bel _⟩
      · have hd1 : decide (key < 0) = false := decide_eq_false hneg
        by_cases hbig : (281474976710656 : Int) ≤ key
        · have hz : r = false := HF.out (k + 1) (by
            rw [hst, show decide (key ≤ maxK) = false from decide_eq_false (by simp only [maxK]; omega)]; simp)
          subst hz
          have hd3 : decide ((281474976710655 : Int) < key) = true := decide_eq_true (by omega)
          have cs1 := CS.out _ hBd
          have cs2 := CS.out _ hB.out
          obtain ⟨_, _, _, _, cs3, _⟩ := cs1
          obtain ⟨_, _, _, _, cs4, _⟩ := cs2
          have HB := Lib.hid hB.out
          clear hst hprev hpz CS hcc hcs
          go_wp2
          go_quiet (fail)
          go_wp2
          go_ret
          exact ⟨rfl, below_drewN HB.out.bel _⟩
        · have hd3 : decide ((281474976710655 : Int) < key) = false := decide_eq_false (by omega)
          have hmk : decide (key ≤ maxK) = true := decide_eq_true (by simp only [maxK]; omega)
          rw [hmk, Bool.and_true] at hst
          by_cases hw : s.size = wd
          · have hne3 : ((s.size : Int) != (wd : Int)) = false := by rw [hw]; simp
            have hst2 : okN ⟨tree, leaf, ks, vs⟩ (k + 1) = decide (P < key) := by rw [hst, hw]; simp
            by_cases hk0 : k = 0
            · have hO1 : Hid (okN ⟨tree, leaf, ks, vs⟩ (k + 1) = true) := by
                rw [hst2, hpz.out hk0]; exact decide_eq_true (by omega)
              have hd4 : decide ((0 : Int) < (k : Int)) = false := decide_eq_false (by omega)
              have hd5 : decide (0 < k) = false := decide_eq_false (by omega)
              have cs1 := CS.out _ hBd
              obtain ⟨_, _, _, _, cs3, cs4⟩ := cs1
              have hcs0 := CS.out _ hBd
              have HK0 := Lib.hid hk0
              clear hst hst2 hprev hpz hcc hcs hw hk0 hmk hneg
              go_wp2
              refine wp_region_held_drew (S := (fun W => W.cell? ⟨w.heap.size, 0, none⟩ = some (.int .i64 tree) ∧ W.cell? ⟨w.heap.size, 1, none⟩ = some (.bool leaf) ∧ W.cell? ⟨w.heap.size, 2, none⟩ = some (.slice (some ⟨b, off, none⟩) n c) ∧ W.cell? ⟨w.heap.size, 3, none⟩ = some (.slice (some ⟨b2, off2, none⟩) n c2) ∧ W.cell? ⟨b, off + k, none⟩ = some (.int .i64 key) ∧ W.cell? ⟨b2, off2 + k, none⟩ = some (.string s))) (by kernel_rfl) (by assumption) (fun hHeld => ?_)
              refine wpAnyH_takeD (i := 0) (d := some 37) (v := ?vd0) rfl (by rfl) (by kernel_rfl) (by kernel_rfl) (by kernel_rfl) (fun _ _ _ h => h) (Or.inl ⟨by rfl, ?hyd0⟩) (by assumption) ?restd0
              case hyd0 => (intro w hSw; (try dsimp only at hSw); go_simp; try (with_reducible rfl))
              try simp only [Act.put, List.setIfInBounds_toArray, List.set_cons_zero, List.set_cons_succ]
              refine wpAnyH_takeD (i := 1) (d := some 38) (v := ?vd1) rfl (by rfl) (by kernel_rfl) (by kernel_rfl) (by kernel_rfl) (fun _ _ _ h => h) (Or.inl ⟨by rfl, ?hyd1⟩) (by assumption) ?restd1
              case hyd1 => (intro w hSw; (try dsimp only at hSw); go_simp; try (with_reducible rfl))
              try simp only [Act.put, List.setIfInBounds_toArray, List.set_cons_zero, List.set_cons_succ]
              refine wpAnyH_takeD (i := 2) (d := some 39) (v := ?vd2) rfl (by rfl) (by kernel_rfl) (by kernel_rfl) (by kernel_rfl) (fun _ _ _ h => h) (Or.inl ⟨by rfl, ?hyd2⟩) (by assumption) ?restd2
              case hyd2 => (intro w hSw; (try dsimp only at hSw); go_simp; try (with_reducible rfl))
              try simp only [Act.put, List.setIfInBounds_toArray, List.set_cons_zero, List.set_cons_succ]
              refine wpAnyH_takeD (i := 3) (d := some 40) (v := ?vd3) rfl (by rfl) (by kernel_rfl) (by kernel_rfl) (by kernel_rfl) (fun _ _ _ h => h) (Or.inl ⟨by rfl, ?hyd3⟩) (by assumption) ?restd3
              case hyd3 => (intro w hSw; (try dsimp only at hSw); go_simp; try (with_reducible rfl))
              try simp only [Act.put, List.setIfInBounds_toArray, List.set_cons_zero, List.set_cons_succ]
              refine wpAnyH_takeD (i := 4) (d := some 41) (v := ?vd4) rfl (by rfl) (by kernel_rfl) (by kernel_rfl) (by kernel_rfl) (fun _ _ _ h => h) (Or.inl ⟨by rfl, ?hyd4⟩) (by assumption) ?restd4
              case hyd4 => (intro w hSw; (try dsimp only at hSw); go_simp; try (with_reducible rfl))
              try simp only [Act.put, List.setIfInBounds_toArray, List.set_cons_zero, List.set_cons_succ]
              refine wpAnyH_takeD (i := 5) (d := some 42) (v := ?vd5) rfl (by rfl) (by kernel_rfl) (by kernel_rfl) (by kernel_rfl) (fun _ _ _ h => h) (Or.inl ⟨by rfl, ?hyd5⟩) (by assumption) ?restd5
              case hyd5 => (intro w hSw; (try dsimp only at hSw); go_simp; try (with_reducible rfl))
              try simp only [Act.put, List.setIfInBounds_toArray, List.set_cons_zero, List.set_cons_succ]
              refine wpAnyH_takeD (i := 6) (d := some 43) (v := ?vd6) rfl (by rfl) (by kernel_rfl) (by kernel_rfl) (by kernel_rfl) (fun _ _ _ h => h) (Or.inl ⟨by rfl, ?hyd6⟩) (by assumption) ?restd6
              case hyd6 => (intro w hSw; (try dsimp only at hSw); go_simp; try (with_reducible rfl))
              try simp only [Act.put, List.setIfInBounds_toArray, List.set_cons_zero, List.set_cons_succ]
              refine wpAnyH_takeD (i := 7) (d := some 44) (v := ?vd7) rfl (by rfl) (by kernel_rfl) (by kernel_rfl) (by kernel_rfl) (fun _ _ _ h => h) (Or.inl ⟨by rfl, ?hyd7⟩) (by assumption) ?restd7
              case hyd7 => (intro w hSw; (try dsimp only at hSw); go_simp; try (with_reducible rfl))
              try simp only [Act.put, List.setIfInBounds_toArray, List.set_cons_zero, List.set_cons_succ]
              refine wpAnyH_takeD (i := 8) (d := some 45) (v := ?vd8) rfl (by rfl) (by kernel_rfl) (by kernel_rfl) (by kernel_rfl) (fun _ _ _ h => h) (Or.inl ⟨by rfl, ?hyd8⟩) (by assumption) ?restd8
              case hyd8 => (intro w hSw; (try dsimp only at hSw); go_simp; try (with_reducible rfl))
              try simp only [Act.put, List.setIfInBounds_toArray, List.set_cons_zero, List.set_cons_succ]
              refine wpAnyH_takeD (i := 9) (d := some 46) (v := ?vd9) rfl (by rfl) (by kernel_rfl) (by kernel_rfl) (by kernel_rfl) (fun _ _ _ h => h) (Or.inl ⟨by rfl, ?hyd9⟩) (by assumption) ?restd9
              case hyd9 => (intro w hSw; (try dsimp only at hSw); go_simp; try (with_reducible rfl))
              try simp only [Act.put, List.setIfInBounds_toArray, List.set_cons_zero, List.set_cons_succ]
              refine wpAnyH_takeD (i := 10) (d := some 47) (v := ?vd10) rfl (by rfl) (by kernel_rfl) (by kernel_rfl) (by kernel_rfl) (fun _ _ _ h => h) (Or.inl ⟨by rfl, ?hyd10⟩) (by assumption) ?restd10
              case hyd10 => (intro w hSw; (try dsimp only at hSw); go_simp; try (with_reducible rfl))
              try simp only [Act.put, List.setIfInBounds_toArray, List.set_cons_zero, List.set_cons_succ]
              refine wpAnyH_takeD (i := 11) (d := some 48) (v := ?vd11) rfl (by rfl) (by kernel_rfl) (by kernel_rfl) (by kernel_rfl) (fun _ _ _ h => h) (Or.inl ⟨by rfl, ?hyd11⟩) (by assumption) ?restd11
              case hyd11 => (intro w hSw; (try dsimp only at hSw); go_simp; try (with_reducible rfl))
              try simp only [Act.put, List.setIfInBounds_toArray, List.set_cons_zero, List.set_cons_succ]
              refine wpAnyH_takeD (i := 12) (d := some 49) (v := ?vd12) rfl (by rfl) (by kernel_rfl) (by kernel_rfl) (by kernel_rfl) (fun _ _ _ h => h) (Or.inl ⟨by rfl, ?hyd12⟩) (by assumption) ?restd12
              case hyd12 => (intro w hSw; (try dsimp only at hSw); go_simp; try (with_reducible rfl))
              try simp only [Act.put, List.setIfInBounds_toArray, List.set_cons_zero, List.set_cons_succ]
              refine wpAnyH_takeD (i := 13) (d := some 50) (v := ?vd13) rfl (by rfl) (by kernel_rfl) (by kernel_rfl) (by kernel_rfl) (fun _ _ _ h => h) (Or.inl ⟨by rfl, ?hyd13⟩) (by assumption) ?restd13
              case hyd13 => (intro w hSw; (try dsimp only at hSw); go_simp; try (with_reducible rfl))
              try simp only [Act.put, List.setIfInBounds_toArray, List.set_cons_zero, List.set_cons_succ]
              refine wpAnyH_takeD (i := 14) (d := some 51) (v := ?vd14) rfl (by rfl) (by kernel_rfl) (by kernel_rfl) (by kernel_rfl) (fun _ _ _ h => h) (Or.inl ⟨by rfl, ?hyd14⟩) (by assumption) ?restd14
              case hyd14 => (intro w hSw; (try dsimp only at hSw); go_simp; try (with_reducible rfl))
              try simp only [Act.put, List.setIfInBounds_toArray, List.set_cons_zero, List.set_cons_succ]
              refine wpAnyH_takeD (i := 15) (d := some 52) (v := ?vd15) rfl (by rfl) (by kernel_rfl) (by kernel_rfl) (by kernel_rfl) (fun _ _ _ h => h) (Or.inl ⟨by rfl, ?hyd15⟩) (by assumption) ?restd15
              case hyd15 => (intro w hSw; (try dsimp only at hSw); go_simp; try (with_reducible rfl))
              try simp only [Act.put, List.setIfInBounds_toArray, List.set_cons_zero, List.set_cons_succ]
              refine wpAnyH_takeD (i := 16) (d := some 53) (v := ?vd16) rfl (by rfl) (by kernel_rfl) (by kernel_rfl) (by kernel_rfl) (fun _ _ _ h => h) (Or.inl ⟨by rfl, ?hyd16⟩) (by assumption) ?restd16
              case hyd16 => (intro w hSw; (try dsimp only at hSw); go_simp; try (with_reducible rfl))
              try simp only [Act.put, List.setIfInBounds_toArray, List.set_cons_zero, List.set_cons_succ]
              refine wpAnyH_takeD (i := 17) (d := some 54) (v := ?vd17) rfl (by rfl) (by kernel_rfl) (by kernel_rfl) (by kernel_rfl) (fun _ _ _ h => h) (Or.inl ⟨by rfl, ?hyd17⟩) (by assumption) ?restd17
              case hyd17 => (intro w hSw; (try dsimp only at hSw); go_simp; try (with_reducible rfl))
              try simp only [Act.put, List.setIfInBounds_toArray, List.set_cons_zero, List.set_cons_succ]
              refine wpAnyH_takeD (i := 18) (d := some 55) (v := ?vd18) rfl (by rfl) (by kernel_rfl) (by kernel_rfl) (by kernel_rfl) (fun _ _ _ h => h) (Or.inl ⟨by rfl, ?hyd18⟩) (by assumption) ?restd18
              case hyd18 => (intro w hSw; (try dsimp only at hSw); go_simp; try (with_reducible rfl))
              try simp only [Act.put, List.setIfInBounds_toArray, List.set_cons_zero, List.set_cons_succ]
              refine wpAnyH_takeD (i := 19) (d := some 56) (v := ?vd19) rfl (by rfl) (by kernel_rfl) (by kernel_rfl) (by kernel_rfl) (fun _ _ _ h => h) (Or.inl ⟨by rfl, ?hyd19⟩) (by assumption) ?restd19
              case hyd19 => (intro w hSw; (try dsimp only at hSw); go_simp; try (with_reducible rfl))
              try simp only [Act.put, List.setIfInBounds_toArray, List.set_cons_zero, List.set_cons_succ]
              refine wpAnyH_takeD (i := 20) (d := some 57) (v := ?vd20) rfl (by rfl) (by kernel_rfl) (by kernel_rfl) (by kernel_rfl) (fun _ _ _ h => h) (Or.inl ⟨by rfl, ?hyd20⟩) (by assumption) ?restd20
              case hyd20 => (intro w hSw; (try dsimp only at hSw); go_simp; try (with_reducible rfl))
              try simp only [Act.put, List.setIfInBounds_toArray, List.set_cons_zero, List.set_cons_succ]
              refine wpAnyH_takeD (i := 21) (d := some 58) (v := ?vd21) rfl (by rfl) (by kernel_rfl) (by kernel_rfl) (by kernel_rfl) (fun _ _ _ h => h) (Or.inl ⟨by rfl, ?hyd21⟩) (by assumption) ?restd21
              case hyd21 => (intro w hSw; (try dsimp only at hSw); go_simp; try (with_reducible rfl))
              try simp only [Act.put, List.setIfInBounds_toArray, List.set_cons_zero, List.set_cons_succ]
              refine wpAnyH_takeD (i := 22) (d := some 59) (v := ?vd22) rfl (by rfl) (by kernel_rfl) (by kernel_rfl) (by kernel_rfl) (fun _ _ _ h => h) (Or.inl ⟨by rfl, ?hyd22⟩) (by assumption) ?restd22
              case hyd22 => (intro w hSw; (try dsimp only at hSw); go_simp; try (with_reducible rfl))
              try simp only [Act.put, List.setIfInBounds_toArray, List.set_cons_zero, List.set_cons_succ]
              refine wpAnyH_takeD (i := 23) (d := some 60) (v := ?vd23) rfl (by rfl) (by kernel_rfl) (by kernel_rfl) (by kernel_rfl) (fun _ _ _ h => h) (Or.inl ⟨by rfl, ?hyd23⟩) (by assumption) ?restd23
              case hyd23 => (intro w hSw; (try dsimp only at hSw); go_simp; try (with_reducible rfl))
              try simp only [Act.put, List.setIfInBounds_toArray, List.set_cons_zero, List.set_cons_succ]
              refine wpAnyH_takeD (i := 24) (d := some 61) (v := ?vd24) rfl (by rfl) (by kernel_rfl) (by kernel_rfl) (by kernel_rfl) (fun _ _ _ h => h) (Or.inl ⟨by rfl, ?hyd24⟩) (by assumption) ?restd24
              case hyd24 => (intro w hSw; (try dsimp only at hSw); go_simp; try (with_reducible rfl))
              try simp only [Act.put, List.setIfInBounds_toArray, List.set_cons_zero, List.set_cons_succ]
              refine wpAnyH_ready (rs := [25]) (by kernel_rfl) (by simp) ?_
              refine AllReadyH.cons rfl (fun K hK => ?_) AllReadyH.nil
              go_simp
              go_at_call 61
              (with_reducible refine (W0.out _ hBd).mono ?_)
              rintro e w7 ⟨rfl, hN7⟩
              have hfd25 := CS.out _ hN7
              refine hK.out _ _ hfd25 (fun hHeldd25 => ?_)
              clear hK K
              try simp only [Act.put, List.setIfInBounds_toArray, List.set_cons_zero, List.set_cons_succ]
              refine wpAnyH_takeD (i := 26) (d := some 63) (v := ?vd26) rfl (by rfl) (by kernel_rfl) (by kernel_rfl) (by kernel_rfl) (fun _ _ _ h => h) (Or.inl ⟨by rfl, ?hyd26⟩) (by assumption) ?restd26
              case hyd26 => (intro w hSw; (try dsimp only at hSw); go_simp; try (with_reducible rfl))
              try simp only [Act.put, List.setIfInBounds_toArray, List.set_cons_zero, List.set_cons_succ]
              refine wpAnyH_takeD (i := 27) (d := some 64) (v := ?vd27) rfl (by rfl) (by kernel_rfl) (by kernel_rfl) (by kernel_rfl) (fun _ _ _ h => h) (Or.inl ⟨by rfl, ?hyd27⟩) (by assumption) ?restd27
              case hyd27 => (intro w hSw; (try dsimp only at hSw); go_simp; try (with_reducible rfl))
              try simp only [Act.put, List.setIfInBounds_toArray, List.set_cons_zero, List.set_cons_succ]
              refine wpAnyH_takeD (i := 28) (d := some 65) (v := ?vd28) rfl (by rfl) (by kernel_rfl) (by kernel_rfl) (by kernel_rfl) (fun _ _ _ h => h) (Or.inl ⟨by rfl, ?hyd28⟩) (by assumption) ?restd28
              case hyd28 => (intro w hSw; (try dsimp only at hSw); go_simp; try (with_reducible rfl))
              try simp only [Act.put, List.setIfInBounds_toArray, List.set_cons_zero, List.set_cons_succ]
              refine wpAnyH_takeD (i := 29) (d := some 66) (v := ?vd29) rfl (by rfl) (by kernel_rfl) (by kernel_rfl) (by kernel_rfl) (fun _ _ _ h => h) (Or.inl ⟨by rfl, ?hyd29⟩) (by assumption) ?restd29
              case hyd29 => (intro w hSw; (try dsimp only at hSw); go_simp; try (with_reducible rfl))
              try simp only [Act.put, List.setIfInBounds_toArray, List.set_cons_zero, List.set_cons_succ]
              refine wpAnyH_takeD (i := 30) (d := some 67) (v := ?vd30) rfl (by rfl) (by kernel_rfl) (by kernel_rfl) (by kernel_rfl) (fun _ _ _ h => h) (Or.inl ⟨by rfl, ?hyd30⟩) (by assumption) ?restd30
              case hyd30 => (intro w hSw; (try dsimp only at hSw); go_simp; try (with_reducible rfl))
              try simp only [Act.put, List.setIfInBounds_toArray, List.set_cons_zero, List.set_cons_succ]
              refine wpAnyH_takeD (i := 31) (d := some 68) (v := ?vd31) rfl (by rfl) (by kernel_rfl) (by kernel_rfl) (by kernel_rfl) (fun _ _ _ h => h) (Or.inl ⟨by rfl, ?hyd31⟩) (by assumption) ?restd31
              case hyd31 => (intro w hSw; (try dsimp only at hSw); go_simp; try (with_reducible rfl))
              try simp only [Act.put, List.setIfInBounds_toArray, List.set_cons_zero, List.set_cons_succ]
              refine wpAnyH_strikesD [(32, 69), (33, 70), (34, 71), (35, 72), (36, 73), (37, 74), (38, 75), (39, 76), (40, 77), (41, 78), (42, 79), (43, 80)] (by kernel_rfl) (fun _ _ _ _ h => h) (n := 12) (by assumption) rfl (by kernel_rfl) (by kernel_rfl) ?_
              try simp only [List.foldl, Act.put, List.setIfInBounds_toArray, List.set_cons_zero, List.set_cons_succ]
              refine wpAnyH_takeD (i := 44) (d := some 81) (v := ?vd33) rfl (by rfl) (by kernel_rfl) (by kernel_rfl) (by kernel_rfl) (fun _ _ _ h => h) (Or.inl ⟨by rfl, ?hyd33⟩) (by assumption) ?restd33
              case hyd33 => (intro w hSw; (try dsimp only at hSw); go_simp; try (with_reducible rfl))
              try simp only [Act.put, List.setIfInBounds_toArray, List.set_cons_zero, List.set_cons_succ]
              refine wpAnyH_takeD (i := 45) (d := some 82) (v := ?vd34) rfl (by rfl) (by kernel_rfl) (by kernel_rfl) (by kernel_rfl) (fun _ _ _ h => h) (Or.inl ⟨by rfl, ?hyd34⟩) (by assumption) ?restd34
              case hyd34 => (intro w hSw; (try dsimp only at hSw); go_simp; try (with_reducible rfl))
              try simp only [Act.put, List.setIfInBounds_toArray, List.set_cons_zero, List.set_cons_succ]
              refine wpAnyH_done (by kernel_rfl) ?_ _
              go_wp2
              go_roundw
              case rel => exact ⟨k + 1, by omega, by go_num, hO1, hN7⟩
              case measure => simp [intOf]; omega
            · obtain ⟨k', hkk'⟩ : ∃ k', k = k' + 1 := ⟨k - 1, by omega⟩
              obtain ⟨hp1, hp2⟩ := hprev.out k' hkk'
              have CS1 := Lib.hid (fun W => rg_cells1 (W := W) (tree := tree) (leaf := leaf) (n := n) (c := c) (c2 := c2) hb hb2 hcc hcs hp1)
              have e11 : IntKind.i64.wrap ((k : Int) - 1) = (k' : Int) := by rw [IntKind.wrap_i64]; omega
              have e12 : IntKind.i64.wrap (k' : Int) = (k' : Int) := by rw [IntKind.wrap_i64]; omega
              have e13 : (k' : Int) < (n : Int) := by omega
              have e9 : decide ((0 : Int) < (k : Int)) = true := decide_eq_true (by omega)
              have e9b : decide (0 < k) = true := decide_eq_true (by omega)
              have e10 : k' < n := by omega
              have hcs0 := CS1.out _ hBd
              by_cases hle : key ≤ P
              · have hz : r = false := HF.out (k + 1) (by rw [hst2]; exact decide_eq_false (by omega))
                subst hz
                have hdl : decide (key ≤ P) = true := decide_eq_true hle
                clear hst hst2 hprev hpz hcc hcs hw hk0 hmk hneg CS hkk' hp1 hle
                go_wp2
                go_region_held3 (fun W => W.cell? ⟨w.heap.size, 0, none⟩ = some (.int .i64 tree) ∧ W.cell? ⟨w.heap.size, 1, none⟩ = some (.bool leaf) ∧ W.cell? ⟨w.heap.size, 2, none⟩ = some (.slice (some ⟨b, off, none⟩) n c) ∧ W.cell? ⟨w.heap.size, 3, none⟩ = some (.slice (some ⟨b2, off2, none⟩) n c2) ∧ W.cell? ⟨b, off + k, none⟩ = some (.int .i64 key) ∧ W.cell? ⟨b2, off2 + k, none⟩ = some (.string s) ∧ W.cell? ⟨b, off + k', none⟩ = some (.int .i64 P)) (assumption) (first | (go_at_call 61; (with_reducible refine (W0.out _ hBd).mono ?_); rintro e w7 ⟨rfl, hN7⟩; have hf7 := CS1.out _ hN7))
                go_wp2
                go_ret
                exact ⟨rfl, hN7.bel⟩
              · have hO1 : Hid (okN ⟨tree, leaf, ks, vs⟩ (k + 1) = true) := by rw [hst2]; exact decide_eq_true (by omega)
                have hdl : decide (key ≤ P) = false := decide_eq_false hle
                clear hst hst2 hprev hpz hcc hcs hw hk0 hmk hneg CS hkk' hp1 hle
                go_wp2
                go_region_held3 (fun W => W.cell? ⟨w.heap.size, 0, none⟩ = some (.int .i64 tree) ∧ W.cell? ⟨w.heap.size, 1, none⟩ = some (.bool leaf) ∧ W.cell? ⟨w.heap.size, 2, none⟩ = some (.slice (some ⟨b, off, none⟩) n c) ∧ W.cell? ⟨w.heap.size, 3, none⟩ = some (.slice (some ⟨b2, off2, none⟩) n c2) ∧ W.cell? ⟨b, off + k, none⟩ = some (.int .i64 key) ∧ W.cell? ⟨b2, off2 + k, none⟩ = some (.string s) ∧ W.cell? ⟨b, off + k', none⟩ = some (.int .i64 P)) (assumption) (first | (go_at_call 61; (with_reducible refine (W0.out _ hBd).mono ?_); rintro e w7 ⟨rfl, hN7⟩; have hf7 := CS1.out _ hN7))
                go_wp2
                go_roundw
                case rel => exact ⟨k + 1, by omega, by go_num, hO1, hN7⟩
                case measure => simp [intOf]; omega
          · have hz : r = false := HF.out (k + 1) (by
              rw [hst, show (s.size == wd) = false from by rw [beq_eq_false_iff_ne]; exact hw]; rfl)
            subst hz
            have hne3 : ((s.size : Int) != (wd : Int)) = true := by rw [bne_iff_ne]; omega
            have hcs0 := CS.out _ hBd
            clear hst hprev hpz hcc hcs hw hmk hneg
            go_wp2
            refine wp_region_held_drew (S := (fun W => W.cell? ⟨w.heap.size, 0, none⟩ = some (.int .i64 tree) ∧ W.cell? ⟨w.heap.size, 1, none⟩ = some (.bool leaf) ∧ W.cell? ⟨w.heap.size, 2, none⟩ = some (.slice (some ⟨b, off, none⟩) n c) ∧ W.cell? ⟨w.heap.size, 3, none⟩ = some (.slice (some ⟨b2, off2, none⟩) n c2) ∧ W.cell? ⟨b, off + k, none⟩ = some (.int .i64 key) ∧ W.cell? ⟨b2, off2 + k, none⟩ = some (.string s))) (by kernel_rfl) (by assumption) (fun hHeld => ?_)
            refine wpAnyH_takeD (i := 0) (d := some 37) (v := ?vc0) rfl (by rfl) (by kernel_rfl) (by kernel_rfl) (by kernel_rfl) (fun _ _ _ h => h) (Or.inl ⟨by rfl, ?hyc0⟩) (by assumption) ?restc0
            case hyc0 => (intro w hSw; (try dsimp only at hSw); go_simp; try (with_reducible rfl))
            try simp only [Act.put, List.setIfInBounds_toArray, List.set_cons_zero, List.set_cons_succ]
            refine wpAnyH_takeD (i := 1) (d := some 38) (v := ?vc1) rfl (by rfl) (by kernel_rfl) (by kernel_rfl) (by kernel_rfl) (fun _ _ _ h => h) (Or.inl ⟨by rfl, ?hyc1⟩) (by assumption) ?restc1
            case hyc1 => (intro w hSw; (try dsimp only at hSw); go_simp; try (with_reducible rfl))
            try simp only [Act.put, List.setIfInBounds_toArray, List.set_cons_zero, List.set_cons_succ]
            refine wpAnyH_takeD (i := 2) (d := some 39) (v := ?vc2) rfl (by rfl) (by kernel_rfl) (by kernel_rfl) (by kernel_rfl) (fun _ _ _ h => h) (Or.inl ⟨by rfl, ?hyc2⟩) (by assumption) ?restc2
            case hyc2 => (intro w hSw; (try dsimp only at hSw); go_simp; try (with_reducible rfl))
            try simp only [Act.put, List.setIfInBounds_toArray, List.set_cons_zero, List.set_cons_succ]
            refine wpAnyH_takeD (i := 3) (d := some 40) (v := ?vc3) rfl (by rfl) (by kernel_rfl) (by kernel_rfl) (by kernel_rfl) (fun _ _ _ h => h) (Or.inl ⟨by rfl, ?hyc3⟩) (by assumption) ?restc3
            case hyc3 => (intro w hSw; (try dsimp only at hSw); go_simp; try (with_reducible rfl))
            try simp only [Act.put, List.setIfInBounds_toArray, List.set_cons_zero, List.set_cons_succ]
            refine wpAnyH_takeD (i := 4) (d := some 41) (v := ?vc4) rfl (by rfl) (by kernel_rfl) (by kernel_rfl) (by kernel_rfl) (fun _ _ _ h => h) (Or.inl ⟨by rfl, ?hyc4⟩) (by assumption) ?restc4
            case hyc4 => (intro w hSw; (try dsimp only at hSw); go_simp; try (with_reducible rfl))
            try simp only [Act.put, List.setIfInBounds_toArray, List.set_cons_zero, List.set_cons_succ]
            refine wpAnyH_takeD (i := 5) (d := some 42) (v := ?vc5) rfl (by rfl) (by kernel_rfl) (by kernel_rfl) (by kernel_rfl) (fun _ _ _ h => h) (Or.inl ⟨by rfl, ?hyc5⟩) (by assumption) ?restc5
            case hyc5 => (intro w hSw; (try dsimp only at hSw); go_simp; try (with_reducible rfl))
            try simp only [Act.put, List.setIfInBounds_toArray, List.set_cons_zero, List.set_cons_succ]
            refine wpAnyH_takeD (i := 6) (d := some 43) (v := ?vc6) rfl (by rfl) (by kernel_rfl) (by kernel_rfl) (by kernel_rfl) (fun _ _ _ h => h) (Or.inl ⟨by rfl, ?hyc6⟩) (by assumption) ?restc6
            case hyc6 => (intro w hSw; (try dsimp only at hSw); go_simp; try (with_reducible rfl))
            try simp only [Act.put, List.setIfInBounds_toArray, List.set_cons_zero, List.set_cons_succ]
            refine wpAnyH_takeD (i := 7) (d := some 44) (v := ?vc7) rfl (by rfl) (by kernel_rfl) (by kernel_rfl) (by kernel_rfl) (fun _ _ _ h => h) (Or.inl ⟨by rfl, ?hyc7⟩) (by assumption) ?restc7
            case hyc7 => (intro w hSw; (try dsimp only at hSw); go_simp; try (with_reducible rfl))
            try simp only [Act.put, List.setIfInBounds_toArray, List.set_cons_zero, List.set_cons_succ]
            refine wpAnyH_takeD (i := 8) (d := some 45) (v := ?vc8) rfl (by rfl) (by kernel_rfl) (by kernel_rfl) (by kernel_rfl) (fun _ _ _ h => h) (Or.inl ⟨by rfl, ?hyc8⟩) (by assumption) ?restc8
            case hyc8 => (intro w hSw; (try dsimp only at hSw); go_simp; try (with_reducible rfl))
            try simp only [Act.put, List.setIfInBounds_toArray, List.set_cons_zero, List.set_cons_succ]
            refine wpAnyH_takeD (i := 9) (d := some 46) (v := ?vc9) rfl (by rfl) (by kernel_rfl) (by kernel_rfl) (by kernel_rfl) (fun _ _ _ h => h) (Or.inl ⟨by rfl, ?hyc9⟩) (by assumption) ?restc9
            case hyc9 => (intro w hSw; (try dsimp only at hSw); go_simp; try (with_reducible rfl))
            try simp only [Act.put, List.setIfInBounds_toArray, List.set_cons_zero, List.set_cons_succ]
            refine wpAnyH_takeD (i := 10) (d := some 47) (v := ?vc10) rfl (by rfl) (by kernel_rfl) (by kernel_rfl) (by kernel_rfl) (fun _ _ _ h => h) (Or.inl ⟨by rfl, ?hyc10⟩) (by assumption) ?restc10
            case hyc10 => (intro w hSw; (try dsimp only at hSw); go_simp; try (with_reducible rfl))
            try simp only [Act.put, List.setIfInBounds_toArray, List.set_cons_zero, List.set_cons_succ]
            refine wpAnyH_takeD (i := 11) (d := some 48) (v := ?vc11) rfl (by rfl) (by kernel_rfl) (by kernel_rfl) (by kernel_rfl) (fun _ _ _ h => h) (Or.inl ⟨by rfl, ?hyc11⟩) (by assumption) ?restc11
            case hyc11 => (intro w hSw; (try dsimp only at hSw); go_simp; try (with_reducible rfl))
            try simp only [Act.put, List.setIfInBounds_toArray, List.set_cons_zero, List.set_cons_succ]
            refine wpAnyH_takeD (i := 12) (d := some 49) (v := ?vc12) rfl (by rfl) (by kernel_rfl) (by kernel_rfl) (by kernel_rfl) (fun _ _ _ h => h) (Or.inl ⟨by rfl, ?hyc12⟩) (by assumption) ?restc12
            case hyc12 => (intro w hSw; (try dsimp only at hSw); go_simp; try (with_reducible rfl))
            try simp only [Act.put, List.setIfInBounds_toArray, List.set_cons_zero, List.set_cons_succ]
            refine wpAnyH_takeD (i := 13) (d := some 50) (v := ?vc13) rfl (by rfl) (by kernel_rfl) (by kernel_rfl) (by kernel_rfl) (fun _ _ _ h => h) (Or.inl ⟨by rfl, ?hyc13⟩) (by assumption) ?restc13
            case hyc13 => (intro w hSw; (try dsimp only at hSw); go_simp; try (with_reducible rfl))
            try simp only [Act.put, List.setIfInBounds_toArray, List.set_cons_zero, List.set_cons_succ]
            refine wpAnyH_takeD (i := 14) (d := some 51) (v := ?vc14) rfl (by rfl) (by kernel_rfl) (by kernel_rfl) (by kernel_rfl) (fun _ _ _ h => h) (Or.inl ⟨by rfl, ?hyc14⟩) (by assumption) ?restc14
            case hyc14 => (intro w hSw; (try dsimp only at hSw); go_simp; try (with_reducible rfl))
            try simp only [Act.put, List.setIfInBounds_toArray, List.set_cons_zero, List.set_cons_succ]
            refine wpAnyH_takeD (i := 15) (d := some 52) (v := ?vc15) rfl (by rfl) (by kernel_rfl) (by kernel_rfl) (by kernel_rfl) (fun _ _ _ h => h) (Or.inl ⟨by rfl, ?hyc15⟩) (by assumption) ?restc15
            case hyc15 => (intro w hSw; (try dsimp only at hSw); go_simp; try (with_reducible rfl))
            try simp only [Act.put, List.setIfInBounds_toArray, List.set_cons_zero, List.set_cons_succ]
            refine wpAnyH_takeD (i := 16) (d := some 53) (v := ?vc16) rfl (by rfl) (by kernel_rfl) (by kernel_rfl) (by kernel_rfl) (fun _ _ _ h => h) (Or.inl ⟨by rfl, ?hyc16⟩) (by assumption) ?restc16
            case hyc16 => (intro w hSw; (try dsimp only at hSw); go_simp; try (with_reducible rfl))
            try simp only [Act.put, List.setIfInBounds_toArray, List.set_cons_zero, List.set_cons_succ]
            refine wpAnyH_takeD (i := 17) (d := some 54) (v := ?vc17) rfl (by rfl) (by kernel_rfl) (by kernel_rfl) (by kernel_rfl) (fun _ _ _ h => h) (Or.inl ⟨by rfl, ?hyc17⟩) (by assumption) ?restc17
            case hyc17 => (intro w hSw; (try dsimp only at hSw); go_simp; try (with_reducible rfl))
            try simp only [Act.put, List.setIfInBounds_toArray, List.set_cons_zero, List.set_cons_succ]
            refine wpAnyH_takeD (i := 18) (d := some 55) (v := ?vc18) rfl (by rfl) (by kernel_rfl) (by kernel_rfl) (by kernel_rfl) (fun _ _ _ h => h) (Or.inl ⟨by rfl, ?hyc18⟩) (by assumption) ?restc18
            case hyc18 => (intro w hSw; (try dsimp only at hSw); go_simp; try (with_reducible rfl))
            try simp only [Act.put, List.setIfInBounds_toArray, List.set_cons_zero, List.set_cons_succ]
            refine wpAnyH_takeD (i := 19) (d := some 56) (v := ?vc19) rfl (by rfl) (by kernel_rfl) (by kernel_rfl) (by kernel_rfl) (fun _ _ _ h => h) (Or.inl ⟨by rfl, ?hyc19⟩) (by assumption) ?restc19
            case hyc19 => (intro w hSw; (try dsimp only at hSw); go_simp; try (with_reducible rfl))
            try simp only [Act.put, List.setIfInBounds_toArray, List.set_cons_zero, List.set_cons_succ]
            refine wpAnyH_takeD (i := 20) (d := some 57) (v := ?vc20) rfl (by rfl) (by kernel_rfl) (by kernel_rfl) (by kernel_rfl) (fun _ _ _ h => h) (Or.inl ⟨by rfl, ?hyc20⟩) (by assumption) ?restc20
            case hyc20 => (intro w hSw; (try dsimp only at hSw); go_simp; try (with_reducible rfl))
            try simp only [Act.put, List.setIfInBounds_toArray, List.set_cons_zero, List.set_cons_succ]
            refine wpAnyH_takeD (i := 21) (d := some 58) (v := ?vc21) rfl (by rfl) (by kernel_rfl) (by kernel_rfl) (by kernel_rfl) (fun _ _ _ h => h) (Or.inl ⟨by rfl, ?hyc21⟩) (by assumption) ?restc21
            case hyc21 => (intro w hSw; (try dsimp only at hSw); go_simp; try (with_reducible rfl))
            try simp only [Act.put, List.setIfInBounds_toArray, List.set_cons_zero, List.set_cons_succ]
            refine wpAnyH_takeD (i := 22) (d := some 59) (v := ?vc22) rfl (by rfl) (by kernel_rfl) (by kernel_rfl) (by kernel_rfl) (fun _ _ _ h => h) (Or.inl ⟨by rfl, ?hyc22⟩) (by assumption) ?restc22
            case hyc22 => (intro w hSw; (try dsimp only at hSw); go_simp; try (with_reducible rfl))
            try simp only [Act.put, List.setIfInBounds_toArray, List.set_cons_zero, List.set_cons_succ]
            refine wpAnyH_takeD (i := 23) (d := some 60) (v := ?vc23) rfl (by rfl) (by kernel_rfl) (by kernel_rfl) (by kernel_rfl) (fun _ _ _ h => h) (Or.inl ⟨by rfl, ?hyc23⟩) (by assumption) ?restc23
            case hyc23 => (intro w hSw; (try dsimp only at hSw); go_simp; try (with_reducible rfl))
            try simp only [Act.put, List.setIfInBounds_toArray, List.set_cons_zero, List.set_cons_succ]
            refine wpAnyH_takeD (i := 24) (d := some 61) (v := ?vc24) rfl (by rfl) (by kernel_rfl) (by kernel_rfl) (by kernel_rfl) (fun _ _ _ h => h) (Or.inl ⟨by rfl, ?hyc24⟩) (by assumption) ?restc24
            case hyc24 => (intro w hSw; (try dsimp only at hSw); go_simp; try (with_reducible rfl))
            try simp only [Act.put, List.setIfInBounds_toArray, List.set_cons_zero, List.set_cons_succ]
            refine wpAnyH_ready (rs := [25]) (by kernel_rfl) (by simp) ?_
            refine AllReadyH.cons rfl (fun K hK => ?_) AllReadyH.nil
            go_simp
            go_at_call 61
            (with_reducible refine (W0.out _ hBd).mono ?_)
            rintro e w7 ⟨rfl, hN7⟩
            have hfc25 := CS.out _ hN7
            refine hK.out _ _ hfc25 (fun hHeldc25 => ?_)
            clear hK K
            try simp only [Act.put, List.setIfInBounds_toArray, List.set_cons_zero, List.set_cons_succ]
            refine wpAnyH_takeD (i := 26) (d := some 63) (v := ?vc26) rfl (by rfl) (by kernel_rfl) (by kernel_rfl) (by kernel_rfl) (fun _ _ _ h => h) (Or.inl ⟨by rfl, ?hyc26⟩) (by assumption) ?restc26
            case hyc26 => (intro w hSw; (try dsimp only at hSw); go_simp; try (with_reducible rfl))
            try simp only [Act.put, List.setIfInBounds_toArray, List.set_cons_zero, List.set_cons_succ]
            refine wpAnyH_takeD (i := 27) (d := some 64) (v := ?vc27) rfl (by rfl) (by kernel_rfl) (by kernel_rfl) (by kernel_rfl) (fun _ _ _ h => h) (Or.inl ⟨by rfl, ?hyc27⟩) (by assumption) ?restc27
            case hyc27 => (intro w hSw; (try dsimp only at hSw); go_simp; try (with_reducible rfl))
            try simp only [Act.put, List.setIfInBounds_toArray, List.set_cons_zero, List.set_cons_succ]
            refine wpAnyH_takeD (i := 28) (d := some 65) (v := ?vc28) rfl (by rfl) (by kernel_rfl) (by kernel_rfl) (by kernel_rfl) (fun _ _ _ h => h) (Or.inl ⟨by rfl, ?hyc28⟩) (by assumption) ?restc28
            case hyc28 => (intro w hSw; (try dsimp only at hSw); go_simp; try (with_reducible rfl))
            try simp only [Act.put, List.setIfInBounds_toArray, List.set_cons_zero, List.set_cons_succ]
            refine wpAnyH_strikesD [(29, 66), (30, 67), (31, 68), (32, 69), (33, 70), (34, 71), (35, 72), (36, 73), (37, 74), (38, 75), (39, 76), (40, 77), (41, 78), (42, 79), (43, 80), (44, 81)] (by kernel_rfl) (fun _ _ _ _ h => h) (n := 16) (by assumption) rfl (by kernel_rfl) (by kernel_rfl) ?_
            try simp only [List.foldl, Act.put, List.setIfInBounds_toArray, List.set_cons_zero, List.set_cons_succ]
            refine wpAnyH_takeD (i := 45) (d := some 82) (v := ?vc30) rfl (by rfl) (by kernel_rfl) (by kernel_rfl) (by kernel_rfl) (fun _ _ _ h => h) (Or.inl ⟨by rfl, ?hyc30⟩) (by assumption) ?restc30
            case hyc30 => (intro w hSw; (try dsimp only at hSw); go_simp; try (with_reducible rfl))
            try simp only [Act.put, List.setIfInBounds_toArray, List.set_cons_zero, List.set_cons_succ]
            refine wpAnyH_done (by kernel_rfl) ?_ _
            go_wp2
            go_ret
            exact ⟨rfl, hN7.bel⟩
    · obtain rfl : n = k := by omega
      have hz : r = true := by rw [← HR.out, hkl]; exact hO.out
      subst hz
      have hd6 : decide ((0 : Int) < (n : Int)) = true := decide_eq_true (by omega)
      have HB := Lib.hid hB.out
      cases leaf with
      | false =>
        go_wp2
        go_ret
        exact ⟨rfl, HB.out.bel⟩
      | true =>
        go_wp2
        go_ret
        exact ⟨rfl, HB.out.bel⟩

end Go.Proofs.YtnjlganofjkpfaaGreatDoor
