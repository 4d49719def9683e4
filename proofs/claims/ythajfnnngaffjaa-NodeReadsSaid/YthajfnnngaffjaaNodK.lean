/-
  Layer 7, NodeMost: the node that is made key by key.
-/
import Derived.Test.YthajfnnngaffjaaNodJ
namespace Go.Proofs.Ythajfnnngaffjaa
open Go.RowKit
set_option linter.unusedVariables false
set_option linter.unusedSimpArgs false

/-- i keys and j values so far -/
structure MsN (w0 w : World) (tree : Int) (leaf : Bool) (i : Nat) (Ak : Option Addr) (ck : Nat) (j : Nat) (Av : Option Addr) (cv : Nat) (ks : List Int) (vs : List (List UInt8)) : Prop where
  node : NodAt w w0.heap.size tree leaf (.slice Ak i ck) (.slice Av j cv)
  bel : Below w0.heap.size w0 w
  ok : w.ownsRow (w0.heap.size + 1) 3 1 (.slice Ak i ck) i (i64s ks)
  ov : w.ownsRow (w0.heap.size + 1) 9 1 (.slice Av j cv) j (strV vs)

section
variable {w0 w w' : World} {tree : Int} {leaf : Bool} {i j ck cv : Nat} {Ak Av : Option Addr} {ks : List Int} {vs : List (List UInt8)}

theorem MsN.low (h : MsN w0 w tree leaf i Ak ck j Av cv ks vs) : w0.heap.size + 1 ≤ w.heap.size := by have := block_lt h.node; omega
theorem MsN.later (h : MsN w0 w tree leaf i Ak ck j Av cv ks vs) (hb : Below w.heap.size w w') : MsN w0 w' tree leaf i Ak ck j Av cv ks vs :=
  ⟨h.node.later hb, h.bel.trans (hb.mono h.bel.size), own_kept h.ok (fun k _ hk => hb.block k hk), own_kept h.ov (fun k _ hk => hb.block k hk)⟩
theorem MsN.start (w0 : World) (tree : Int) (leaf : Bool) : MsN w0 (w0.alloc (.cells #[.int .i64 tree, .bool leaf, .slice none 0 0, .slice none 0 0] 25)) tree leaf 0 none 0 0 none 0 [] [] := ⟨NodAt.new _ _ _ _ _, (Below.refl _ _).alloc (Nat.le_refl _) _, World.ownsRow_nil _ _ _ _, World.ownsRow_nil _ _ _ _⟩

theorem MsN.apart (h : MsN w0 w tree leaf i Ak ck j Av cv ks vs) (g : Nat) (hk : (Value.slice Ak i ck).ownBlock = some g) : (Value.slice Av j cv).ownBlock ≠ some g := fun hv => by
  obtain ⟨_, c1, h1⟩ := own_apart h.ok g hk
  obtain ⟨_, c2, h2⟩ := own_apart h.ov g hv
  rw [h1] at h2
  injection h2 with h2
  injection h2 with _ h3 _
  exact absurd h3 (by decide)

theorem MsN.addKey (h : MsN w0 w tree leaf i Ak ck j Av cv ks vs) {v' : Value} {key : Int} (hown : w'.ownsRow (w0.heap.size + 1) 3 1 v' (i + 1) (i64s ks ++ [.int .i64 key])) (hg : w.grownBy w' (Value.slice Ak i ck).ownBlock) :
    ∃ Ak' ck', v' = .slice Ak' (i + 1) ck' ∧ NodAt w' w0.heap.size tree leaf (.slice Ak i ck) (.slice Av j cv) ∧ MsN w0 (w'.setCell ⟨w0.heap.size, 2, none⟩ (.slice Ak' (i + 1) ck')) tree leaf (i + 1) Ak' ck' j Av cv (ks ++ [key]) vs := by
  obtain ⟨Ak', ck', rfl, _, _⟩ := ownsRow_form hown
  have hlow := h.low
  have keep : ∀ g, g < w0.heap.size + 1 → w'.heap[g]? = w.heap[g]? := fun g hlt => hg.block g (by omega) (fun e => by have := (own_apart h.ok g e.symm).1; omega)
  have hn : NodAt w' w0.heap.size tree leaf (.slice Ak i ck) (.slice Av j cv) := (keep _ (by omega)).trans h.node
  refine ⟨Ak', ck', rfl, hn, ?_, ?_, ?_, ?_⟩
  · unfold NodAt
    rw [heap_setCell_same _ _ 2 _ _ _ hn]
    rfl
  · refine Below.setCell ?_ (p := ⟨w0.heap.size, 2, none⟩) (by simp) _
    exact h.bel.trans ⟨hg.os, hg.tape, hg.output, hg.size, fun k hk => keep k (by omega)⟩
  · have e : i64s (ks ++ [key]) = i64s ks ++ [.int .i64 key] := i64s_append _ _
    rw [e]
    refine nod_own_other hown fun k hk => ?_
    have := (own_apart hown k hk).1
    exact heap_setCell_other _ _ _ _ (by simp; omega)
  · refine nod_own_other h.ov fun k hk => ?_
    have h1 := own_apart h.ov k hk
    rw [heap_setCell_other _ _ _ _ (by simp; omega)]
    obtain ⟨hb, cur, hc⟩ := h1
    exact hg.block k (block_lt hc) (fun e => h.apart k e.symm hk)

theorem MsN.addVal (h : MsN w0 w tree leaf i Ak ck j Av cv ks vs) {v' : Value} {s : List UInt8} (hown : w'.ownsRow (w0.heap.size + 1) 9 1 v' (j + 1) (strV vs ++ [.string ⟨s.toArray⟩])) (hg : w.grownBy w' (Value.slice Av j cv).ownBlock) :
    ∃ Av' cv', v' = .slice Av' (j + 1) cv' ∧ NodAt w' w0.heap.size tree leaf (.slice Ak i ck) (.slice Av j cv) ∧ MsN w0 (w'.setCell ⟨w0.heap.size, 3, none⟩ (.slice Av' (j + 1) cv')) tree leaf i Ak ck (j + 1) Av' cv' ks (vs ++ [s]) := by
  obtain ⟨Av', cv', rfl, _, _⟩ := ownsRow_form hown
  have hlow := h.low
  have keep : ∀ g, g < w0.heap.size + 1 → w'.heap[g]? = w.heap[g]? := fun g hlt => hg.block g (by omega) (fun e => by have := (own_apart h.ov g e.symm).1; omega)
  have hn : NodAt w' w0.heap.size tree leaf (.slice Ak i ck) (.slice Av j cv) := (keep _ (by omega)).trans h.node
  refine ⟨Av', cv', rfl, hn, ?_, ?_, ?_, ?_⟩
  · unfold NodAt
    rw [heap_setCell_same _ _ 3 _ _ _ hn]
    rfl
  · refine Below.setCell ?_ (p := ⟨w0.heap.size, 3, none⟩) (by simp) _
    exact h.bel.trans ⟨hg.os, hg.tape, hg.output, hg.size, fun k hk => keep k (by omega)⟩
  · refine nod_own_other h.ok fun k hk => ?_
    have h1 := own_apart h.ok k hk
    rw [heap_setCell_other _ _ _ _ (by simp; omega)]
    obtain ⟨hb, cur, hc⟩ := h1
    exact hg.block k (block_lt hc) (fun e => h.apart k hk e.symm)
  · have e : strV (vs ++ [s]) = strV vs ++ [.string ⟨s.toArray⟩] := strV_append _ _
    rw [e]
    refine nod_own_other hown fun k hk => ?_
    have := (own_apart hown k hk).1
    exact heap_setCell_other _ _ _ _ (by simp; omega)

theorem MsN.nodin (h : MsN w0 w tree leaf i Ak ck j Av cv ks vs) (ht : i64b tree) (hk : ∀ k ∈ ks, i64b k) (hv : ∀ v ∈ vs, v.length ≤ 9223372036854775807) : NodIn w ⟨tree, leaf, ks, vs⟩ Ak i ck Av j cv := by
  obtain ⟨A1, c1, e1, h1⟩ := Ints.of_own h.ok
  obtain ⟨A2, c2, e2, h2⟩ := Strs.of_own h.ov
  injection e1 with e1 _ e3
  injection e2 with e2 _ e4
  subst e1; subst e2; subst e3; subst e4
  exact ⟨h1, h2, ht, hk, hv⟩
end

/-! ### the keys and the values -/
def mkK (first gap : Int) (k : Nat) : List Int := (List.range k).map fun i : Nat => first + (i : Int) * gap
def mkV (wd k : Nat) : List (List UInt8) := List.replicate k (List.replicate wd 0)
theorem mkK_len (first gap : Int) (k : Nat) : (mkK first gap k).length = k := by simp [mkK]
theorem mkV_len (wd k : Nat) : (mkV wd k).length = k := by simp [mkV]
theorem mkK_step (first gap : Int) (k : Nat) : mkK first gap (k + 1) = mkK first gap k ++ [first + (k : Int) * gap] := by simp [mkK, List.range_succ]
theorem mkV_step (wd k : Nat) : mkV wd (k + 1) = mkV wd k ++ [List.replicate wd 0] := by simp [mkV, List.replicate_succ']

theorem mk_mul {gap : Int} (hg : 1 ≤ gap ∧ gap ≤ 65536) {k : Nat} (hk : k ≤ 18) : 0 ≤ (k : Int) * gap ∧ (k : Int) * gap ≤ 1179648 := by
  constructor
  · exact Int.mul_nonneg (by omega) (by omega)
  · have h1 : (k : Int) * gap ≤ 18 * gap := Int.mul_le_mul_of_nonneg_right (by omega) (by omega)
    omega

theorem mkK_up {first gap : Int} (hf : 0 ≤ first ∧ first ≤ 16777215) (hg : 1 ≤ gap ∧ gap ≤ 65536) : ∀ {k : Nat}, k ≤ 19 → upFrom (-1) (mkK first gap k) = true
  | 0, _ => rfl
  | k + 1, hk => by
    have ih := mkK_up hf hg (k := k) (by omega)
    rw [mkK_step, upFrom_append, ih, Bool.true_and]
    have hm := mk_mul hg (k := k) (by omega)
    have hp : prevK (-1) (mkK first gap k) (mkK first gap k).length < first + (k : Int) * gap := by
      rw [mkK_len, prevK]
      split
      · omega
      · rename_i h0
        have e : (mkK first gap k).getD (k - 1) 0 = first + ((k - 1 : Nat) : Int) * gap := by
          rw [List.getD_eq_getElem?_getD, List.getElem?_eq_getElem (by rw [mkK_len]; omega)]
          simp [mkK]
        rw [e]
        have e2 : (k : Int) * gap = ((k - 1 : Nat) : Int) * gap + gap := by
          have : (k : Int) = ((k - 1 : Nat) : Int) + 1 := by omega
          rw [this, Int.add_mul, Int.one_mul]
        omega
    have h2 : first + (k : Int) * gap ≤ maxK := by simp only [maxK]; omega
    simp only [upFrom, Bool.and_true, Bool.and_eq_true, decide_eq_true_eq]
    exact ⟨hp, h2⟩

theorem mk_right {tree first gap : Int} {leaf : Bool} (hw : widN tree leaf ≠ 0) (hf : 0 ≤ first ∧ first ≤ 16777215) (hg : 1 ≤ gap ∧ gap ≤ 65536) : rightN ⟨tree, leaf, mkK first gap (capN (widN tree leaf)), mkV (widN tree leaf) (capN (widN tree leaf))⟩ = true := by
  have hc : 0 < capN (widN tree leaf) ∧ capN (widN tree leaf) ≤ 18 := by
    rcases widN_cases tree leaf with ⟨a, b⟩ | ⟨a, b⟩ | ⟨a, b⟩ | ⟨a, b⟩ | ⟨a, b⟩
    · exact absurd a hw
    all_goals rw [b]; omega
  refine rightN_iff.2 ⟨hw, ?_, ?_, ?_, mkK_up hf hg (by omega), ?_⟩
  · simp only [mkK_len]; exact Nat.le_refl _
  · simp only [mkK_len, mkV_len]
  · intro v hv
    simp only [mkV] at hv
    rw [List.eq_of_mem_replicate hv, List.length_replicate]
  · right
    simp only [mkK_len]; exact hc.1
theorem mk_wrong {tree first gap : Int} {leaf : Bool} (vs : List (List UInt8)) : rightN ⟨tree, leaf, mkK first gap (capN (widN tree leaf) + 1), vs⟩ = false := by
  rw [Bool.eq_false_iff]
  intro h
  have := (rightN_iff.1 h).2.1
  simp only [mkK_len] at this
  omega

end Go.Proofs.Ythajfnnngaffjaa
