/-
  Joined: MemN, MemO, SpnMath.
-/
import Derived.Test.YtnjlganofjkpfaaGreatJBldB12
import Derived.Test.YtnjlganofjkpfaaGreatJBldB25
import Derived.Test.YtnjlganofjkpfaaGreatJBldB02
/-
  Texts, and structs of three integers, in a block of their own: one read, one stored.
-/
namespace Go.Proofs.YtnjlganofjkpfaaGreat
open Go.RowKit
set_option linter.unusedVariables false
set_option linter.unusedSimpArgs false

/-- texts in a block of their own, from block B on, that may be written -/
structure OwnT (w : World) (B g : Nat) (l : List (List UInt8)) : Prop where
  low : B ≤ g
  blk : w.heap[g]? = some (.cells (strV l).toArray 9 (0, 0))
theorem OwnT.lt {w : World} {B g : Nat} {l : List (List UInt8)} (h : OwnT w B g l) : g < w.heap.size := block_lt h.blk
theorem OwnT.below {w w' : World} {B C g : Nat} {l : List (List UInt8)} (h : OwnT w B g l) (hb : Below C w w') (hg : g < C) : OwnT w' B g l := ⟨h.low, (hb.block g hg).trans h.blk⟩
theorem OwnT.later {w w' : World} {B g : Nat} {l : List (List UInt8)} (h : OwnT w B g l) (hb : Below w.heap.size w w') : OwnT w' B g l := h.below hb h.lt
theorem OwnT.other {w : World} {B g : Nat} {l : List (List UInt8)} (h : OwnT w B g l) (a : Addr) (v : Value) (hg : g ≠ a.block) : OwnT (w.setCell a v) B g l := ⟨h.low, (heap_setCell_other w a g v hg).trans h.blk⟩
theorem OwnT.cell {w : World} {B g : Nat} {l : List (List UInt8)} (h : OwnT w B g l) {j : Nat} (hj : j < l.length) : w.cell? ⟨g, j, none⟩ = some (.string ⟨l[j].toArray⟩) := by
  rw [cell_of_row w g j _ 9 (0, 0) h.blk]
  have := strV_at l j hj
  simpa using this
theorem OwnT.free {w : World} {B g : Nat} {l : List (List UInt8)} (h : OwnT w B g l) (j : Nat) : w.frozen? ⟨g, j, none⟩ = false := frozen_of_row w g j _ 9 h.blk
theorem OwnT.set {w : World} {B g : Nat} {l : List (List UInt8)} (h : OwnT w B g l) (j : Nat) (s : List UInt8) : OwnT (w.setCell ⟨g, j, none⟩ (.string ⟨s.toArray⟩)) B g (l.set j s) := by
  refine ⟨h.low, ?_⟩
  rw [heap_setCell_same w g j _ 9 _ h.blk]
  have e : strV (l.set j s) = (strV l).set j (.string ⟨s.toArray⟩) := by simp only [strV, List.map_set]
  rw [e]
  simp
/-- structs of three integers as cells -/
def triC : List (Int × Int × Int) → List Value
  | [] => []
  | x :: r => .int .i64 x.1 :: .int .i64 x.2.1 :: .int .i64 x.2.2 :: triC r
theorem triC_length (l : List (Int × Int × Int)) : (triC l).length = l.length * 3 := by
  induction l with
  | nil => rfl
  | cons x r ih => simp only [triC, List.length_cons, ih]; omega
theorem triC_at : ∀ (l : List (Int × Int × Int)) (k : Nat) (h : k < l.length), (triC l)[k * 3]? = some (.int .i64 l[k].1) ∧ (triC l)[k * 3 + 1]? = some (.int .i64 l[k].2.1) ∧ (triC l)[k * 3 + 2]? = some (.int .i64 l[k].2.2)
  | x :: r, 0, _ => ⟨rfl, rfl, rfl⟩
  | x :: r, k + 1, h => by
    have := triC_at r k (by simpa using h)
    rw [show (k + 1) * 3 = k * 3 + 1 + 1 + 1 by omega]
    simpa [triC] using this
theorem triC_set : ∀ (l : List (Int × Int × Int)) (k : Nat) (x y z : Int), (((triC l).set (k * 3) (.int .i64 x)).set (k * 3 + 1) (.int .i64 y)).set (k * 3 + 2) (.int .i64 z) = triC (l.set k (x, y, z))
  | [], _, _, _, _ => rfl
  | q :: r, 0, _, _, _ => rfl
  | q :: r, k + 1, x, y, z => by
    have := triC_set r k x y z
    rw [show (k + 1) * 3 = k * 3 + 1 + 1 + 1 by omega, show k * 3 + 1 + 1 + 1 + 1 = k * 3 + 1 + 1 + 1 + 1 from rfl]
    simp only [triC, List.set_cons_succ]
    rw [← this]
/-- structs of three integers in a block of their own, from block B on, that may be written -/
structure OwnR (w : World) (t : TypeId) (B g : Nat) (l : List (Int × Int × Int)) : Prop where
  low : B ≤ g
  blk : w.heap[g]? = some (.cells (triC l).toArray t (0, 0))
theorem OwnR.lt {w : World} {t : TypeId} {B g : Nat} {l : List (Int × Int × Int)} (h : OwnR w t B g l) : g < w.heap.size := block_lt h.blk
theorem OwnR.below {w w' : World} {t : TypeId} {B C g : Nat} {l : List (Int × Int × Int)} (h : OwnR w t B g l) (hb : Below C w w') (hg : g < C) : OwnR w' t B g l := ⟨h.low, (hb.block g hg).trans h.blk⟩
theorem OwnR.later {w w' : World} {t : TypeId} {B g : Nat} {l : List (Int × Int × Int)} (h : OwnR w t B g l) (hb : Below w.heap.size w w') : OwnR w' t B g l := h.below hb h.lt
theorem OwnR.cells {w : World} {t : TypeId} {B g : Nat} {l : List (Int × Int × Int)} (h : OwnR w t B g l) {k : Nat} (hk : k < l.length) : w.cell? ⟨g, k * 3, none⟩ = some (.int .i64 l[k].1) ∧ w.cell? ⟨g, k * 3 + 1, none⟩ = some (.int .i64 l[k].2.1) ∧ w.cell? ⟨g, k * 3 + 2, none⟩ = some (.int .i64 l[k].2.2) := by
  obtain ⟨h0, h1, h2⟩ := triC_at l k hk
  refine ⟨?_, ?_, ?_⟩
  · rw [cell_of_row w g _ _ _ _ h.blk]; simpa using h0
  · rw [cell_of_row w g _ _ _ _ h.blk]; simpa using h1
  · rw [cell_of_row w g _ _ _ _ h.blk]; simpa using h2
theorem OwnR.free {w : World} {t : TypeId} {B g : Nat} {l : List (Int × Int × Int)} (h : OwnR w t B g l) (j : Nat) : w.frozen? ⟨g, j, none⟩ = false := frozen_of_row w g j _ _ h.blk
theorem OwnR.store {w : World} {t : TypeId} {B g : Nat} {l : List (Int × Int × Int)} (h : OwnR w t B g l) (k : Nat) (x y z : Int) : OwnR (((w.setCell ⟨g, k * 3, none⟩ (.int .i64 x)).setCell ⟨g, k * 3 + 1, none⟩ (.int .i64 y)).setCell ⟨g, k * 3 + 2, none⟩ (.int .i64 z)) t B g (l.set k (x, y, z)) := by
  refine ⟨h.low, ?_⟩
  rw [heap_setCell_same _ g _ _ _ _ (heap_setCell_same _ g _ _ _ _ (heap_setCell_same _ g _ _ _ _ h.blk)), ← triC_set]
  simp
theorem Trs.of_own {w : World} {base : Nat} {e : TypeId} {n : Nat} {v : Value} {l : List (Int × Int × Int)} (h : w.ownsRow base e 3 v n (triC l)) : ∃ A c, v = .slice A n c ∧ Trs w A n c l := by
  obtain ⟨A, c, rfl, h1, h2⟩ := ownsRow_form h
  have hr : Row w A (triC l) := Row.of_own h
  have hl : l.length = n := by have := h.1; rw [triC_length] at this; omega
  refine ⟨A, c, rfl, hl, h1, by simpa [maxLen] using h2, fun k hk => ?_⟩
  obtain ⟨h0, h1, h2⟩ := triC_at l k hk
  obtain ⟨ad, rfl, g0⟩ := hr _ _ h0
  exact ⟨ad, rfl, g0, hr.at_ h1, hr.at_ h2⟩

end Go.Proofs.YtnjlganofjkpfaaGreat

/-
  Slices of entries (a key, a text, a block), of errors with their blocks, of visits: as cells, in memory.
-/
namespace Go.Proofs.YtnjlganofjkpfaaGreat
open Go.RowKit
set_option linter.unusedVariables false
set_option linter.unusedSimpArgs false

/-- entries as cells -/
def entC (l : List (Int × List UInt8 × Int)) : List Value := l.flatMap fun x => [.int .i64 x.1, .string ⟨x.2.1.toArray⟩, .int .i64 x.2.2]
theorem entC_snoc (a b : List (Int × List UInt8 × Int)) : entC (a ++ b) = entC a ++ entC b := by simp [entC]
theorem entC_length (l : List (Int × List UInt8 × Int)) : (entC l).length = l.length * 3 := by
  induction l with
  | nil => rfl
  | cons x r ih =>
    have : (entC (x :: r)).length = 3 + (entC r).length := by simp [entC]; omega
    rw [this, ih, List.length_cons]; omega
theorem entC_at : ∀ (l : List (Int × List UInt8 × Int)) (k : Nat) (h : k < l.length), (entC l)[k * 3]? = some (.int .i64 l[k].1) ∧ (entC l)[k * 3 + 1]? = some (.string ⟨l[k].2.1.toArray⟩) ∧ (entC l)[k * 3 + 2]? = some (.int .i64 l[k].2.2)
  | x :: r, 0, _ => ⟨rfl, rfl, rfl⟩
  | x :: r, k + 1, h => by
    have := entC_at r k (by simpa using h)
    rw [show (k + 1) * 3 = k * 3 + 1 + 1 + 1 by omega]
    simpa [entC] using this

/-- a slice of entries -/
structure Ens (w : World) (A : Option Addr) (n c : Nat) (l : List (Int × List UInt8 × Int)) : Prop where
  len : l.length = n
  cap : n ≤ c
  most : c ≤ 9223372036854775807
  row : Row w A (entC l)
theorem Ens.below {w w' : World} {A : Option Addr} {n c : Nat} {l : List (Int × List UInt8 × Int)} (h : Ens w A n c l) (hb : Below w.heap.size w w') : Ens w' A n c l := ⟨h.len, h.cap, h.most, h.row.below hb⟩
theorem Ens.nil (w : World) : Ens w none 0 0 [] := ⟨rfl, Nat.le_refl _, Nat.zero_le _, Row.nil _ _⟩
theorem Ens.of_own {w : World} {base : Nat} {e : TypeId} {n : Nat} {v : Value} {l : List (Int × List UInt8 × Int)} (h : w.ownsRow base e 3 v n (entC l)) : ∃ A c, v = .slice A n c ∧ Ens w A n c l := by
  obtain ⟨A, c, rfl, h1, h2⟩ := ownsRow_form h
  have hl : l.length = n := by have := h.1; rw [entC_length] at this; omega
  exact ⟨A, c, rfl, hl, h1, by simpa [maxLen] using h2, Row.of_own h⟩
theorem Ens.newer {w w' : World} {A : Option Addr} {n c : Nat} {l : List (Int × List UInt8 × Int)} {B : Nat} (h : Ens w A n c l) (hA : Newer B A) (hk : ∀ k, B ≤ k → w'.heap[k]? = w.heap[k]?) : Ens w' A n c l := ⟨h.len, h.cap, h.most, h.row.newer hA hk⟩
theorem Ens.at_ {w : World} {A : Option Addr} {n c : Nat} {l : List (Int × List UInt8 × Int)} (h : Ens w A n c l) {k : Nat} (hk : k < n) :
    ∃ b off, A = some ⟨b, off, none⟩ ∧ w.cell? ⟨b, off + k * 3, none⟩ = some (.int .i64 (l[k]'(by rw [h.len]; exact hk)).1) ∧ w.cell? ⟨b, off + (k * 3 + 1), none⟩ = some (.string ⟨(l[k]'(by rw [h.len]; exact hk)).2.1.toArray⟩) ∧ w.cell? ⟨b, off + (k * 3 + 2), none⟩ = some (.int .i64 (l[k]'(by rw [h.len]; exact hk)).2.2) := by
  have hl := h.len
  obtain ⟨b, off, e, _, hc⟩ := h.row.lit (by rw [entC_length]; omega)
  obtain ⟨h0, h1, h2⟩ := entC_at l k (by omega)
  exact ⟨b, off, e, hc _ _ h0, hc _ _ h1, hc _ _ h2⟩

/-- slice values: address, length, capacity -/
structure Slc where
  A : Option Addr
  n : Nat
  c : Nat
/-- does a slice value read these numbers, in a block other than g -/
def Slc.reads (w : World) (g : Option Nat) (s : Slc) (l : List Int) : Prop := Ints w s.A s.n s.c l ∧ ∀ ad, s.A = some ad → some ad.block ≠ g
theorem Slc.reads.below {w w' : World} {g : Option Nat} {s : Slc} {l : List Int} (h : s.reads w g l) (hb : Below w.heap.size w w') : s.reads w' g l := ⟨h.1.below hb, h.2⟩
theorem Row.kept {w w' : World} {A : Option Addr} {l : List Value} {g : Nat} (h : Row w A l) (hA : ∀ ad, A = some ad → ad.block ≠ g) (hk : ∀ k, k < w.heap.size → k ≠ g → w'.heap[k]? = w.heap[k]?) : Row w' A l := fun k v e => by
  obtain ⟨ad, ea, hc⟩ := h k v e
  refine ⟨ad, ea, ?_⟩
  have hb : (ad.add k).block = ad.block := addr_add_block ad k
  exact (World.cell?_of_block (w := w) (hk _ (cell_lt hc) (by rw [hb]; exact hA ad ea))).trans hc

end Go.Proofs.YtnjlganofjkpfaaGreat

/-
  Layer 13's mathematics: spans, keys that fit, the spans of children.
-/
namespace Go.Proofs.YtnjlganofjkpfaaGreat
open Go.RowKit
set_option linter.unusedVariables false
set_option linter.unusedSimpArgs false

/-- is a span valid; has it a key -/
def rB13 (lo hi : Int) : Bool := decide (0 ≤ lo) && decide (lo ≤ hi) && decide (hi ≤ 281474976710656)
def hB13 (lo hi k : Int) : Bool := decide (lo ≤ k) && decide (k < hi)
theorem rB13_yes {lo hi : Int} : rB13 lo hi = true ↔ 0 ≤ lo ∧ lo ≤ hi ∧ hi ≤ 281474976710656 := by simp [rB13, and_assoc]
theorem hB13_yes {lo hi k : Int} : hB13 lo hi k = true ↔ lo ≤ k ∧ k < hi := by simp [hB13]

/-- do the keys increase; are all of them in the span -/
def ord13 (L : List Int) : Bool := (List.range (L.length - 1)).all fun j => decide (L.getD j 0 < L.getD (j + 1) 0)
def ins13 (lo hi : Int) (L : List Int) : Bool := L.all (hB13 lo hi)
theorem ord13_yes {L : List Int} : ord13 L = true ↔ ∀ j, j + 1 < L.length → L.getD j 0 < L.getD (j + 1) 0 := by
  simp only [ord13, List.all_eq_true, List.mem_range, decide_eq_true_eq]
  exact ⟨fun h j hj => h j (by omega), fun h j hj => h j (by omega)⟩
theorem ord13_no {L : List Int} {j : Nat} (hj : j + 1 < L.length) (h : L.getD (j + 1) 0 ≤ L.getD j 0) : ord13 L = false := by
  cases hb : ord13 L with
  | false => rfl
  | true => have := ord13_yes.1 hb j hj; omega
theorem ins13_yes {lo hi : Int} {L : List Int} : ins13 lo hi L = true ↔ ∀ j, j < L.length → hB13 lo hi (L.getD j 0) = true := by
  simp only [ins13, List.all_eq_true]
  constructor
  · intro h j hj
    rw [List.getD_eq_getElem?_getD, List.getElem?_eq_getElem hj]
    exact h _ (List.getElem_mem hj)
  · intro h x hx
    obtain ⟨j, hj, rfl⟩ := List.getElem_of_mem hx
    have := h j hj
    rwa [List.getD_eq_getElem?_getD, List.getElem?_eq_getElem hj] at this
theorem ins13_no {lo hi : Int} {L : List Int} {j : Nat} (hj : j < L.length) (h : hB13 lo hi (L.getD j 0) = false) : ins13 lo hi L = false := by
  cases hb : ins13 lo hi L with
  | false => rfl
  | true => rw [ins13_yes.1 hb j hj] at h; cases h

/-- what is wrong with a span, or with the keys in it -/
def fit13 (lo hi : Int) (L : List Int) : Int := if rB13 lo hi = false then 1 else if ord13 L = false then 8 else if ins13 lo hi L = false then 9 else 0
theorem fit13_arg {lo hi : Int} {L : List Int} (h : rB13 lo hi = false) : fit13 lo hi L = 1 := by simp [fit13, h]
theorem fit13_order {lo hi : Int} {L : List Int} (h : rB13 lo hi = true) (h2 : ord13 L = false) : fit13 lo hi L = 8 := by simp [fit13, h, h2]
theorem fit13_key {lo hi : Int} {L : List Int} (h : rB13 lo hi = true) (h2 : ord13 L = true) (h3 : ins13 lo hi L = false) : fit13 lo hi L = 9 := by simp [fit13, h, h2, h3]
theorem fit13_ok {lo hi : Int} {L : List Int} (h : rB13 lo hi = true) (h2 : ord13 L = true) (h3 : ins13 lo hi L = true) : fit13 lo hi L = 0 := by simp [fit13, h, h2, h3]
theorem fit13_zero {lo hi : Int} {L : List Int} (h : fit13 lo hi L = 0) : rB13 lo hi = true ∧ ord13 L = true ∧ ins13 lo hi L = true := by
  unfold fit13 at h
  cases h1 : rB13 lo hi <;> cases h2 : ord13 L <;> cases h3 : ins13 lo hi L <;> simp_all
/-- where child k ends; all children's spans -/
def end13 (hi : Int) (L : List Int) (k : Nat) : Int := if k + 1 < L.length then L.getD (k + 1) 0 else hi
def chd13 (hi : Int) (L : List Int) (k : Nat) : Int × Int := (L.getD k 0, end13 hi L k)
def spl13 (lo hi : Int) (L : List Int) : List (Int × Int) := if fit13 lo hi L = 0 then (List.range L.length).map (chd13 hi L) else []
theorem end13_next {hi : Int} {L : List Int} {k : Nat} (h : k + 1 < L.length) : end13 hi L k = L.getD (k + 1) 0 := by simp [end13, h]
theorem end13_last {hi : Int} {L : List Int} {k : Nat} (h : ¬ k + 1 < L.length) : end13 hi L k = hi := by simp [end13, h]
theorem spl13_ok {lo hi : Int} {L : List Int} (h : fit13 lo hi L = 0) : spl13 lo hi L = (List.range L.length).map (chd13 hi L) := by simp [spl13, h]
/-- what Child answers -/
def chE13 (lo hi : Int) (L : List Int) (i : Int) : Int := if fit13 lo hi L = 0 then (if 0 ≤ i ∧ i < (L.length : Int) then 0 else 3) else fit13 lo hi L
def ch13 (lo hi : Int) (L : List Int) (i : Int) : Int × Int := if chE13 lo hi L i = 0 then chd13 hi L i.toNat else (0, 0)
theorem chE13_in {lo hi : Int} {L : List Int} {k : Nat} (h : fit13 lo hi L = 0) (hk : k < L.length) : chE13 lo hi L (k : Int) = 0 ∧ ch13 lo hi L (k : Int) = chd13 hi L k := by
  have h1 : chE13 lo hi L (k : Int) = 0 := by
    unfold chE13
    rw [if_pos h, if_pos (by omega)]
  exact ⟨h1, by simp [ch13, h1]⟩

/-- the spans of children stand one behind the other -/
theorem end13_in {lo hi : Int} {L : List Int} {k : Nat} (h : fit13 lo hi L = 0) (hk : k < L.length) : L.getD k 0 < end13 hi L k ∧ end13 hi L k ≤ hi ∧ 0 ≤ L.getD k 0 ∧ lo ≤ L.getD k 0 ∧ hi ≤ 281474976710656 := by
  obtain ⟨h1, h2, h3⟩ := fit13_zero h
  obtain ⟨a1, a2, a3⟩ := rB13_yes.1 h1
  have b := hB13_yes.1 (ins13_yes.1 h3 k hk)
  by_cases hn : k + 1 < L.length
  · rw [end13_next hn]
    have c := hB13_yes.1 (ins13_yes.1 h3 (k + 1) hn)
    have d := ord13_yes.1 h2 k hn
    omega
  · rw [end13_last hn]
    omega
/-! ### spans in memory -/
theorem pair64_length (l : List (Int × Int)) : (pair64 l).length = l.length * 2 := by
  induction l with
  | nil => rfl
  | cons x r ih =>
    have : (pair64 (x :: r)).length = 2 + (pair64 r).length := by simp [pair64]; omega
    rw [this, ih, List.length_cons]; omega
theorem pair64_snoc (a : List (Int × Int)) (x : Int × Int) : pair64 (a ++ [x]) = pair64 a ++ [.int .i64 x.1, .int .i64 x.2] := by simp [pair64]
theorem pair64_at : ∀ (l : List (Int × Int)) (k : Nat) (h : k < l.length), (pair64 l)[k * 2]? = some (.int .i64 l[k].1) ∧ (pair64 l)[k * 2 + 1]? = some (.int .i64 l[k].2)
  | x :: r, 0, _ => ⟨rfl, rfl⟩
  | x :: r, k + 1, h => by
    have := pair64_at r k (by simpa using h)
    rw [show (k + 1) * 2 = k * 2 + 1 + 1 by omega]
    simpa [pair64] using this

/-- a slice of structs of two integers -/
structure Prs (w : World) (A : Option Addr) (n c : Nat) (l : List (Int × Int)) : Prop where
  len : l.length = n
  cap : n ≤ c
  most : c ≤ 9223372036854775807
  row : Row w A (pair64 l)
theorem Prs.below {w w' : World} {A : Option Addr} {n c : Nat} {l : List (Int × Int)} (h : Prs w A n c l) (hb : Below w.heap.size w w') : Prs w' A n c l := ⟨h.len, h.cap, h.most, h.row.below hb⟩
theorem Prs.nil (w : World) (c : Nat) (A : Option Addr) (hc : c ≤ 9223372036854775807) : Prs w A 0 c [] := ⟨rfl, Nat.zero_le _, hc, Row.nil _ _⟩
theorem Prs.of_own {w : World} {base : Nat} {e : TypeId} {n : Nat} {v : Value} {l : List (Int × Int)} (h : w.ownsRow base e 2 v n (pair64 l)) : ∃ A c, v = .slice A n c ∧ Prs w A n c l := by
  obtain ⟨A, c, rfl, h1, h2⟩ := ownsRow_form h
  have hl : l.length = n := by have := h.1; rw [pair64_length] at this; omega
  exact ⟨A, c, rfl, hl, h1, by simpa [maxLen] using h2, Row.of_own h⟩
theorem Prs.at_ {w : World} {A : Option Addr} {n c : Nat} {l : List (Int × Int)} (h : Prs w A n c l) {k : Nat} (hk : k < n) :
    ∃ b off, A = some ⟨b, off, none⟩ ∧ w.cell? ⟨b, off + k * 2, none⟩ = some (.int .i64 (l[k]'(by rw [h.len]; exact hk)).1) ∧ w.cell? ⟨b, off + (k * 2 + 1), none⟩ = some (.int .i64 (l[k]'(by rw [h.len]; exact hk)).2) := by
  have hl := h.len
  obtain ⟨b, off, e, _, hc⟩ := h.row.lit (by rw [pair64_length]; omega)
  obtain ⟨h0, h1⟩ := pair64_at l k (by omega)
  exact ⟨b, off, e, hc _ _ h0, hc _ _ h1⟩

end Go.Proofs.YtnjlganofjkpfaaGreat
