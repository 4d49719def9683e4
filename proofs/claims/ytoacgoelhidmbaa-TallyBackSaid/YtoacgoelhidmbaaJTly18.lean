/-
  Joined: MemN, MemO, OpenK.
-/
import Derived.Test.YtoacgoelhidmbaaJTly08
import Derived.Test.YtoacgoelhidmbaaJTly15
import Derived.Test.YtoacgoelhidmbaaJTly14
import Derived.Test.YtoacgoelhidmbaaJTly01
import Derived.Deep.Strs
import Derived.Test.YtoacgoelhidmbaaJTly12
/-
  Texts, and structs of three integers, in a block of their own: one read, one stored.
-/
namespace Go.Proofs.Ytoacgoelhidmbaa
open Go.RowKit
set_option linter.unusedVariables false
set_option linter.unusedSimpArgs false

/-- texts in a block of their own, from block B on, that may be written -/
structure OwnT (w : World) (B g : Nat) (l : List (List UInt8)) : Prop where
  low : B ≤ g
  blk : w.heap[g]? = some (.cells (strV l).toArray 9 (0, 0))
theorem OwnT.lt {w : World} {B g : Nat} {l : List (List UInt8)} (h : OwnT w B g l) : g < w.heap.size := block_lt h.blk
theorem OwnT.below {w w' : World} {B C g : Nat} {l : List (List UInt8)} (h : OwnT w B g l) (hb : Below C w w') (hg : g < C) : OwnT w' B g l := ⟨h.low, (hb.block g hg).trans h.blk⟩
theorem OwnT.later {w w' : World} {B g : Nat} {l : List (List UInt8)} (h : OwnT w B g l) (hb : Below w.heap.size w w') : OwnT w' B g l := h.below hb h.lt
theorem OwnT.cell {w : World} {B g : Nat} {l : List (List UInt8)} (h : OwnT w B g l) {j : Nat} (hj : j < l.length) : w.cell? ⟨g, j, none⟩ = some (.string ⟨l[j].toArray⟩) := by
  rw [cell_of_row w g j _ 9 (0, 0) h.blk]
  have := strV_at l j hj
  simpa using this
theorem OwnT.set {w : World} {B g : Nat} {l : List (List UInt8)} (h : OwnT w B g l) (j : Nat) (s : List UInt8) : OwnT (w.setCell ⟨g, j, none⟩ (.string ⟨s.toArray⟩)) B g (l.set j s) := by
  refine ⟨h.low, ?_⟩
  rw [heap_setCell_same w g j _ 9 _ h.blk]
  have e : strV (l.set j s) = (strV l).set j (.string ⟨s.toArray⟩) := by simp only [strV, List.map_set]
  rw [e]
  simp
/-- structs of three integers as cells -/
def triC : List (Int × Int × Int) → List Value
  | [] => []
  | x :: r => .int .i64 x.1 :: .int .i64 x.2.1 :: .int .i64 x.2.2 :: triC r
theorem triC_length (l : List (Int × Int × Int)) : (triC l).length = l.length * 3 := by
  induction l with
  | nil => rfl
  | cons x r ih => simp only [triC, List.length_cons, ih]; omega
theorem triC_at : ∀ (l : List (Int × Int × Int)) (k : Nat) (h : k < l.length), (triC l)[k * 3]? = some (.int .i64 l[k].1) ∧ (triC l)[k * 3 + 1]? = some (.int .i64 l[k].2.1) ∧ (triC l)[k * 3 + 2]? = some (.int .i64 l[k].2.2)
  | x :: r, 0, _ => ⟨rfl, rfl, rfl⟩
  | x :: r, k + 1, h => by
    have := triC_at r k (by simpa using h)
    rw [show (k + 1) * 3 = k * 3 + 1 + 1 + 1 by omega]
    simpa [triC] using this
/-- structs of three integers in a block of their own, from block B on, that may be written -/
structure OwnR (w : World) (t : TypeId) (B g : Nat) (l : List (Int × Int × Int)) : Prop where
  low : B ≤ g
  blk : w.heap[g]? = some (.cells (triC l).toArray t (0, 0))
theorem OwnR.lt {w : World} {t : TypeId} {B g : Nat} {l : List (Int × Int × Int)} (h : OwnR w t B g l) : g < w.heap.size := block_lt h.blk
theorem OwnR.below {w w' : World} {t : TypeId} {B C g : Nat} {l : List (Int × Int × Int)} (h : OwnR w t B g l) (hb : Below C w w') (hg : g < C) : OwnR w' t B g l := ⟨h.low, (hb.block g hg).trans h.blk⟩
theorem OwnR.later {w w' : World} {t : TypeId} {B g : Nat} {l : List (Int × Int × Int)} (h : OwnR w t B g l) (hb : Below w.heap.size w w') : OwnR w' t B g l := h.below hb h.lt
theorem OwnR.cells {w : World} {t : TypeId} {B g : Nat} {l : List (Int × Int × Int)} (h : OwnR w t B g l) {k : Nat} (hk : k < l.length) : w.cell? ⟨g, k * 3, none⟩ = some (.int .i64 l[k].1) ∧ w.cell? ⟨g, k * 3 + 1, none⟩ = some (.int .i64 l[k].2.1) ∧ w.cell? ⟨g, k * 3 + 2, none⟩ = some (.int .i64 l[k].2.2) := by
  obtain ⟨h0, h1, h2⟩ := triC_at l k hk
  refine ⟨?_, ?_, ?_⟩
  · rw [cell_of_row w g _ _ _ _ h.blk]; simpa using h0
  · rw [cell_of_row w g _ _ _ _ h.blk]; simpa using h1
  · rw [cell_of_row w g _ _ _ _ h.blk]; simpa using h2
theorem Trs.of_own {w : World} {base : Nat} {e : TypeId} {n : Nat} {v : Value} {l : List (Int × Int × Int)} (h : w.ownsRow base e 3 v n (triC l)) : ∃ A c, v = .slice A n c ∧ Trs w A n c l := by
  obtain ⟨A, c, rfl, h1, h2⟩ := ownsRow_form h
  have hr : Row w A (triC l) := Row.of_own h
  have hl : l.length = n := by have := h.1; rw [triC_length] at this; omega
  refine ⟨A, c, rfl, hl, h1, by simpa [maxLen] using h2, fun k hk => ?_⟩
  obtain ⟨h0, h1, h2⟩ := triC_at l k hk
  obtain ⟨ad, rfl, g0⟩ := hr _ _ h0
  exact ⟨ad, rfl, g0, hr.at_ h1, hr.at_ h2⟩

end Go.Proofs.Ytoacgoelhidmbaa

/-
  Slices of entries (a key, a text, a block), of errors with their blocks, of visits: as cells, in memory.
-/
namespace Go.Proofs.Ytoacgoelhidmbaa
open Go.RowKit
set_option linter.unusedVariables false
set_option linter.unusedSimpArgs false

/-- entries as cells -/
def entC (l : List (Int × List UInt8 × Int)) : List Value := l.flatMap fun x => [.int .i64 x.1, .string ⟨x.2.1.toArray⟩, .int .i64 x.2.2]
theorem entC_snoc (a b : List (Int × List UInt8 × Int)) : entC (a ++ b) = entC a ++ entC b := by simp [entC]
theorem entC_length (l : List (Int × List UInt8 × Int)) : (entC l).length = l.length * 3 := by
  induction l with
  | nil => rfl
  | cons x r ih =>
    have : (entC (x :: r)).length = 3 + (entC r).length := by simp [entC]; omega
    rw [this, ih, List.length_cons]; omega
theorem entC_one (l : List (Int × List UInt8 × Int)) : ∀ u ∈ entC l, u.oneCell' = true := by
  intro u hu
  simp only [entC, List.mem_flatMap, List.mem_cons, List.not_mem_nil, or_false] at hu
  obtain ⟨x, _, rfl | rfl | rfl⟩ := hu <;> rfl
theorem entC_at : ∀ (l : List (Int × List UInt8 × Int)) (k : Nat) (h : k < l.length), (entC l)[k * 3]? = some (.int .i64 l[k].1) ∧ (entC l)[k * 3 + 1]? = some (.string ⟨l[k].2.1.toArray⟩) ∧ (entC l)[k * 3 + 2]? = some (.int .i64 l[k].2.2)
  | x :: r, 0, _ => ⟨rfl, rfl, rfl⟩
  | x :: r, k + 1, h => by
    have := entC_at r k (by simpa using h)
    rw [show (k + 1) * 3 = k * 3 + 1 + 1 + 1 by omega]
    simpa [entC] using this

/-- a slice of entries -/
structure Ens (w : World) (A : Option Addr) (n c : Nat) (l : List (Int × List UInt8 × Int)) : Prop where
  len : l.length = n
  cap : n ≤ c
  most : c ≤ 9223372036854775807
  row : Row w A (entC l)
theorem Ens.below {w w' : World} {A : Option Addr} {n c : Nat} {l : List (Int × List UInt8 × Int)} (h : Ens w A n c l) (hb : Below w.heap.size w w') : Ens w' A n c l := ⟨h.len, h.cap, h.most, h.row.below hb⟩
theorem Ens.nil (w : World) : Ens w none 0 0 [] := ⟨rfl, Nat.le_refl _, Nat.zero_le _, Row.nil _ _⟩
theorem Ens.of_own {w : World} {base : Nat} {e : TypeId} {n : Nat} {v : Value} {l : List (Int × List UInt8 × Int)} (h : w.ownsRow base e 3 v n (entC l)) : ∃ A c, v = .slice A n c ∧ Ens w A n c l := by
  obtain ⟨A, c, rfl, h1, h2⟩ := ownsRow_form h
  have hl : l.length = n := by have := h.1; rw [entC_length] at this; omega
  exact ⟨A, c, rfl, hl, h1, by simpa [maxLen] using h2, Row.of_own h⟩
theorem Ens.at_ {w : World} {A : Option Addr} {n c : Nat} {l : List (Int × List UInt8 × Int)} (h : Ens w A n c l) {k : Nat} (hk : k < n) :
    ∃ b off, A = some ⟨b, off, none⟩ ∧ w.cell? ⟨b, off + k * 3, none⟩ = some (.int .i64 (l[k]'(by rw [h.len]; exact hk)).1) ∧ w.cell? ⟨b, off + (k * 3 + 1), none⟩ = some (.string ⟨(l[k]'(by rw [h.len]; exact hk)).2.1.toArray⟩) ∧ w.cell? ⟨b, off + (k * 3 + 2), none⟩ = some (.int .i64 (l[k]'(by rw [h.len]; exact hk)).2.2) := by
  have hl := h.len
  obtain ⟨b, off, e, _, hc⟩ := h.row.lit (by rw [entC_length]; omega)
  obtain ⟨h0, h1, h2⟩ := entC_at l k (by omega)
  exact ⟨b, off, e, hc _ _ h0, hc _ _ h1, hc _ _ h2⟩

/-- slice values: address, length, capacity -/
structure Slc where
  A : Option Addr
  n : Nat
  c : Nat
/-- does a slice value read these numbers, in a block other than g -/
def Slc.reads (w : World) (g : Option Nat) (s : Slc) (l : List Int) : Prop := Ints w s.A s.n s.c l ∧ ∀ ad, s.A = some ad → some ad.block ≠ g
theorem Slc.reads.below {w w' : World} {g : Option Nat} {s : Slc} {l : List Int} (h : s.reads w g l) (hb : Below w.heap.size w w') : s.reads w' g l := ⟨h.1.below hb, h.2⟩
theorem Row.kept {w w' : World} {A : Option Addr} {l : List Value} {g : Nat} (h : Row w A l) (hA : ∀ ad, A = some ad → ad.block ≠ g) (hk : ∀ k, k < w.heap.size → k ≠ g → w'.heap[k]? = w.heap[k]?) : Row w' A l := fun k v e => by
  obtain ⟨ad, ea, hc⟩ := h k v e
  refine ⟨ad, ea, ?_⟩
  have hb : (ad.add k).block = ad.block := addr_add_block ad k
  exact (World.cell?_of_block (w := w) (hk _ (cell_lt hc) (by rw [hb]; exact hA ad ea))).trans hc

end Go.Proofs.Ytoacgoelhidmbaa

/-
  Slices of entries (an integer, a string, an integer), opened.
-/
namespace Go.Proofs.Ytoacgoelhidmbaa
open Go.ChangeShapes Go.WideShapes Go.ChangeAt Go.RowKit Go.Deep
set_option linter.unusedVariables false
set_option linter.unusedSimpArgs false

section
variable {H : Type} {enc : TypeId × Value → H} {P : Program} {w : World} {base : Nat} {held : Bool}

theorem open_ents {t e : TypeId} {f0 f1 f2 : Field} {A : Option Addr} {n c : Nat} {d : DataW H} {p : List MemPlace} (ht : P.underlying t = some (.slice e)) (he : P.underlying e = some (.struct #[f0, f1, f2]))
    (hone : oneCellFields P #[f0, f1, f2] = true) (hC : P.cellsOf e = 3) (h0 : P.underlying f0.type = some (.int .i64)) (h1 : P.underlying f1.type = some .string) (h2 : P.underlying f2.type = some (.int .i64))
    (h : DataW.Trod enc P w base (fun _ => true) held t (.slice A n c) d p) :
    ∃ l : List (Int × List UInt8 × Int), Ens w A n c l ∧ ∀ q ∈ l, (-9223372036854775808 ≤ q.1 ∧ q.1 ≤ 9223372036854775807) ∧ q.2.1.length ≤ 9223372036854775807 ∧ (-9223372036854775808 ≤ q.2.2 ∧ q.2.2 ≤ 9223372036854775807) := by
  obtain ⟨fuel, hf⟩ := h
  rcases open_slice ht hf with ⟨hcs, _⟩ | ⟨x, l, c', m, k, D, Pl, hcs, _, hl, hm, hmm, hx, hi⟩
  · simp [Value.cells] at hcs
    obtain ⟨rfl, rfl, rfl⟩ := hcs
    exact ⟨[], Ens.nil w, by simp⟩
  · simp [Value.cells] at hcs
    obtain ⟨rfl, rfl, rfl⟩ := hcs
    simp only [if_true] at hmm
    subst hmm
    rw [hC] at hi
    have hone0 := hone_of hone 0 f0 rfl
    have hone1 := hone_of hone 1 f1 rfl
    have hone2 := hone_of hone 2 f2 rfl
    have each : ∀ i, i < n → ∃ s : Int × List UInt8 × Int, (w.cell? (x.add (i * 3)) = some (.int .i64 s.1) ∧ w.cell? (x.add (i * 3 + 1)) = some (.string ⟨s.2.1.toArray⟩) ∧ w.cell? (x.add (i * 3 + 2)) = some (.int .i64 s.2.2)) ∧
        (-9223372036854775808 ≤ s.1 ∧ s.1 ≤ 9223372036854775807) ∧ s.2.1.length ≤ 9223372036854775807 ∧ (-9223372036854775808 ≤ s.2.2 ∧ s.2.2 ≤ 9223372036854775807) := by
      intro i hin
      obtain ⟨cs', hc, htr⟩ := hi i (by omega)
      obtain ⟨_, hcl, hat⟩ := World.cells?_some hc
      match cs', hcl with
      | [u0, u1, u2], _ =>
        obtain ⟨y0, y1, y2, n', hD, _, g0, g1, g2⟩ := trod_struct3 he htr
        rw [hone0.1, hone0.2] at g0
        rw [hone1.1, hone1.2] at g1
        rw [hone2.1, hone2.2] at g2
        have g0' : DataW.trod enc P w base (fun _ => true) held n' f0.type [u0] = some y0 := by simpa using g0
        have g1' : DataW.trod enc P w base (fun _ => true) held n' f1.type [u1] = some y1 := by simpa using g1
        have g2' : DataW.trod enc P w base (fun _ => true) held n' f2.type [u2] = some y2 := by simpa using g2
        obtain ⟨z0, e0, _, w0⟩ := DataW.trod_int h0 (x := y0) g0'
        simp at e0
        subst e0
        obtain ⟨s1, e1, _, w1⟩ := DataW.trod_string h1 (x := y1) g1'
        simp at e1
        subst e1
        obtain ⟨z2, e2, _, w2⟩ := DataW.trod_int h2 (x := y2) g2'
        simp at e2
        subst e2
        have c0 := hat 0 (by omega)
        have c1 := hat 1 (by omega)
        have c2 := hat 2 (by omega)
        rw [addr_add_add] at c0 c1 c2
        exact ⟨(z0, s1.data.toList, z2), ⟨by simpa using c0, by simpa using c1, by simpa using c2⟩, bd_i64 w0, by simpa [maxLen] using w1, bd_i64 w2⟩
    obtain ⟨f, hfq⟩ := choose_lt each
    refine ⟨(List.range n).map f, ⟨by simp, hl, by simpa [maxLen] using hm, fun k v hk => ?_⟩, fun s hs => ?_⟩
    · have hlen : ((List.range n).map f).length = n := by simp
      have hkl : k < n * 3 := by
        have := (List.getElem?_eq_some_iff.1 hk).1
        rw [entC_length, hlen] at this
        exact this
      obtain ⟨i, r, hr, rfl⟩ : ∃ i r, r < 3 ∧ k = i * 3 + r := ⟨k / 3, k % 3, Nat.mod_lt _ (by omega), by omega⟩
      have hin : i < n := by omega
      obtain ⟨⟨g0, g1, g2⟩, _⟩ := hfq i hin
      obtain ⟨a0, a1, a2⟩ := entC_at ((List.range n).map f) i (by rw [hlen]; exact hin)
      simp only [List.getElem_map, List.getElem_range] at a0 a1 a2
      refine ⟨x, rfl, ?_⟩
      rcases r with _ | _ | _ | r
      · rw [Nat.add_zero] at hk ⊢
        rw [a0] at hk
        rw [← Option.some.inj hk]; exact g0
      · rw [a1] at hk
        rw [← Option.some.inj hk]; exact g1
      · rw [a2] at hk
        rw [← Option.some.inj hk]; exact g2
      · omega
    · obtain ⟨i, hi2, rfl⟩ := List.mem_map.1 hs
      exact (hfq i (List.mem_range.1 hi2)).2
end
end Go.Proofs.Ytoacgoelhidmbaa
