/-
  Structs of a slice of integers and an integer: by value, and slices of them; in memory, and opened.
-/
import Derived.Test.YtkodddklomegfaaOpenB
import Derived.ChangeSame
import Derived.Lib.SmallJoins
namespace Go.Proofs.Ytkodddklomegfaa
open Go.ChangeShapes Go.WideShapes Go.ChangeAt Go.RowKit Go.Deep
set_option linter.unusedVariables false
set_option linter.unusedSimpArgs false

/-- a slice of structs of a slice of integers and an integer -/
structure Fts (w : World) (A : Option Addr) (n c : Nat) (ll : List (List Int × Int)) : Prop where
  len : ll.length = n
  cap : n ≤ c
  most : c ≤ 9223372036854775807
  row : ∀ k (h : k < ll.length), ∃ ad A' m c', A = some ad ∧ w.cell? (ad.add (k * 2)) = some (.slice A' m c') ∧ w.cell? (ad.add (k * 2 + 1)) = some (.int .i64 ll[k].2) ∧ Ints w A' m c' ll[k].1

theorem Fts.nil (w : World) : Fts w none 0 0 [] := ⟨rfl, Nat.le_refl _, Nat.zero_le _, fun k h => by simp at h⟩

theorem Fts.lit {w : World} {A : Option Addr} {n c : Nat} {ll : List (List Int × Int)} (h : Fts w A n c ll) (hp : 0 < n) :
    ∃ b off, A = some ⟨b, off, none⟩ ∧ b < w.heap.size ∧ ∀ k (h : k < ll.length), ∃ A' m c', w.cell? ⟨b, off + k * 2, none⟩ = some (.slice A' m c') ∧ w.cell? ⟨b, off + (k * 2 + 1), none⟩ = some (.int .i64 ll[k].2) ∧ Ints w A' m c' ll[k].1 := by
  obtain ⟨ad, A', m, c', rfl, hc, _⟩ := h.row 0 (by rw [h.len]; exact hp)
  obtain ⟨b, off, spot⟩ := ad
  have hspot : spot = none := by simpa [Addr.add] using World.cell?_spot hc
  subst hspot
  refine ⟨b, off, rfl, by simpa [Addr.add] using cell_lt hc, fun k hk => ?_⟩
  obtain ⟨ad', A', m, c', e, h1, h2, hB⟩ := h.row k hk
  cases e
  rw [Addr.add_lit] at h1 h2
  exact ⟨A', m, c', h1, h2, hB⟩

section
variable {H : Type} {enc : TypeId × Value → H} {P : Program} {w : World} {base : Nat} {held : Bool}

theorem open_field {q b : TypeId} {v : Value} {y : DataW H × List MemPlace} {n : Nat} (h1 : P.underlying q = some (.slice b)) (hb : P.underlying b = some (.int .i64)) (cb : P.cellsOf b = 1)
    (h : DataW.trod enc P w base (fun _ => true) held n q [v] = some y) : ∃ A m c l, v = .slice A m c ∧ Ints w A m c l ∧ ∀ x ∈ l, -9223372036854775808 ≤ x ∧ x ≤ 9223372036854775807 := by
  have hsl : ∃ A' m' c2, v = .slice A' m' c2 := by
    rcases open_slice h1 h with ⟨hcs, _⟩ | ⟨x2, l2, cp2, m2, k2, D2, P2, hcs, _, hl2, hm2, hmm2, hx2, _⟩
    · simp at hcs
      exact ⟨none, 0, 0, hcs⟩
    · simp at hcs
      exact ⟨some x2, l2, cp2, hcs⟩
  obtain ⟨A', m', c2, rfl⟩ := hsl
  obtain ⟨l, hI, hbd⟩ := open_i64s h1 hb cb ⟨n, by simpa [Value.cells] using h⟩
  exact ⟨A', m', c2, l, rfl, hI, hbd⟩

/-- a slice of such structs, opened -/
theorem open_fts {t e q b : TypeId} {f0 f1 : Field} {A : Option Addr} {n c : Nat} {d : DataW H} {p : List MemPlace} (ht : P.underlying t = some (.slice e)) (he : P.underlying e = some (.struct #[f0, f1]))
    (hone : oneCellFields P #[f0, f1] = true) (hC : P.cellsOf e = 2) (hf0 : f0.type = q) (h1 : P.underlying q = some (.slice b)) (hb : P.underlying b = some (.int .i64)) (cb : P.cellsOf b = 1) (h0 : P.underlying f1.type = some (.int .i64))
    (h : DataW.Trod enc P w base (fun _ => true) held t (.slice A n c) d p) :
    ∃ ll : List (List Int × Int), Fts w A n c ll ∧ ∀ s ∈ ll, (∀ x ∈ s.1, -9223372036854775808 ≤ x ∧ x ≤ 9223372036854775807) ∧ (-9223372036854775808 ≤ s.2 ∧ s.2 ≤ 9223372036854775807) := by
  subst hf0
  obtain ⟨fuel, hf⟩ := h
  rcases open_slice ht hf with ⟨hcs, _⟩ | ⟨x, l, c', m, k, D, Pl, hcs, _, hl, hm, hmm, hx, hi⟩
  · simp [Value.cells] at hcs
    obtain ⟨rfl, rfl, rfl⟩ := hcs
    exact ⟨[], Fts.nil w, by simp⟩
  · simp [Value.cells] at hcs
    obtain ⟨rfl, rfl, rfl⟩ := hcs
    simp only [if_true] at hmm
    subst hmm
    rw [hC] at hi
    have hone0 := hone_of hone 0 f0 rfl
    have hone1 := hone_of hone 1 f1 rfl
    have each : ∀ i, i < n → ∃ s : List Int × Int, (∃ A' m c', w.cell? (x.add (i * 2)) = some (.slice A' m c') ∧ w.cell? (x.add (i * 2 + 1)) = some (.int .i64 s.2) ∧ Ints w A' m c' s.1) ∧
        (∀ x ∈ s.1, -9223372036854775808 ≤ x ∧ x ≤ 9223372036854775807) ∧ (-9223372036854775808 ≤ s.2 ∧ s.2 ≤ 9223372036854775807) := by
      intro i hin
      obtain ⟨cs', hc, htr⟩ := hi i (by omega)
      obtain ⟨_, hcl, hat⟩ := World.cells?_some hc
      match cs', hcl with
      | [u0, u1], _ =>
        obtain ⟨y0, y1, n', hD, _, g0, g1⟩ := trod_struct2 he htr
        rw [hone0.1, hone0.2] at g0
        rw [hone1.1, hone1.2] at g1
        obtain ⟨z1, e1, _, w1⟩ := DataW.trod_int h0 (x := y1) g1
        simp at e1
        subst e1
        have c0 := hat 0 (by omega)
        have c1 := hat 1 (by omega)
        rw [addr_add_add] at c0 c1
        have g0' : DataW.trod enc P w base (fun _ => true) held n' f0.type [u0] = some y0 := by simpa using g0
        obtain ⟨A', m', c2, lb, rfl, hI, hbd⟩ := open_field h1 hb cb g0'
        exact ⟨(lb, z1), ⟨A', m', c2, by simpa using c0, by simpa using c1, hI⟩, hbd, bd_i64 w1⟩
    obtain ⟨f, hfq⟩ := choose_lt each
    refine ⟨(List.range n).map f, ⟨by simp, hl, by simpa [maxLen] using hm, fun k hk => ?_⟩, fun s hs => ?_⟩
    · have hk' : k < n := by simpa using hk
      obtain ⟨⟨A', m', c2, h1, h2, h3⟩, _⟩ := hfq k hk'
      simp only [List.getElem_map, List.getElem_range]
      exact ⟨x, A', m', c2, rfl, h1, h2, h3⟩
    · obtain ⟨i, hi2, rfl⟩ := List.mem_map.1 hs
      exact (hfq i (List.mem_range.1 hi2)).2

/-- such a struct by value, opened -/
theorem open_rf {r : Reach} {b0 : Nat} {t q b : TypeId} {f0 f1 : Field} {v : Value} {d : DataW H} {p : List MemPlace} (he : P.underlying t = some (.struct #[f0, f1]))
    (hone : oneCellFields P #[f0, f1] = true) (hC : P.cellsOf t = 2) (hf0 : f0.type = q) (h1 : P.underlying q = some (.slice b)) (hb : P.underlying b = some (.int .i64)) (cb : P.cellsOf b = 1) (h0 : P.underlying f1.type = some (.int .i64))
    (hv : Value.okWide P w r b0 t v) (h : DataW.Trod enc P w base (fun _ => true) held t v d p) :
    ∃ A n c l x, v = .agg #[.slice A n c, .int .i64 x] ∧ Ints w A n c l ∧ (∀ y ∈ l, -9223372036854775808 ≤ y ∧ y ≤ 9223372036854775807) ∧ (-9223372036854775808 ≤ x ∧ x ≤ 9223372036854775807) := by
  subst hf0
  obtain ⟨v0, v1, y0, y1, n, rfl, _, _, g0, g1⟩ := Go.Joins.open_agg2 he hone hC hv h
  obtain ⟨z1, e1, _, w1⟩ := DataW.trod_int h0 (x := y1) g1
  simp at e1
  subst e1
  obtain ⟨A', m', c2, lb, rfl, hI, hbd⟩ := open_field h1 hb cb g0
  exact ⟨A', m', c2, lb, z1, rfl, hI, hbd, bd_i64 w1⟩
end
end Go.Proofs.Ytkodddklomegfaa
