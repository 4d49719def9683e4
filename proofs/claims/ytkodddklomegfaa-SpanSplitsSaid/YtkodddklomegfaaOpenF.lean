/-
  Slices of strings; a struct of an integer, a bool, integers and strings by value: in memory, and opened.
-/
import Derived.Test.YtkodddklomegfaaOpenD
import Derived.Deep.Strs
namespace Go.Proofs.Ytkodddklomegfaa
open Go.ChangeShapes Go.WideShapes Go.ChangeAt Go.RowKit Go.Deep
set_option linter.unusedVariables false
set_option linter.unusedSimpArgs false

/-- strings as cells -/
def strV (ll : List (List UInt8)) : List Value := ll.map fun l => .string ⟨l.toArray⟩
theorem strV_length (ll : List (List UInt8)) : (strV ll).length = ll.length := by simp [strV]
theorem strV_append (a b : List (List UInt8)) : strV (a ++ b) = strV a ++ strV b := by simp [strV]
theorem strV_at (ll : List (List UInt8)) (k : Nat) (h : k < ll.length) : (strV ll)[k]? = some (.string ⟨ll[k].toArray⟩) := by simp [strV, h]
theorem strV_one (ll : List (List UInt8)) : ∀ u ∈ strV ll, u.oneCell' = true := by
  intro u hu
  obtain ⟨_, _, rfl⟩ := List.mem_map.1 hu
  rfl

/-- a slice of strings -/
structure Strs (w : World) (A : Option Addr) (n c : Nat) (ll : List (List UInt8)) : Prop where
  len : ll.length = n
  cap : n ≤ c
  most : c ≤ 9223372036854775807
  row : Row w A (strV ll)

theorem Strs.below {w w' : World} {A : Option Addr} {n c : Nat} {ll : List (List UInt8)} (h : Strs w A n c ll) (hb : Below w.heap.size w w') : Strs w' A n c ll := ⟨h.len, h.cap, h.most, h.row.below hb⟩
theorem Strs.nil (w : World) : Strs w none 0 0 [] := ⟨rfl, Nat.le_refl _, Nat.zero_le _, Row.nil _ _⟩
theorem Strs.of_own {w : World} {base : Nat} {e : TypeId} {n : Nat} {v : Value} {ll : List (List UInt8)} (h : w.ownsRow base e 1 v n (strV ll)) : ∃ A c, v = .slice A n c ∧ Strs w A n c ll := by
  obtain ⟨A, c, rfl, h1, h2⟩ := ownsRow_form h
  refine ⟨A, c, rfl, by have := h.1; rw [strV_length] at this; simpa using this, h1, by simpa [maxLen] using h2, Row.of_own h⟩

section
variable {H : Type} {enc : TypeId × Value → H} {P : Program} {w : World} {base : Nat} {held : Bool}

/-- a slice of strings, opened; each string within the form's bound -/
theorem open_strV {t e : TypeId} {v : Value} {y : DataW H × List MemPlace} {n : Nat} (ht : P.underlying t = some (.slice e)) (he : P.underlying e = some .string) (hc : P.cellsOf e = 1)
    (h : DataW.trod enc P w base (fun _ => true) held n t [v] = some y) : ∃ A m c ll, v = .slice A m c ∧ Strs w A m c ll ∧ ∀ l ∈ ll, l.length ≤ 9223372036854775807 := by
  rcases open_strs ht he hc h with ⟨hcs, _⟩ | ⟨a, len, cap, m, Sx, hcs, _, hl, hm, hmm, _, hi⟩
  · simp at hcs
    exact ⟨none, 0, 0, [], hcs, Strs.nil w, by simp⟩
  · simp at hcs
    simp only [if_true] at hmm
    subst hmm
    refine ⟨some a, len, m, (List.range len).map fun i => (Sx i).data.toList, hcs, ⟨by simp, hl, by simpa [maxLen] using hm, ?_⟩, ?_⟩
    · intro k v hk
      have hlt : k < len := by
        have := (List.getElem?_eq_some_iff.1 hk).1
        simpa [strV] using this
      refine ⟨a, rfl, ?_⟩
      rw [(hi k (by omega)).1]
      rw [strV_at _ k (by simpa using hlt)] at hk
      rw [← hk]
      simp
    · intro l hl2
      obtain ⟨i, hi2, rfl⟩ := List.mem_map.1 hl2
      have h1 := (hi i (by have := List.mem_range.1 hi2; omega)).2
      simp only [maxLen] at h1
      simpa using h1

/-- a struct of an integer, a bool, a slice of integers and one of strings, by value -/
theorem open_node {r : Reach} {b0 : Nat} {t ti ts qi qs : TypeId} {f0 f1 f2 f3 : Field} {v : Value} {d : DataW H} {p : List MemPlace} (he : P.underlying t = some (.struct #[f0, f1, f2, f3]))
    (hone : oneCellFields P #[f0, f1, f2, f3] = true) (hC : P.cellsOf t = 4) (h0 : P.underlying f0.type = some (.int .i64)) (h1 : P.underlying f1.type = some .bool)
    (hf2 : f2.type = ti) (h2 : P.underlying ti = some (.slice qi)) (hqi : P.underlying qi = some (.int .i64)) (cqi : P.cellsOf qi = 1)
    (hf3 : f3.type = ts) (h3 : P.underlying ts = some (.slice qs)) (hqs : P.underlying qs = some .string) (cqs : P.cellsOf qs = 1)
    (hv : Value.okWide P w r b0 t v) (h : DataW.Trod enc P w base (fun _ => true) held t v d p) :
    ∃ x b A n c ks A2 n2 c2 vs, v = .agg #[.int .i64 x, .bool b, .slice A n c, .slice A2 n2 c2] ∧ (-9223372036854775808 ≤ x ∧ x ≤ 9223372036854775807) ∧ Ints w A n c ks ∧ (∀ y ∈ ks, -9223372036854775808 ≤ y ∧ y ≤ 9223372036854775807) ∧
      Strs w A2 n2 c2 vs ∧ ∀ l ∈ vs, l.length ≤ 9223372036854775807 := by
  subst hf2; subst hf3
  obtain ⟨v0, v1, v2, v3, y0, y1, y2, y3, n, rfl, _, _, g0, g1, g2, g3⟩ := Go.Joins.open_agg4 he hone hC hv h
  obtain ⟨z0, e0, _, w0⟩ := DataW.trod_int h0 (x := y0) g0
  simp at e0
  subst e0
  obtain ⟨z1, e1, _⟩ := DataW.trod_bool h1 (x := y1) g1
  simp at e1
  subst e1
  obtain ⟨A, m, c, ks, rfl, hI, hbd⟩ := open_field h2 hqi cqi g2
  obtain ⟨A2, m2, c2, vs, rfl, hS, hsb⟩ := open_strV h3 hqs cqs g3
  exact ⟨z0, z1, A, m, c, ks, A2, m2, c2, vs, rfl, bd_i64 w0, hI, hbd, hS, hsb⟩
end
end Go.Proofs.Ytkodddklomegfaa
