/-
  Joined: OpenD, OpenF, OpenR.
-/
import Derived.ChangeSame
import Derived.Lib.SmallJoins
import Derived.Test.YtoacgoelhidmbaaJTly12
import Derived.Deep.Strs
/-
  Structs of a slice of integers and an integer: by value, and slices of them; in memory, and opened.
-/
namespace Go.Proofs.Ytoacgoelhidmbaa
open Go.ChangeShapes Go.WideShapes Go.ChangeAt Go.RowKit Go.Deep
set_option linter.unusedVariables false
set_option linter.unusedSimpArgs false

/-- a slice of structs of a slice of integers and an integer -/
structure Fts (w : World) (A : Option Addr) (n c : Nat) (ll : List (List Int × Int)) : Prop where
  len : ll.length = n
  cap : n ≤ c
  most : c ≤ 9223372036854775807
  row : ∀ k (h : k < ll.length), ∃ ad A' m c', A = some ad ∧ w.cell? (ad.add (k * 2)) = some (.slice A' m c') ∧ w.cell? (ad.add (k * 2 + 1)) = some (.int .i64 ll[k].2) ∧ Ints w A' m c' ll[k].1

theorem Fts.nil (w : World) : Fts w none 0 0 [] := ⟨rfl, Nat.le_refl _, Nat.zero_le _, fun k h => by simp at h⟩

theorem Fts.lit {w : World} {A : Option Addr} {n c : Nat} {ll : List (List Int × Int)} (h : Fts w A n c ll) (hp : 0 < n) :
    ∃ b off, A = some ⟨b, off, none⟩ ∧ b < w.heap.size ∧ ∀ k (h : k < ll.length), ∃ A' m c', w.cell? ⟨b, off + k * 2, none⟩ = some (.slice A' m c') ∧ w.cell? ⟨b, off + (k * 2 + 1), none⟩ = some (.int .i64 ll[k].2) ∧ Ints w A' m c' ll[k].1 := by
  obtain ⟨ad, A', m, c', rfl, hc, _⟩ := h.row 0 (by rw [h.len]; exact hp)
  obtain ⟨b, off, spot⟩ := ad
  have hspot : spot = none := by simpa [Addr.add] using World.cell?_spot hc
  subst hspot
  refine ⟨b, off, rfl, by simpa [Addr.add] using cell_lt hc, fun k hk => ?_⟩
  obtain ⟨ad', A', m, c', e, h1, h2, hB⟩ := h.row k hk
  cases e
  rw [Addr.add_lit] at h1 h2
  exact ⟨A', m, c', h1, h2, hB⟩

section
variable {H : Type} {enc : TypeId × Value → H} {P : Program} {w : World} {base : Nat} {held : Bool}

end
end Go.Proofs.Ytoacgoelhidmbaa

/-
  Slices of strings; a struct of an integer, a bool, integers and strings by value: in memory, and opened.
-/
namespace Go.Proofs.Ytoacgoelhidmbaa
open Go.ChangeShapes Go.WideShapes Go.ChangeAt Go.RowKit Go.Deep
set_option linter.unusedVariables false
set_option linter.unusedSimpArgs false

/-- strings as cells -/
def strV (ll : List (List UInt8)) : List Value := ll.map fun l => .string ⟨l.toArray⟩
theorem strV_length (ll : List (List UInt8)) : (strV ll).length = ll.length := by simp [strV]
theorem strV_at (ll : List (List UInt8)) (k : Nat) (h : k < ll.length) : (strV ll)[k]? = some (.string ⟨ll[k].toArray⟩) := by simp [strV, h]
/-- a slice of strings -/
structure Strs (w : World) (A : Option Addr) (n c : Nat) (ll : List (List UInt8)) : Prop where
  len : ll.length = n
  cap : n ≤ c
  most : c ≤ 9223372036854775807
  row : Row w A (strV ll)

theorem Strs.below {w w' : World} {A : Option Addr} {n c : Nat} {ll : List (List UInt8)} (h : Strs w A n c ll) (hb : Below w.heap.size w w') : Strs w' A n c ll := ⟨h.len, h.cap, h.most, h.row.below hb⟩
theorem Strs.nil (w : World) : Strs w none 0 0 [] := ⟨rfl, Nat.le_refl _, Nat.zero_le _, Row.nil _ _⟩
theorem Strs.of_own {w : World} {base : Nat} {e : TypeId} {n : Nat} {v : Value} {ll : List (List UInt8)} (h : w.ownsRow base e 1 v n (strV ll)) : ∃ A c, v = .slice A n c ∧ Strs w A n c ll := by
  obtain ⟨A, c, rfl, h1, h2⟩ := ownsRow_form h
  refine ⟨A, c, rfl, by have := h.1; rw [strV_length] at this; simpa using this, h1, by simpa [maxLen] using h2, Row.of_own h⟩

section
variable {H : Type} {enc : TypeId × Value → H} {P : Program} {w : World} {base : Nat} {held : Bool}

end
end Go.Proofs.Ytoacgoelhidmbaa

/-
  Slices of slices of integers: in memory, and opened.
-/
namespace Go.Proofs.Ytoacgoelhidmbaa
open Go.ChangeShapes Go.WideShapes Go.ChangeAt Go.RowKit Go.Deep
set_option linter.unusedVariables false
set_option linter.unusedSimpArgs false

/-- a slice of slices of integers -/
structure Mat (w : World) (A : Option Addr) (n c : Nat) (ll : List (List Int)) : Prop where
  len : ll.length = n
  cap : n ≤ c
  most : c ≤ 9223372036854775807
  row : ∀ k (h : k < ll.length), ∃ ad A' m c', A = some ad ∧ w.cell? (ad.add k) = some (.slice A' m c') ∧ Ints w A' m c' ll[k]
theorem Mat.nil (w : World) : Mat w none 0 0 [] := ⟨rfl, Nat.le_refl _, Nat.zero_le _, fun k h => by simp at h⟩
theorem Mat.below {w w' : World} {A : Option Addr} {n c : Nat} {l : List (List Int)} (h : Mat w A n c l) (hb : Below w.heap.size w w') : Mat w' A n c l :=
  ⟨h.len, h.cap, h.most, fun k hk => by
    obtain ⟨ad, A', m, c', e, hc, hI⟩ := h.row k hk
    exact ⟨ad, A', m, c', e, (hb.cell (cell_lt hc)).trans hc, hI.below hb⟩⟩
theorem Mat.lit {w : World} {A : Option Addr} {n c : Nat} {ll : List (List Int)} (h : Mat w A n c ll) (hp : 0 < n) :
    ∃ b off, A = some ⟨b, off, none⟩ ∧ b < w.heap.size ∧ ∀ k (h : k < ll.length), ∃ A' m c', w.cell? ⟨b, off + k, none⟩ = some (.slice A' m c') ∧ Ints w A' m c' ll[k] := by
  obtain ⟨ad, A', m, c', rfl, hc, _⟩ := h.row 0 (by rw [h.len]; exact hp)
  obtain ⟨b, off, spot⟩ := ad
  have hspot : spot = none := by simpa [Addr.add] using World.cell?_spot hc
  subst hspot
  refine ⟨b, off, rfl, by simpa [Addr.add] using cell_lt hc, fun k hk => ?_⟩
  obtain ⟨ad', A', m, c', e, h1, hB⟩ := h.row k hk
  cases e
  rw [Addr.add_lit] at h1
  exact ⟨A', m, c', h1, hB⟩
theorem mat_at {w : World} {A : Option Addr} {n c : Nat} {ll : List (List Int)} (h : Mat w A n c ll) {k : Nat} (hk : k < n) :
    ∃ b off A' m c', A = some ⟨b, off, none⟩ ∧ b < w.heap.size ∧ k < ll.length ∧ w.cell? ⟨b, off + k, none⟩ = some (.slice A' m c') ∧ Ints w A' m c' (ll.getD k []) := by
  obtain ⟨b, off, e, hb, hc⟩ := h.lit (by omega)
  have hkl : k < ll.length := by have := h.len; omega
  obtain ⟨A', m, c', h1, h2⟩ := hc k hkl
  exact ⟨b, off, A', m, c', e, hb, hkl, h1, by rw [List.getD_eq_getElem?_getD, List.getElem?_eq_getElem hkl]; exact h2⟩

section
variable {H : Type} {enc : TypeId × Value → H} {P : Program} {w : World} {base : Nat} {held : Bool}
theorem ints_of_cells {A : Option Addr} {n c : Nat} {zs : List Int} (hl : n ≤ c) (hm : c ≤ maxLen) (hz : zs.length = c) (hn : A = none → c = 0)
    (hc : ∀ a, A = some a → ∀ i, i < c → w.cell? (a.add i) = some (.int .i64 (zs.getD i 0))) : Ints w A n c (zs.take n) := by
  have hmap : i64s (zs.take n) = (zs.take n).map (Value.int .i64) := rfl
  refine ⟨by simp; omega, hl, by simpa [maxLen] using hm, ?_⟩
  rw [hmap]
  cases A with
  | none =>
    have : n = 0 := by have := hn rfl; omega
    subst this
    simpa using Row.nil w none
  | some a =>
    rw [List.map_take]
    exact (row_of_ints (fun i hi => hc a rfl i (by omega))).take n
/-- a slice of slices of integers that came in; each within the form's own reach -/
theorem open_mats {t e q : TypeId} {A : Option Addr} {n c : Nat} {d : DataW H} {p : List MemPlace} (ht : P.underlying t = some (.slice e)) (he : P.underlying e = some (.slice q)) (hq : P.underlying q = some (.int .i64))
    (ce : P.cellsOf e = 1) (cq : P.cellsOf q = 1) (hby : P.bytesOf q = 8) (h : DataW.Trod enc P w base (fun _ => true) held t (.slice A n c) d p)
    {ts : List TypeId} {ds : List (DataW H)} (hs : (DataW.weightsEach P ts ds).all (· ≤ reachBytes) = true) {j : Nat} (ht0 : ts[j]? = some t) (hd : ds[j]? = some d) :
    ∃ ll : List (List Int), Mat w A n c ll ∧ ∀ l ∈ ll, l.length ≤ 140737488351232 ∧ ∀ x ∈ l, -9223372036854775808 ≤ x ∧ x ≤ 9223372036854775807 := by
  obtain ⟨fuel, hf⟩ := h
  rcases open_int_rows ht he hq ce cq hf with ⟨hcs, _⟩ | ⟨a, len, cap, AA, L, C, Z, hcs, _, hl, hm, hx, hcell⟩
  · simp [Value.cells] at hcs
    obtain ⟨rfl, rfl, rfl⟩ := hcs
    exact ⟨[], Mat.nil w, by simp⟩
  · simp [Value.cells] at hcs
    obtain ⟨rfl, rfl, rfl⟩ := hcs
    simp only [Prod.mk.injEq] at hx
    obtain ⟨hx, _⟩ := hx
    have hCr : ∀ r, r < n → C r ≤ 140737488351232 := by
      intro r hr
      obtain ⟨_, h1, h2, h3, h4, h5, _⟩ := hcell r (by omega)
      cases hA : AA r with
      | none => rw [h5 hA]; omega
      | some a' =>
        have hin : (C r) * P.bytesOf q ∈ (intRow (H := H) .i64 (AA r) (L r) (Z r)).weights P e := by
          rw [hA]
          simp only [intRow, DataW.weights, he, List.mem_cons]
          refine .inl ?_
          simp only [lits, List.length_map, List.length_take, List.length_drop]
          congr 1
          omega
        have hin2 : (C r) * P.bytesOf q ∈ d.weights P t := by
          rw [hx]
          simp only [DataW.weights, ht, List.mem_cons, List.mem_append]
          refine .inr (.inl ?_)
          exact weights_inner (d := intRow .i64 (AA r) (L r) (Z r)) (List.mem_map.2 ⟨r, List.mem_range.2 hr, rfl⟩) _ hin
        have := List.all_eq_true.1 hs _ (DataW.weights_mem_each ht0 hd _ hin2)
        rw [hby] at this
        have h9 : C r * 8 ≤ reachBytes := of_decide_eq_true this
        have h10 : reachBytes ≤ 140737488351232 := by decide
        omega
    refine ⟨(List.range n).map fun r => (Z r).take (L r), ⟨by simp, hl, by simpa [maxLen] using hm, fun k hk => ?_⟩, fun l hlm => ?_⟩
    · have hk' : k < n := by simpa using hk
      obtain ⟨h0, h1, h2, h3, h4, h5, h6⟩ := hcell k (by omega)
      refine ⟨a, AA k, L k, C k, rfl, h0, ?_⟩
      simp only [List.getElem_map, List.getElem_range]
      exact ints_of_cells h1 h2 h3 h5 fun a' ha i hi => (h6 a' ha).2 i hi
    · obtain ⟨r, hr, rfl⟩ := List.mem_map.1 hlm
      have hr' := List.mem_range.1 hr
      obtain ⟨_, h1, h2, h3, h4, h5, _⟩ := hcell r (by omega)
      have := hCr r hr'
      exact ⟨by simp; omega, fun x hx => bd_i64 (h4 x (List.mem_of_mem_take hx))⟩
end
end Go.Proofs.Ytoacgoelhidmbaa
