/-
  Joined: OpenE, OpenH, OpenD, OpenF.
-/
import Derived.ChangeSame
import Derived.Lib.SmallJoins
import Derived.Test.YtnjlganofjkpfaaGreatJBldB10
import Derived.Test.YtnjlganofjkpfaaGreatJBldB14
import Derived.Deep.Strs
/-
  A struct of eleven integers by value: opened, and shut again.
-/
namespace Go.Proofs.YtnjlganofjkpfaaGreat
open Go.ChangeShapes Go.WideShapes Go.ChangeAt Go.RowKit Go.Deep
set_option linter.unusedVariables false
set_option linter.unusedSimpArgs false

section
variable {H : Type} {enc : TypeId × Value → H} {P : Program} {w : World} {base : Nat} {held : Bool}

end
end Go.Proofs.YtnjlganofjkpfaaGreat

/-
  Slices of structs of integers, opened; of three and of four integers as lists.
-/
namespace Go.Proofs.YtnjlganofjkpfaaGreat
open Go.ChangeShapes Go.WideShapes Go.ChangeAt Go.RowKit Go.Deep
set_option linter.unusedVariables false
set_option linter.unusedSimpArgs false

section
variable {H : Type} {enc : TypeId × Value → H} {P : Program} {w : World} {base : Nat} {held : Bool}

end

/-- a slice of structs of three integers -/
structure Trs (w : World) (A : Option Addr) (n c : Nat) (l : List (Int × Int × Int)) : Prop where
  len : l.length = n
  cap : n ≤ c
  most : c ≤ 9223372036854775807
  row : ∀ k (h : k < l.length), ∃ ad, A = some ad ∧ w.cell? (ad.add (k * 3)) = some (.int .i64 l[k].1) ∧ w.cell? (ad.add (k * 3 + 1)) = some (.int .i64 l[k].2.1) ∧ w.cell? (ad.add (k * 3 + 2)) = some (.int .i64 l[k].2.2)
theorem Trs.below {w w' : World} {A : Option Addr} {n c : Nat} {l : List (Int × Int × Int)} (h : Trs w A n c l) (hb : Below w.heap.size w w') : Trs w' A n c l :=
  ⟨h.len, h.cap, h.most, fun k hk => by
    obtain ⟨ad, e, h0, h1, h2⟩ := h.row k hk
    exact ⟨ad, e, (hb.cell (cell_lt h0)).trans h0, (hb.cell (cell_lt h1)).trans h1, (hb.cell (cell_lt h2)).trans h2⟩⟩
theorem Trs.nil (w : World) : Trs w none 0 0 [] := ⟨rfl, Nat.le_refl _, by omega, fun k h => by cases h⟩
theorem Trs.lit {w : World} {A : Option Addr} {n c : Nat} {l : List (Int × Int × Int)} (h : Trs w A n c l) (hp : 0 < n) :
    ∃ b off, A = some ⟨b, off, none⟩ ∧ b < w.heap.size ∧ ∀ k (h : k < l.length), w.cell? ⟨b, off + k * 3, none⟩ = some (.int .i64 l[k].1) ∧ w.cell? ⟨b, off + (k * 3 + 1), none⟩ = some (.int .i64 l[k].2.1) ∧ w.cell? ⟨b, off + (k * 3 + 2), none⟩ = some (.int .i64 l[k].2.2) := by
  have h0 : 0 < l.length := by rw [h.len]; exact hp
  obtain ⟨ad, rfl, c0, _, _⟩ := h.row 0 h0
  obtain ⟨b, off, spot⟩ := ad
  have hspot : spot = none := by simpa [Addr.add] using World.cell?_spot c0
  subst hspot
  refine ⟨b, off, rfl, by simpa [Addr.add] using cell_lt c0, fun k hk => ?_⟩
  obtain ⟨ad', e, g0, g1, g2⟩ := h.row k hk
  cases e
  rw [Addr.add_lit] at g0 g1 g2
  exact ⟨g0, g1, g2⟩

end Go.Proofs.YtnjlganofjkpfaaGreat

/-
  Structs of a slice of integers and an integer: by value, and slices of them; in memory, and opened.
-/
namespace Go.Proofs.YtnjlganofjkpfaaGreat
open Go.ChangeShapes Go.WideShapes Go.ChangeAt Go.RowKit Go.Deep
set_option linter.unusedVariables false
set_option linter.unusedSimpArgs false

/-- a slice of structs of a slice of integers and an integer -/
structure Fts (w : World) (A : Option Addr) (n c : Nat) (ll : List (List Int × Int)) : Prop where
  len : ll.length = n
  cap : n ≤ c
  most : c ≤ 9223372036854775807
  row : ∀ k (h : k < ll.length), ∃ ad A' m c', A = some ad ∧ w.cell? (ad.add (k * 2)) = some (.slice A' m c') ∧ w.cell? (ad.add (k * 2 + 1)) = some (.int .i64 ll[k].2) ∧ Ints w A' m c' ll[k].1

theorem Fts.nil (w : World) : Fts w none 0 0 [] := ⟨rfl, Nat.le_refl _, Nat.zero_le _, fun k h => by simp at h⟩

theorem Fts.lit {w : World} {A : Option Addr} {n c : Nat} {ll : List (List Int × Int)} (h : Fts w A n c ll) (hp : 0 < n) :
    ∃ b off, A = some ⟨b, off, none⟩ ∧ b < w.heap.size ∧ ∀ k (h : k < ll.length), ∃ A' m c', w.cell? ⟨b, off + k * 2, none⟩ = some (.slice A' m c') ∧ w.cell? ⟨b, off + (k * 2 + 1), none⟩ = some (.int .i64 ll[k].2) ∧ Ints w A' m c' ll[k].1 := by
  obtain ⟨ad, A', m, c', rfl, hc, _⟩ := h.row 0 (by rw [h.len]; exact hp)
  obtain ⟨b, off, spot⟩ := ad
  have hspot : spot = none := by simpa [Addr.add] using World.cell?_spot hc
  subst hspot
  refine ⟨b, off, rfl, by simpa [Addr.add] using cell_lt hc, fun k hk => ?_⟩
  obtain ⟨ad', A', m, c', e, h1, h2, hB⟩ := h.row k hk
  cases e
  rw [Addr.add_lit] at h1 h2
  exact ⟨A', m, c', h1, h2, hB⟩

section
variable {H : Type} {enc : TypeId × Value → H} {P : Program} {w : World} {base : Nat} {held : Bool}

end
end Go.Proofs.YtnjlganofjkpfaaGreat

/-
  Slices of strings; a struct of an integer, a bool, integers and strings by value: in memory, and opened.
-/
namespace Go.Proofs.YtnjlganofjkpfaaGreat
open Go.ChangeShapes Go.WideShapes Go.ChangeAt Go.RowKit Go.Deep
set_option linter.unusedVariables false
set_option linter.unusedSimpArgs false

/-- strings as cells -/
def strV (ll : List (List UInt8)) : List Value := ll.map fun l => .string ⟨l.toArray⟩
theorem strV_length (ll : List (List UInt8)) : (strV ll).length = ll.length := by simp [strV]
theorem strV_append (a b : List (List UInt8)) : strV (a ++ b) = strV a ++ strV b := by simp [strV]
theorem strV_at (ll : List (List UInt8)) (k : Nat) (h : k < ll.length) : (strV ll)[k]? = some (.string ⟨ll[k].toArray⟩) := by simp [strV, h]
/-- a slice of strings -/
structure Strs (w : World) (A : Option Addr) (n c : Nat) (ll : List (List UInt8)) : Prop where
  len : ll.length = n
  cap : n ≤ c
  most : c ≤ 9223372036854775807
  row : Row w A (strV ll)

theorem Strs.below {w w' : World} {A : Option Addr} {n c : Nat} {ll : List (List UInt8)} (h : Strs w A n c ll) (hb : Below w.heap.size w w') : Strs w' A n c ll := ⟨h.len, h.cap, h.most, h.row.below hb⟩
theorem Strs.nil (w : World) : Strs w none 0 0 [] := ⟨rfl, Nat.le_refl _, Nat.zero_le _, Row.nil _ _⟩
theorem Strs.of_own {w : World} {base : Nat} {e : TypeId} {n : Nat} {v : Value} {ll : List (List UInt8)} (h : w.ownsRow base e 1 v n (strV ll)) : ∃ A c, v = .slice A n c ∧ Strs w A n c ll := by
  obtain ⟨A, c, rfl, h1, h2⟩ := ownsRow_form h
  refine ⟨A, c, rfl, by have := h.1; rw [strV_length] at this; simpa using this, h1, by simpa [maxLen] using h2, Row.of_own h⟩

section
variable {H : Type} {enc : TypeId × Value → H} {P : Program} {w : World} {base : Nat} {held : Bool}

end
end Go.Proofs.YtnjlganofjkpfaaGreat
