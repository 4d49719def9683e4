/-
  Joined: OpenE, OpenH.
-/
import Derived.ChangeSame
import Derived.Lib.SmallJoins
import Derived.Test.YtoacgoelhidmbaaJTly11
/-
  A struct of eleven integers by value: opened, and shut again.
-/
namespace Go.Proofs.Ytoacgoelhidmbaa
open Go.ChangeShapes Go.WideShapes Go.ChangeAt Go.RowKit Go.Deep
set_option linter.unusedVariables false
set_option linter.unusedSimpArgs false

section
variable {H : Type} {enc : TypeId × Value → H} {P : Program} {w : World} {base : Nat} {held : Bool}

end
end Go.Proofs.Ytoacgoelhidmbaa

/-
  Slices of structs of integers, opened; of three and of four integers as lists.
-/
namespace Go.Proofs.Ytoacgoelhidmbaa
open Go.ChangeShapes Go.WideShapes Go.ChangeAt Go.RowKit Go.Deep
set_option linter.unusedVariables false
set_option linter.unusedSimpArgs false

section
variable {H : Type} {enc : TypeId × Value → H} {P : Program} {w : World} {base : Nat} {held : Bool}

end

/-- a slice of structs of three integers -/
structure Trs (w : World) (A : Option Addr) (n c : Nat) (l : List (Int × Int × Int)) : Prop where
  len : l.length = n
  cap : n ≤ c
  most : c ≤ 9223372036854775807
  row : ∀ k (h : k < l.length), ∃ ad, A = some ad ∧ w.cell? (ad.add (k * 3)) = some (.int .i64 l[k].1) ∧ w.cell? (ad.add (k * 3 + 1)) = some (.int .i64 l[k].2.1) ∧ w.cell? (ad.add (k * 3 + 2)) = some (.int .i64 l[k].2.2)
theorem Trs.below {w w' : World} {A : Option Addr} {n c : Nat} {l : List (Int × Int × Int)} (h : Trs w A n c l) (hb : Below w.heap.size w w') : Trs w' A n c l :=
  ⟨h.len, h.cap, h.most, fun k hk => by
    obtain ⟨ad, e, h0, h1, h2⟩ := h.row k hk
    exact ⟨ad, e, (hb.cell (cell_lt h0)).trans h0, (hb.cell (cell_lt h1)).trans h1, (hb.cell (cell_lt h2)).trans h2⟩⟩
theorem Trs.nil (w : World) : Trs w none 0 0 [] := ⟨rfl, Nat.le_refl _, by omega, fun k h => by cases h⟩
theorem Trs.lit {w : World} {A : Option Addr} {n c : Nat} {l : List (Int × Int × Int)} (h : Trs w A n c l) (hp : 0 < n) :
    ∃ b off, A = some ⟨b, off, none⟩ ∧ b < w.heap.size ∧ ∀ k (h : k < l.length), w.cell? ⟨b, off + k * 3, none⟩ = some (.int .i64 l[k].1) ∧ w.cell? ⟨b, off + (k * 3 + 1), none⟩ = some (.int .i64 l[k].2.1) ∧ w.cell? ⟨b, off + (k * 3 + 2), none⟩ = some (.int .i64 l[k].2.2) := by
  have h0 : 0 < l.length := by rw [h.len]; exact hp
  obtain ⟨ad, rfl, c0, _, _⟩ := h.row 0 h0
  obtain ⟨b, off, spot⟩ := ad
  have hspot : spot = none := by simpa [Addr.add] using World.cell?_spot c0
  subst hspot
  refine ⟨b, off, rfl, by simpa [Addr.add] using cell_lt c0, fun k hk => ?_⟩
  obtain ⟨ad', e, g0, g1, g2⟩ := h.row k hk
  cases e
  rw [Addr.add_lit] at g0 g1 g2
  exact ⟨g0, g1, g2⟩

end Go.Proofs.Ytoacgoelhidmbaa
