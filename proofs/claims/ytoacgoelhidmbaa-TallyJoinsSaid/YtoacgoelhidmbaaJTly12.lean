/-
  Joined: OpenB, OpenC.
-/
import Derived.Deep.Matrix
import Derived.Test.YtoacgoelhidmbaaJTly11
import Derived.Test.YtoacgoelhidmbaaJTly01
import Derived.ChangeSame
/-
  Opening the arguments of a law, second part: slices of slices of bytes.
-/
namespace Go.Proofs.Ytoacgoelhidmbaa
open Go.ChangeShapes Go.WideShapes Go.ChangeAt Go.RowKit Go.Deep
set_option linter.unusedVariables false
set_option linter.unusedSimpArgs false

section
variable {H : Type} {enc : TypeId × Value → H} {P : Program} {w : World} {base : Nat} {held : Bool}

theorem weights_inner {e : TypeId} {d : DataW H} : ∀ {ds : List (DataW H)}, d ∈ ds → ∀ n ∈ d.weights P e, n ∈ DataW.weightsAll P e ds
  | [], h, _, _ => by cases h
  | y :: r, h, n, hn => by
    simp only [DataW.weightsAll, List.mem_append]
    rcases List.mem_cons.1 h with rfl | h
    · exact .inl hn
    · exact .inr (weights_inner h n hn)

end
end Go.Proofs.Ytoacgoelhidmbaa

/-
  Slices of structs of an integer and a slice of bytes: in memory, and opened.
-/
namespace Go.Proofs.Ytoacgoelhidmbaa
open Go.ChangeShapes Go.WideShapes Go.ChangeAt Go.RowKit Go.Deep
set_option linter.unusedVariables false
set_option linter.unusedSimpArgs false

/-- a slice of structs of an integer and a slice of bytes -/
structure Stp (w : World) (A : Option Addr) (n c : Nat) (ll : List (Int × List UInt8)) : Prop where
  len : ll.length = n
  cap : n ≤ c
  most : c ≤ 9223372036854775807
  row : ∀ k (h : k < ll.length), ∃ ad A' m c', A = some ad ∧ w.cell? (ad.add (k * 2)) = some (.int .i64 ll[k].1) ∧ w.cell? (ad.add (k * 2 + 1)) = some (.slice A' m c') ∧ Bytes8 w A' m c' ll[k].2

theorem Stp.below {w w' : World} {A : Option Addr} {n c : Nat} {ll : List (Int × List UInt8)} (h : Stp w A n c ll) (hb : Below w.heap.size w w') : Stp w' A n c ll :=
  ⟨h.len, h.cap, h.most, fun k hk => by
    obtain ⟨ad, A', m, c', e, h1, h2, hB⟩ := h.row k hk
    exact ⟨ad, A', m, c', e, (hb.cell (cell_lt h1)).trans h1, (hb.cell (cell_lt h2)).trans h2, hB.below hb⟩⟩

theorem Stp.nil (w : World) : Stp w none 0 0 [] := ⟨rfl, Nat.le_refl _, Nat.zero_le _, fun k h => by simp at h⟩

theorem Stp.lit {w : World} {A : Option Addr} {n c : Nat} {ll : List (Int × List UInt8)} (h : Stp w A n c ll) (hp : 0 < n) :
    ∃ b off, A = some ⟨b, off, none⟩ ∧ b < w.heap.size ∧ ∀ k (h : k < ll.length), ∃ A' m c', w.cell? ⟨b, off + k * 2, none⟩ = some (.int .i64 ll[k].1) ∧ w.cell? ⟨b, off + (k * 2 + 1), none⟩ = some (.slice A' m c') ∧ Bytes8 w A' m c' ll[k].2 := by
  obtain ⟨ad, A', m, c', rfl, hc, _⟩ := h.row 0 (by rw [h.len]; exact hp)
  obtain ⟨b, off, spot⟩ := ad
  have hspot : spot = none := by simpa [Addr.add] using World.cell?_spot hc
  subst hspot
  refine ⟨b, off, rfl, by simpa [Addr.add] using cell_lt hc, fun k hk => ?_⟩
  obtain ⟨ad', A', m, c', e, h1, h2, hB⟩ := h.row k hk
  cases e
  rw [Addr.add_lit] at h1 h2
  exact ⟨A', m, c', h1, h2, hB⟩

section
variable {H : Type} {enc : TypeId × Value → H} {P : Program} {w : World} {base : Nat} {held : Bool}

end
end Go.Proofs.Ytoacgoelhidmbaa
