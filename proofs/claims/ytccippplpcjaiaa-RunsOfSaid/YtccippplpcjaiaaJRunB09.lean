/-
  Joined: OpenD, OpenF, OpenP, PolMath, PolAt.
-/
import Derived.ChangeSame
import Derived.Lib.SmallJoins
import Derived.Test.YtccippplpcjaiaaJRunB07
import Derived.Deep.Strs
import Derived.Test.YtccippplpcjaiaaJRunB08
/-
  Structs of a slice of integers and an integer: by value, and slices of them; in memory, and opened.
-/
namespace Go.Proofs.Ytccippplpcjaiaa
open Go.ChangeShapes Go.WideShapes Go.ChangeAt Go.RowKit Go.Deep
set_option linter.unusedVariables false
set_option linter.unusedSimpArgs false

/-- a slice of structs of a slice of integers and an integer -/
structure Fts (w : World) (A : Option Addr) (n c : Nat) (ll : List (List Int × Int)) : Prop where
  len : ll.length = n
  cap : n ≤ c
  most : c ≤ 9223372036854775807
  row : ∀ k (h : k < ll.length), ∃ ad A' m c', A = some ad ∧ w.cell? (ad.add (k * 2)) = some (.slice A' m c') ∧ w.cell? (ad.add (k * 2 + 1)) = some (.int .i64 ll[k].2) ∧ Ints w A' m c' ll[k].1

theorem Fts.nil (w : World) : Fts w none 0 0 [] := ⟨rfl, Nat.le_refl _, Nat.zero_le _, fun k h => by simp at h⟩

theorem Fts.lit {w : World} {A : Option Addr} {n c : Nat} {ll : List (List Int × Int)} (h : Fts w A n c ll) (hp : 0 < n) :
    ∃ b off, A = some ⟨b, off, none⟩ ∧ b < w.heap.size ∧ ∀ k (h : k < ll.length), ∃ A' m c', w.cell? ⟨b, off + k * 2, none⟩ = some (.slice A' m c') ∧ w.cell? ⟨b, off + (k * 2 + 1), none⟩ = some (.int .i64 ll[k].2) ∧ Ints w A' m c' ll[k].1 := by
  obtain ⟨ad, A', m, c', rfl, hc, _⟩ := h.row 0 (by rw [h.len]; exact hp)
  obtain ⟨b, off, spot⟩ := ad
  have hspot : spot = none := by simpa [Addr.add] using World.cell?_spot hc
  subst hspot
  refine ⟨b, off, rfl, by simpa [Addr.add] using cell_lt hc, fun k hk => ?_⟩
  obtain ⟨ad', A', m, c', e, h1, h2, hB⟩ := h.row k hk
  cases e
  rw [Addr.add_lit] at h1 h2
  exact ⟨A', m, c', h1, h2, hB⟩

section
variable {H : Type} {enc : TypeId × Value → H} {P : Program} {w : World} {base : Nat} {held : Bool}

end
end Go.Proofs.Ytccippplpcjaiaa

/-
  Slices of strings; a struct of an integer, a bool, integers and strings by value: in memory, and opened.
-/
namespace Go.Proofs.Ytccippplpcjaiaa
open Go.ChangeShapes Go.WideShapes Go.ChangeAt Go.RowKit Go.Deep
set_option linter.unusedVariables false
set_option linter.unusedSimpArgs false

/-- strings as cells -/
def strV (ll : List (List UInt8)) : List Value := ll.map fun l => .string ⟨l.toArray⟩
theorem strV_length (ll : List (List UInt8)) : (strV ll).length = ll.length := by simp [strV]
theorem strV_at (ll : List (List UInt8)) (k : Nat) (h : k < ll.length) : (strV ll)[k]? = some (.string ⟨ll[k].toArray⟩) := by simp [strV, h]
/-- a slice of strings -/
structure Strs (w : World) (A : Option Addr) (n c : Nat) (ll : List (List UInt8)) : Prop where
  len : ll.length = n
  cap : n ≤ c
  most : c ≤ 9223372036854775807
  row : Row w A (strV ll)

theorem Strs.below {w w' : World} {A : Option Addr} {n c : Nat} {ll : List (List UInt8)} (h : Strs w A n c ll) (hb : Below w.heap.size w w') : Strs w' A n c ll := ⟨h.len, h.cap, h.most, h.row.below hb⟩
theorem Strs.nil (w : World) : Strs w none 0 0 [] := ⟨rfl, Nat.le_refl _, Nat.zero_le _, Row.nil _ _⟩
theorem Strs.of_own {w : World} {base : Nat} {e : TypeId} {n : Nat} {v : Value} {ll : List (List UInt8)} (h : w.ownsRow base e 1 v n (strV ll)) : ∃ A c, v = .slice A n c ∧ Strs w A n c ll := by
  obtain ⟨A, c, rfl, h1, h2⟩ := ownsRow_form h
  refine ⟨A, c, rfl, by have := h.1; rw [strV_length] at this; simpa using this, h1, by simpa [maxLen] using h2, Row.of_own h⟩

section
variable {H : Type} {enc : TypeId × Value → H} {P : Program} {w : World} {base : Nat} {held : Bool}

end
end Go.Proofs.Ytccippplpcjaiaa

/-
  Pools: devices with their mappings, in memory, and a pool by value opened.
-/
namespace Go.Proofs.Ytccippplpcjaiaa
open Go.ChangeShapes Go.WideShapes Go.ChangeAt Go.RowKit Go.Deep
set_option linter.unusedVariables false
set_option linter.unusedSimpArgs false

/-- a device: its numbers, its mappings (virtual block, data block, time) -/
structure Dev18 where
  id : Int
  tx : Int
  made : Int
  snap : Int
  maps : List (Int × Int × Int)
instance : Inhabited Dev18 := ⟨⟨0, 0, 0, 0, []⟩⟩
/-- device k of a slice: five cells, its mappings' slice -/
def DevAt (w : World) (ad : Addr) (d : Dev18) : Prop := ∃ A' m c', w.cell? ad = some (.int .i64 d.id) ∧ w.cell? (ad.add 1) = some (.int .i64 d.tx) ∧ w.cell? (ad.add 2) = some (.int .i64 d.made) ∧ w.cell? (ad.add 3) = some (.int .i64 d.snap) ∧ w.cell? (ad.add 4) = some (.slice A' m c') ∧ Trs w A' m c' d.maps
theorem DevAt.below {w w' : World} {ad : Addr} {d : Dev18} (h : DevAt w ad d) (hb : Below w.heap.size w w') : DevAt w' ad d := by
  obtain ⟨A', m, c', h0, h1, h2, h3, h4, h5⟩ := h
  exact ⟨A', m, c', (hb.cell (cell_lt h0)).trans h0, (hb.cell (cell_lt h1)).trans h1, (hb.cell (cell_lt h2)).trans h2, (hb.cell (cell_lt h3)).trans h3, (hb.cell (cell_lt h4)).trans h4, h5.below hb⟩
/-- a slice of devices -/
structure Dvs (w : World) (A : Option Addr) (n c : Nat) (l : List Dev18) : Prop where
  len : l.length = n
  cap : n ≤ c
  most : c ≤ 9223372036854775807
  row : ∀ k (h : k < l.length), ∃ ad, A = some ad ∧ DevAt w (ad.add (k * 5)) l[k]
theorem Dvs.below {w w' : World} {A : Option Addr} {n c : Nat} {l : List Dev18} (h : Dvs w A n c l) (hb : Below w.heap.size w w') : Dvs w' A n c l :=
  ⟨h.len, h.cap, h.most, fun k hk => by
    obtain ⟨ad, e, hd⟩ := h.row k hk
    exact ⟨ad, e, hd.below hb⟩⟩
theorem Dvs.nil (w : World) : Dvs w none 0 0 [] := ⟨rfl, Nat.le_refl _, by omega, fun k h => by cases h⟩
theorem Dvs.lit {w : World} {A : Option Addr} {n c : Nat} {l : List Dev18} (h : Dvs w A n c l) (hp : 0 < n) :
    ∃ b off, A = some ⟨b, off, none⟩ ∧ b < w.heap.size ∧ ∀ k (h : k < l.length), ∃ A' m c', w.cell? ⟨b, off + k * 5, none⟩ = some (.int .i64 l[k].id) ∧ w.cell? ⟨b, off + (k * 5 + 1), none⟩ = some (.int .i64 l[k].tx) ∧ w.cell? ⟨b, off + (k * 5 + 2), none⟩ = some (.int .i64 l[k].made) ∧ w.cell? ⟨b, off + (k * 5 + 3), none⟩ = some (.int .i64 l[k].snap) ∧ w.cell? ⟨b, off + (k * 5 + 4), none⟩ = some (.slice A' m c') ∧ Trs w A' m c' l[k].maps := by
  have h0 : 0 < l.length := by rw [h.len]; exact hp
  obtain ⟨ad, rfl, A0, m0, c0, g0, _⟩ := h.row 0 h0
  obtain ⟨b, off, spot⟩ := ad
  have hspot : spot = none := by simpa [Addr.add] using World.cell?_spot g0
  subst hspot
  refine ⟨b, off, rfl, by simpa [Addr.add] using cell_lt g0, fun k hk => ?_⟩
  obtain ⟨ad', e, A', m, c', g0, g1, g2, g3, g4, g5⟩ := h.row k hk
  cases e
  rw [addr_add_add] at g1 g2 g3 g4
  rw [Addr.add_lit] at g0 g1 g2 g3 g4
  exact ⟨A', m, c', g0, g1, g2, g3, g4, g5⟩

section
variable {H : Type} {enc : TypeId × Value → H} {P : Program} {w : World} {base : Nat} {held : Bool}
end
end Go.Proofs.Ytccippplpcjaiaa

/-
  Layer 18's mathematics: whether a pool may be, its counts, its latest time.
-/
namespace Go.Proofs.Ytccippplpcjaiaa
open Go.RowKit
set_option linter.unusedVariables false
set_option linter.unusedSimpArgs false

end Go.Proofs.Ytccippplpcjaiaa

/-
  Layer 18's mathematics: errors entry by entry, as loops meet them; pools that are the same.
-/
namespace Go.Proofs.Ytccippplpcjaiaa
open Go.RowKit
set_option linter.unusedVariables false
set_option linter.unusedSimpArgs false

/-! ### the first error of a row -/
/-! ### mappings -/
/-! ### devices -/
/-! ### the counts of the first devices, of the first mappings of the next -/
theorem getD18 {α : Type} {l : List α} {k : Nat} (h : k < l.length) (d : α) : l.getD k d = l[k] := by simp [List.getD_eq_getElem?_getD, h]
/-! ### what Find answers; what is the same -/
end Go.Proofs.Ytccippplpcjaiaa
