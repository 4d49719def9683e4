/-
  Joined: RefU, RefV.
-/
import Derived.BigQuiet
import Derived.Test.YtcmehjjaologpaaJSiz13
import Derived.Test.YtcmehjjaologpaaJSiz08
/-
  Layer 12: the reference's Differ.
-/
namespace Go.Proofs.Ytcmehjjaologpaa
open Go.RowKit
set_option linter.unusedVariables false
set_option linter.unusedSimpArgs false

end Go.Proofs.Ytcmehjjaologpaa

/-
  Layer 12: adding any number, both counters; lives.
-/
namespace Go.Proofs.Ytcmehjjaologpaa
open Go.RowKit
set_option linter.unusedVariables false
set_option linter.unusedSimpArgs false

/-- what an addition answers, behind what was added before -/
def addR12 (N : Nat) (l : List Int) (k : Int) : Int := if hasB12 N k then (occ12 (keepR12 N (l ++ [k])) k : Int) else 0
def addE12 (N : Nat) (k : Int) : Int := if hasB12 N k then 0 else 3

theorem keepR12_bad {N : Nat} (l : List Int) {k : Int} (h : hasB12 N k = false) : keepR12 N (l ++ [k]) = keepR12 N l := keepR12_no l (hasB12_no h)
theorem cnt_occ (l : List Int) (k : Nat) : cntR12 l k = occ12 l (k : Int) := rfl

theorem Add12_any {B p g N : Nat} {l : List Int} (k : Int) (w : World) (h : Cnt w B p g (lstR12 N (keepR12 N l))) (hl : l.length ≤ 100000) :
    Calls Try.prog 41 #[.pointer (some ⟨p, 0, none⟩), .int .i64 k] w fun e w' => e = .returned (.tuple #[.int .i64 (addR12 N l k), .int .i64 (addE12 N k)]) ∧ Cnt w' B p g (lstR12 N (keepR12 N (l ++ [k]))) ∧ Kept g w w' := by
  unfold addR12 addE12
  have hN := lstR12_length N (keepR12 N l)
  cases hb : hasB12 N k with
  | false =>
    rw [if_neg (by decide), if_neg (by decide), keepR12_bad l hb]
    have := Add12_bad k w (Own12.of_cnt h) (by rw [hN]; exact hb)
    exact this.mono fun e w' ⟨h1, h2⟩ => by subst h2; exact ⟨h1, h, Kept.refl _ _⟩
  | true =>
    rw [if_pos rfl, if_pos rfl]
    obtain ⟨h1, h2⟩ := hasB12_yes hb
    obtain ⟨j, rfl⟩ := Int.eq_ofNat_of_zero_le h1
    have hj : j < N := by omega
    have hle : cntR12 (keepR12 N l) j ≤ 100000 := Nat.le_trans (cntR12_le _ _) (Nat.le_trans (keepR12_le _ _) hl)
    have e1 := lstR12_at (n := N) (l := keepR12 N l) (k := j) (by rw [hN]; exact hj)
    have := Add12_good j w h (by rw [hN]; exact hj) (by rw [e1]; omega)
    rw [e1] at this
    rw [keepR12_yes l hj, lstR12_push hj]
    have e2 : (occ12 (keepR12 N l ++ [(j : Int)]) (j : Int) : Int) = (cntR12 (keepR12 N l) j : Int) + 1 := by
      rw [← cnt_occ, cntR12_push, if_pos rfl]; omega
    rw [e2]
    exact this

end Go.Proofs.Ytcmehjjaologpaa
