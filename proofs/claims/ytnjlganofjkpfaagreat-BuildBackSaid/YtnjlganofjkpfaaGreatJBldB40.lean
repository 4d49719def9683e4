/-
  Joined: FltLawA, FltLawB, FltS, FltLawD, FltT, BlkA.
-/
import Derived.Deep.RegionHeld3
import Derived.Deep.RegionWith
import Derived.Deep.DeepFit
import Derived.Deep.DeepMust
import Derived.Test.YtnjlganofjkpfaaGreatJBldB34
import Derived.Test.YtnjlganofjkpfaaGreatJBldB25
import Derived.Deep.RegionLaw
import Derived.Test.YtnjlganofjkpfaaGreatJBldB15
/-
  The walk of FaultFirst.
-/
namespace Go.Proofs.YtnjlganofjkpfaaGreat
open Go.RowKit
set_option linter.unusedVariables false
set_option linter.unusedSimpArgs false

/-- the law's error of blocks and a number -/
def OwnOf (f : List Int × Int) (l : List Node) : Prop := (f.2 = 0 ∧ l = []) ∨ (f.2 ≠ 0 ∧ Chain f.1 f.2 l)

/-- the first with a number -/
def wantOf : List (List Int × Int) → List Int × Int
  | [] => ([], 0)
  | f :: fs => if f.2 = 0 then wantOf fs else f

/-- errors one by one -/
inductive Owns : List (List Int × Int) → List (List Node) → Prop where
  | nil : Owns [] []
  | cons {f : List Int × Int} {l : List Node} {fs : List (List Int × Int)} {ls : List (List Node)} : OwnOf f l → Owns fs ls → Owns (f :: fs) (l :: ls)
theorem Owns.snoc {fs : List (List Int × Int)} {ls : List (List Node)} {f : List Int × Int} {l : List Node} (h : Owns fs ls) (h2 : OwnOf f l) : Owns (fs ++ [f]) (ls ++ [l]) := by
  induction h with
  | nil => exact .cons h2 .nil
  | cons h3 _ ih => exact .cons h3 ih
theorem Owns.first {fs : List (List Int × Int)} {ls : List (List Node)} (h : Owns fs ls) : OwnOf (wantOf fs) (firstOf ls) := by
  induction h with
  | nil => exact .inl ⟨rfl, rfl⟩
  | @cons f l fs ls h2 _ ih =>
    rcases h2 with ⟨h3, rfl⟩ | ⟨h3, h4⟩
    · simpa [wantOf, h3, firstOf] using ih
    · have hne := h4.ne
      cases l with
      | nil => exact absurd rfl hne
      | cons x l => simp only [wantOf, if_neg h3, firstOf]; exact .inr ⟨h3, h4⟩

/-- the law's end: what it reads -/
structure EndF (w0 W : World) (A2 : Option Addr) (n2 c2 : Nat) (ls : List (List Node)) (A : Option Addr) (n c : Nat) (wb : List Int) (wc : Int) : Prop where
  bel : Below w0.heap.size w0 W
  errs : Errs W A2 n2 c2 ls
  good : Good W (firstOf ls)
  k0 : W.cell? ⟨w0.heap.size, 0, none⟩ = some (.slice A n c)
  k1 : W.cell? ⟨w0.heap.size, 1, none⟩ = some (.int .i64 wc)
theorem EndF.later {w0 W W' : World} {A2 : Option Addr} {n2 c2 : Nat} {ls : List (List Node)} {A : Option Addr} {n c : Nat} {wb : List Int} {wc : Int} (h : EndF w0 W A2 n2 c2 ls A n c wb wc) (hb : Below W.heap.size W W') : EndF w0 W' A2 n2 c2 ls A n c wb wc :=
  ⟨h.bel.trans (hb.mono h.bel.size), h.errs.below hb, h.good.below hb, (hb.cell (p := ⟨w0.heap.size, 0, none⟩) (cell_lt h.k0)).trans h.k0, (hb.cell (p := ⟨w0.heap.size, 1, none⟩) (cell_lt h.k1)).trans h.k1⟩

end Go.Proofs.YtnjlganofjkpfaaGreat

/-
  The walk of FaultOthers.
-/
namespace Go.Proofs.YtnjlganofjkpfaaGreat
open Go.RowKit
set_option linter.unusedVariables false
set_option linter.unusedSimpArgs false

end Go.Proofs.YtnjlganofjkpfaaGreat

/-
  The reference's Text.
-/
namespace Go.Proofs.YtnjlganofjkpfaaGreat
open Go.RowKit
set_option linter.unusedVariables false
set_option linter.unusedSimpArgs false

end Go.Proofs.YtnjlganofjkpfaaGreat

/-
  The walk of FaultTells.
-/
namespace Go.Proofs.YtnjlganofjkpfaaGreat
open Go.RowKit
set_option linter.unusedVariables false
set_option linter.unusedSimpArgs false

end Go.Proofs.YtnjlganofjkpfaaGreat

/-
  The reference's At.
-/
namespace Go.Proofs.YtnjlganofjkpfaaGreat
open Go.RowKit
set_option linter.unusedVariables false
set_option linter.unusedSimpArgs false

end Go.Proofs.YtnjlganofjkpfaaGreat

/-
  Layer 11's errors: block.at; the law's same.
-/
namespace Go.Proofs.YtnjlganofjkpfaaGreat
open Go.RowKit
set_option linter.unusedVariables false
set_option linter.unusedSimpArgs false

section
variable {w w' : World} {p : Nat} {a b : Value}
end
/-- an error at a block, as the program has it -/
def ErrAt (w : World) (v : Value) (no x : Int) : Prop := (x = 0 ∧ v = .nilIface) ∨ (x ≠ 0 ∧ ∃ p, v = .iface 112 (.pointer (some ⟨p, 0, none⟩)) ∧ Good w [.flt no p, .num x])
theorem ErrAt.below {w w' : World} {v : Value} {no x : Int} (h : ErrAt w v no x) (hb : Below w.heap.size w w') : ErrAt w' v no x := by
  rcases h with h | ⟨h1, p, h2, h3⟩
  · exact .inl h
  · exact .inr ⟨h1, p, h2, h3.below hb⟩
/-- the blocks of an error at a block -/
def atL (no x : Int) : List Int := if x = 0 then [] else [no]
/-- an error at a block, as the document has it -/
def BadAt (w : World) (v : Value) (no x : Int) : Prop := ∃ A n c, v = rf A n c x ∧ Ints w A n c (atL no x)
theorem BadAt.below {w w' : World} {v : Value} {no x : Int} (h : BadAt w v no x) (hb : Below w.heap.size w w') : BadAt w' v no x := by
  obtain ⟨A, n, c, h2, h3⟩ := h
  exact ⟨A, n, c, h2, h3.below hb⟩
theorem BadAt.none (w : World) (no : Int) : BadAt w (rf none 0 0 0) no 0 := ⟨Option.none, 0, 0, rfl, Ints.nil w⟩

set_option maxRecDepth 100000 in
set_option maxHeartbeats 800000 in
theorem bat_any (no x : Int) (w : World) :
    Calls Tryz.prog 71 #[.int .i64 no, .iface 49 (.int .i64 x)] w fun e w' => ∃ v, e = .returned v ∧ ErrAt w' v no x ∧ Below w.heap.size w w' := by
  have IS := Lib.hid (is_num x 0 w)
  by_cases hx : x = 0
  · subst hx
    rw [show ((0 : Int) == 0) = true from rfl] at IS
    go_enter Tryz.func71, Tryz.ntmps71
    go_wp2_with (go_at_call 87; (with_reducible refine (IS.out).mono ?_); rintro e w1 ⟨rfl, rfl⟩)
    go_ret
    exact ⟨_, rfl, .inl ⟨rfl, rfl⟩, Below.refl _ _⟩
  · have AT := Lib.hid (At_err no (l := [.num x]) (by simp) (w := w) rfl)
    simp only [val] at AT
    rw [show (x == 0) = false by simpa using hx] at IS
    have HX := Lib.hid hx
    clear hx
    go_enter Tryz.func71, Tryz.ntmps71
    go_wp2_with (first
      | (go_at_call 87; (with_reducible refine (IS.out).mono ?_); rintro e w1 ⟨rfl, rfl⟩)
      | (go_at_call 45; (with_reducible refine (AT.out).mono ?_); rintro e w1 ⟨p, rfl, hG, hb1⟩; have HG := Lib.hid hG; clear hG))
    go_ret
    exact ⟨_, rfl, .inr ⟨HX.out, p, rfl, HG.out⟩, hb1⟩

end Go.Proofs.YtnjlganofjkpfaaGreat
