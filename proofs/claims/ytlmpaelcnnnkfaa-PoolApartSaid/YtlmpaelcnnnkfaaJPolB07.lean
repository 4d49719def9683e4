/-
  Joined: CodeE, CodeF, CodeG, CodeH, CodeJ, CodeK.
-/
import Derived.OwnWalk
import Derived.Test.YtlmpaelcnnnkfaaJPolB05
import Derived.Test.YtlmpaelcnnnkfaaJPolB04
import Derived.Deep.RegionLaw
import Derived.Test.YtlmpaelcnnnkfaaJPolB00
import Derived.Laws.BytesArg
/-
  Layer 1's split: the encoding of an integer.
-/
namespace Go.Proofs.Ytlmpaelcnnnkfaa
open Go.RowKit
set_option linter.unusedVariables false
set_option linter.unusedSimpArgs false


/-! ### the reference's Bytes -/
end Go.Proofs.Ytlmpaelcnnnkfaa

/-
  Layer 1's Put.
-/
namespace Go.Proofs.Ytlmpaelcnnnkfaa
open Go.RowKit
set_option linter.unusedVariables false
set_option linter.unusedSimpArgs false

end Go.Proofs.Ytlmpaelcnnnkfaa

/-
  The reference's Put; both Zero.
-/
namespace Go.Proofs.Ytlmpaelcnnnkfaa
open Go.RowKit
set_option linter.unusedVariables false
set_option linter.unusedSimpArgs false

end Go.Proofs.Ytlmpaelcnnnkfaa

/-
  Layer 1's Pack.
-/
namespace Go.Proofs.Ytlmpaelcnnnkfaa
open Go.RowKit
set_option linter.unusedVariables false
set_option linter.unusedSimpArgs false

/-- fields as cells -/
def flds (l : List (Int × Int)) : List Value := l.flatMap fun p => [.int .i64 p.1, .int .i64 p.2]

def i64b (x : Int) : Prop := -9223372036854775808 ≤ x ∧ x ≤ 9223372036854775807

/-- a slice of fields -/
structure Flds (w : World) (A : Option Addr) (n c : Nat) (l : List (Int × Int)) : Prop where
  len : l.length = n
  cap : n ≤ c
  most : c ≤ 9223372036854775807
  row : Row w A (flds l)
  bds : ∀ p ∈ l, i64b p.1 ∧ i64b p.2

theorem Flds.below {w w' : World} {A : Option Addr} {n c : Nat} {l : List (Int × Int)} (h : Flds w A n c l) (hb : Below w.heap.size w w') : Flds w' A n c l := ⟨h.len, h.cap, h.most, h.row.below hb, h.bds⟩

end Go.Proofs.Ytlmpaelcnnnkfaa

/-
  Layer 1's Unpack and the reference's.
-/
namespace Go.Proofs.Ytlmpaelcnnnkfaa
open Go.RowKit
set_option linter.unusedVariables false
set_option linter.unusedSimpArgs false

end Go.Proofs.Ytlmpaelcnnnkfaa

/-
  The reference's Same; the document's example.
-/
namespace Go.Proofs.Ytlmpaelcnnnkfaa
open Go.RowKit
set_option linter.unusedVariables false
set_option linter.unusedSimpArgs false

set_option maxRecDepth 100000 in
set_option maxHeartbeats 800000 in
theorem Same_same (A A2 : Option Addr) (n c c2 : Nat) (l : List Int) (w : World) (h : Ints w A n c l) (h2 : Ints w A2 n c2 l) :
    Calls Try.prog 18 #[.slice A n c, .slice A2 n c2] w fun e w' => e = .returned (.bool true) ∧ Below w.heap.size w w' := by
  have hn := h.le
  by_cases hp : 0 < n
  · obtain ⟨b, off, rfl, hb, hcell⟩ := h.row.lit (by rw [i64s_length, h.len]; omega)
    obtain ⟨b2, off2, rfl, hb2, hcell2⟩ := h2.row.lit (by rw [i64s_length, h2.len]; omega)
    have HL := Lib.hid h.len
    have HC := Lib.hid hcell
    have HC2 := Lib.hid hcell2
    clear h h2 hcell hcell2
    go_enter Try.func18, Try.ntmps18
    go_wp2
    go_loopw [5] (fun i wr => ∃ k : Nat, k ≤ n ∧ i = .int .i64 k ∧ Below w.heap.size w wr) (fun i _ => n - (intOf i).toNat)
    case atStart => exact ⟨0, by omega, rfl, Below.refl _ _⟩
    case round =>
      obtain ⟨k, hk, rfl, hbel⟩ := hrel
      by_cases hlt : k < n
      · have hkl : k < l.length := by have := HL.out; omega
        have hc0 : wr.cell? ⟨b, off + k, none⟩ = some (.int .i64 l[k]) := (hbel.cell (p := ⟨b, off + k, none⟩) hb).trans (HC.out _ _ (i64s_at l k hkl))
        have hc2 : wr.cell? ⟨b2, off2 + k, none⟩ = some (.int .i64 l[k]) := (hbel.cell (p := ⟨b2, off2 + k, none⟩) hb2).trans (HC2.out _ _ (i64s_at l k hkl))
        generalize l[k] = a at *
        go_wp2
        go_quiet (fail)
        go_wp2
        go_roundw
        case rel => exact ⟨k + 1, by omega, by go_num, below_drewN hbel _⟩
        case measure => simp [intOf]; omega
      · go_wp2
        go_ret
        exact ⟨rfl, hbel⟩
  · obtain rfl : n = 0 := by omega
    clear h h2
    go_enter Try.func18, Try.ntmps18
    go_wp2
    refine wp_loop_rounds 1 ?_
    rw [rounds_succ]
    go_wp2
    go_ret
    exact ⟨rfl, Below.refl _ _⟩

end Go.Proofs.Ytlmpaelcnnnkfaa
