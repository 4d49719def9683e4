/-
  The reference's Same; the document's example.
-/
import Derived.Test.YtlobmefcpjjbcaaCodeH
import Derived.Test.YtlobmefcpjjbcaaInfo
import Derived.Test.YtlobmefcpjjbcaaCodeJ
import Derived.Laws.BytesArg
namespace Go.Proofs.Ytlobmefcpjjbcaa
open Go.RowKit
set_option linter.unusedVariables false
set_option linter.unusedSimpArgs false

set_option maxRecDepth 100000 in
set_option maxHeartbeats 800000 in
theorem Same_same (A A2 : Option Addr) (n c c2 : Nat) (l : List Int) (w : World) (h : Ints w A n c l) (h2 : Ints w A2 n c2 l) :
    Calls Try.prog 6 #[.slice A n c, .slice A2 n c2] w fun e w' => e = .returned (.bool true) ∧ Below w.heap.size w w' := by
  have hn := h.le
  by_cases hp : 0 < n
  · obtain ⟨b, off, rfl, hb, hcell⟩ := h.row.lit (by rw [i64s_length, h.len]; omega)
    obtain ⟨b2, off2, rfl, hb2, hcell2⟩ := h2.row.lit (by rw [i64s_length, h2.len]; omega)
    have HL := Lib.hid h.len
    have HC := Lib.hid hcell
    have HC2 := Lib.hid hcell2
    clear h h2 hcell hcell2
    go_enter Try.func6, Try.ntmps6
    go_wp2
    go_loopw [5] (fun i wr => ∃ k : Nat, k ≤ n ∧ i = .int .i64 k ∧ Below w.heap.size w wr) (fun i _ => n - (intOf i).toNat)
    case atStart => exact ⟨0, by omega, rfl, Below.refl _ _⟩
    case round =>
      obtain ⟨k, hk, rfl, hbel⟩ := hrel
      by_cases hlt : k < n
      · have hkl : k < l.length := by have := HL.out; omega
        have hc0 : wr.cell? ⟨b, off + k, none⟩ = some (.int .i64 l[k]) := (hbel.cell (p := ⟨b, off + k, none⟩) hb).trans (HC.out _ _ (i64s_at l k hkl))
        have hc2 : wr.cell? ⟨b2, off2 + k, none⟩ = some (.int .i64 l[k]) := (hbel.cell (p := ⟨b2, off2 + k, none⟩) hb2).trans (HC2.out _ _ (i64s_at l k hkl))
        generalize l[k] = a at *
        go_wp2
        go_quiet (fail)
        go_wp2
        go_roundw
        case rel => exact ⟨k + 1, by omega, by go_num, below_drewN hbel _⟩
        case measure => simp [intOf]; omega
      · go_wp2
        go_ret
        exact ⟨rfl, hbel⟩
  · obtain rfl : n = 0 := by omega
    clear h h2
    go_enter Try.func6, Try.ntmps6
    go_wp2
    refine wp_loop_rounds 1 ?_
    rw [rounds_succ]
    go_wp2
    go_ret
    exact ⟨rfl, Below.refl _ _⟩

end Go.Proofs.Ytlobmefcpjjbcaa
