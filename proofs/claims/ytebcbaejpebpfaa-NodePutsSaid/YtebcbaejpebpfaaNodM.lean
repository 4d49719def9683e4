/-
  Layer 7: the reference's Right.
-/
import Derived.Test.YtebcbaejpebpfaaNodLawB
import Derived.Deep.RegionHeld3
import Derived.Deep.RegionWith
namespace Go.Proofs.Ytebcbaejpebpfaa
open Go.RowKit
set_option linter.unusedVariables false
set_option linter.unusedSimpArgs false

theorem BkN.facts {w0 w : World} {tree : Int} {leaf : Bool} {s1 s2 : Value} (h : BkN w0 w tree leaf s1 s2) : w.cell? ⟨w0.heap.size, 0, none⟩ = some (.int .i64 tree) ∧ w.cell? ⟨w0.heap.size, 1, none⟩ = some (.bool leaf) ∧ w.cell? ⟨w0.heap.size, 2, none⟩ = some s1 ∧ w.cell? ⟨w0.heap.size, 3, none⟩ = some s2 := ⟨h.node.c0, h.node.c1, h.node.c2, h.node.c3⟩

theorem bk_refw {w : World} {tree : Int} {leaf : Bool} {s1 s2 : Value} (ht : i64b tree) (wd : Nat) (hw : widN tree leaf = wd) (W : World) (hW : BkN w W tree leaf s1 s2) : Calls Try.prog 16 #[.int .i64 tree, .bool leaf] W fun e w' => e = .returned (.int .i64 (wd : Int)) ∧ BkN w w' tree leaf s1 s2 :=
  (refWidth_any tree leaf W wd hw ht).mono fun e w' ⟨h1, h2⟩ => ⟨h1, hW.later h2⟩
theorem bk_refm {w : World} {tree : Int} {leaf : Bool} {s1 s2 : Value} (ht : i64b tree) (mx : Nat) (hm : capN (widN tree leaf) = mx) (W : World) (hW : BkN w W tree leaf s1 s2) : Calls Try.prog 18 #[.int .i64 tree, .bool leaf] W fun e w' => e = .returned (.int .i64 (mx : Int)) ∧ BkN w w' tree leaf s1 s2 :=
  (refMax_any tree leaf W mx hm ht).mono fun e w' ⟨h1, h2⟩ => ⟨h1, hW.later h2⟩

theorem rightN_no {nd : Nod} (h : widN nd.tree nd.leaf = 0 ∨ capN (widN nd.tree nd.leaf) < nd.keys.length ∨ nd.vals.length ≠ nd.keys.length) : rightN nd = false := by
  rw [Bool.eq_false_iff]
  intro hr
  obtain ⟨h1, h2, h3, h4, h5, h6⟩ := rightN_iff.1 hr
  rcases h with h | h | h
  · exact h1 h
  · omega
  · exact h h3

theorem rightN_loop {nd : Nod} (h1 : widN nd.tree nd.leaf ≠ 0) (h2 : nd.keys.length ≤ capN (widN nd.tree nd.leaf)) (h3 : nd.vals.length = nd.keys.length) : rightN nd = (okN nd nd.keys.length && (nd.leaf || decide (0 < nd.keys.length))) := by
  rw [rightN_parts, holdsN, decide_eq_true (capN_pos.2 h1), decide_eq_true h2, decide_eq_true h3]
  simp [Bool.and_comm]

end Go.Proofs.Ytebcbaejpebpfaa
