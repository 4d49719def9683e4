/-
  Joined: FltC.
-/
import Derived.Great.BuildSlice
import Derived.Test.YtajeelbeochojaaGreatDoorJAlcB05
/-
  fault.bare, fault.wrapped, errors.Unwrap.
-/
namespace Go.Proofs.YtajeelbeochojaaGreatDoor
open Go.RowKit
set_option linter.unusedVariables false
set_option linter.unusedSimpArgs false

section
variable (v : Value) (x : TypeId) (w : World)
theorem as_u_flt : (Instr.typeAssert (.iface 92 v) x 126 true).run Tryz.prog w = .ok (.tuple #[.iface 92 v, .bool true]) w := run_typeAssert_hasB Tryz.underlying126 (by kernel_rfl) v x w
theorem as_u_num : (Instr.typeAssert (.iface 60 v) x 126 true).run Tryz.prog w = .ok (.tuple #[.nilIface, .bool false]) w := run_typeAssert_lacksB Tryz.underlying126 (by kernel_rfl) (by kernel_rfl) v x w
theorem as_u_cov : (Instr.typeAssert (.iface 143 v) x 126 true).run Tryz.prog w = .ok (.tuple #[.nilIface, .bool false]) w := run_typeAssert_lacksB Tryz.underlying126 (by kernel_rfl) (by kernel_rfl) v x w
theorem as_m_flt : (Instr.typeAssert (.iface 92 v) x 141 true).run Tryz.prog w = .ok (.tuple #[.nilIface, .bool false]) w := run_typeAssert_lacksB Tryz.underlying141 (by kernel_rfl) (by kernel_rfl) v x w
theorem as_m_num : (Instr.typeAssert (.iface 60 v) x 141 true).run Tryz.prog w = .ok (.tuple #[.nilIface, .bool false]) w := run_typeAssert_lacksB Tryz.underlying141 (by kernel_rfl) (by kernel_rfl) v x w
theorem as_m_cov : (Instr.typeAssert (.iface 143 v) x 141 true).run Tryz.prog w = .ok (.tuple #[.nilIface, .bool false]) w := run_typeAssert_lacksB Tryz.underlying141 (by kernel_rfl) (by kernel_rfl) v x w
theorem as_a_flt : (Instr.typeAssert (.iface 92 v) x 153 true).run Tryz.prog w = .ok (.tuple #[.nilIface, .bool false]) w := run_typeAssert_lacksB Tryz.underlying153 (by kernel_rfl) (by kernel_rfl) v x w
theorem as_a_cov : (Instr.typeAssert (.iface 143 v) x 153 true).run Tryz.prog w = .ok (.tuple #[.iface 143 v, .bool true]) w := run_typeAssert_hasB Tryz.underlying153 (by kernel_rfl) v x w
theorem as_i_num : (Instr.typeAssert (.iface 60 v) x 176 true).run Tryz.prog w = .ok (.tuple #[.nilIface, .bool false]) w := run_typeAssert_lacksB Tryz.underlying176 (by kernel_rfl) (by kernel_rfl) v x w
end

/-- a value of an interface's type -/
def IsI (v : Value) : Prop := v = .nilIface ∨ ∃ t u, v = .iface t u
theorem isI_val (l : List Node) : IsI (val l) := by
  cases l with
  | nil => exact .inl rfl
  | cons x l => cases x <;> exact .inr ⟨_, _, rfl⟩
theorem build_cover {v : Value} (hv : IsI v) (w : World) : (Instr.build 143 #[(0, v)]).run Tryz.prog w = .ok (.agg #[v]) w := by
  rcases hv with rfl | ⟨t, u, rfl⟩
  · exact run_build w _ _ _ (by kernel_rfl)
  · exact run_build w _ _ _ (by kernel_rfl)
theorem build_fault (b : Int) {v : Value} (hv : IsI v) (w : World) : (Instr.build 99 #[(0, .int .i64 b), (1, v)]).run Tryz.prog w = .ok (.agg #[.int .i64 b, v]) w := by
  rcases hv with rfl | ⟨t, u, rfl⟩
  · exact run_build w _ _ _ (by kernel_rfl)
  · exact run_build w _ _ _ (by kernel_rfl)
theorem info_err : (Tryz.prog.info? 32).map (fun i => (i.zero, i.size, i.bytes)) = some (some .nilIface, 1, 16) := by kernel_rfl
theorem build_errs {v : Value} (hv : IsI v) (w : World) : (Instr.buildSlice 111 1 #[(0, v)]).run Tryz.prog w = .ok (.slice (some ⟨w.heap.size, 0, none⟩) 1 1) (w.alloc (.cells #[v] 32)) := by
  obtain ⟨i, hi, hz, hs, hb⟩ := info_parts info_err
  refine run_buildSlice w _ _ _ _ _ i .nilIface Tryz.underlying111 hi hz (by rw [hs]; decide) (by rw [hs]; decide) ?_
  rw [hs]
  rcases hv with rfl | ⟨t, u, rfl⟩
  · kernel_rfl
  · kernel_rfl

/-- what an error shows where what it wraps is hidden -/
def shown : List Node → Value
  | .num n :: _ => .iface 60 (.int .i64 n)
  | l => .iface 143 (.agg #[val l])

set_option maxRecDepth 100000 in
theorem bare_any (x : Node) (l : List Node) (w : World) :
    Calls Tryz.prog 60 #[val (x :: l)] w fun e w' => e = .returned (shown (x :: l)) ∧ w = w' := by
  have hb := build_cover (isI_val (x :: l))
  have a1 := as_u_flt
  have a3 := as_u_num
  have a4 := as_m_flt
  have a6 := as_m_num
  cases x with
  | flt b p =>
    simp only [val, shown] at hb ⊢
    go_enter Tryz.func60, Tryz.ntmps60
    go_wp2
    go_ret
    exact ⟨rfl, rfl⟩
  | num n =>
    simp only [val, shown] at hb ⊢
    go_enter Tryz.func60, Tryz.ntmps60
    go_wp2
    go_ret
    exact ⟨rfl, rfl⟩

set_option maxRecDepth 100000 in
/-- Unwrap's answer -/
theorem unwrap_flt {b : Int} {p : Nat} {l : List Node} {w : World} (hg : Good w (.flt b p :: l)) :
    Calls Tryz.prog 132 #[.pointer (some ⟨p, 0, none⟩)] w fun e w' => e = .returned (val l) ∧ w = w' := by
  have hc : w.cell? ⟨p, 1, none⟩ = some (val l) := by rw [cell_of_row w p 1 _ _ _ hg.1]; rfl
  clear hg
  generalize val l = v at *
  go_enter Tryz.func132, Tryz.ntmps132
  go_wp2
  go_ret
  exact ⟨rfl, rfl⟩

theorem method_flt (n : Nat) (v : Value) (w : World) : (Go.method (n + 1) 92 v "Unwrap").run Tryz.prog w = .ok (132, v) w := by kernel_rfl
set_option maxRecDepth 100000 in
theorem wrapped_flt {b : Int} {p : Nat} {l : List Node} {w : World} (hg : Good w (.flt b p :: l)) :
    Calls Tryz.prog 61 #[val (.flt b p :: l)] w fun e w' => e = .returned (.slice (some ⟨w.heap.size, 0, none⟩) 1 1) ∧ w' = w.alloc (.cells #[val l] 32) := by
  have hu := unwrap_flt hg
  have hb := build_errs (isI_val l)
  have a1 := as_u_flt
  have m1 := method_flt
  simp only [val]
  have hI := isI_val l
  clear hg hb
  generalize val l = v at *
  rcases hI with rfl | ⟨t, u, rfl⟩
  all_goals go_enter Tryz.func61, Tryz.ntmps61
  all_goals go_wp2_with (go_at_call 132; refine hu.mono ?_; rintro e w' ⟨rfl, rfl⟩)
  all_goals go_ret
  all_goals exact ⟨rfl, rfl⟩

end Go.Proofs.YtajeelbeochojaaGreatDoor
