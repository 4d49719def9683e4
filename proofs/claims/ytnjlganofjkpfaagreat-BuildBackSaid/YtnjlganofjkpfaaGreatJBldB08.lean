/-
  Joined: FltC.
-/
import Derived.Great.BuildSlice
import Derived.Test.YtnjlganofjkpfaaGreatJBldB06
/-
  fault.bare, fault.wrapped, errors.Unwrap.
-/
namespace Go.Proofs.YtnjlganofjkpfaaGreat
open Go.RowKit
set_option linter.unusedVariables false
set_option linter.unusedSimpArgs false

section
variable (v : Value) (x : TypeId) (w : World)
theorem as_u_num : (Instr.typeAssert (.iface 49 v) x 171 true).run Tryz.prog w = .ok (.tuple #[.nilIface, .bool false]) w := run_typeAssert_lacksB Tryz.underlying171 (by kernel_rfl) (by kernel_rfl) v x w
theorem as_m_num : (Instr.typeAssert (.iface 49 v) x 173 true).run Tryz.prog w = .ok (.tuple #[.nilIface, .bool false]) w := run_typeAssert_lacksB Tryz.underlying173 (by kernel_rfl) (by kernel_rfl) v x w
theorem as_i_num : (Instr.typeAssert (.iface 49 v) x 168 true).run Tryz.prog w = .ok (.tuple #[.nilIface, .bool false]) w := run_typeAssert_lacksB Tryz.underlying168 (by kernel_rfl) (by kernel_rfl) v x w
end

/-- a value of an interface's type -/
def IsI (v : Value) : Prop := v = .nilIface ∨ ∃ t u, v = .iface t u
theorem isI_val (l : List Node) : IsI (val l) := by
  cases l with
  | nil => exact .inl rfl
  | cons x l => cases x <;> exact .inr ⟨_, _, rfl⟩
theorem build_fault (b : Int) {v : Value} (hv : IsI v) (w : World) : (Instr.build 114 #[(0, .int .i64 b), (1, v)]).run Tryz.prog w = .ok (.agg #[.int .i64 b, v]) w := by
  rcases hv with rfl | ⟨t, u, rfl⟩
  · exact run_build w _ _ _ (by kernel_rfl)
  · exact run_build w _ _ _ (by kernel_rfl)
end Go.Proofs.YtnjlganofjkpfaaGreat
