/-
  Joined: FltC.
-/
import Derived.Great.BuildSlice
import Derived.Test.YtnjlganofjkpfaaGreatDoorJBldA07
/-
  fault.bare, fault.wrapped, errors.Unwrap.
-/
namespace Go.Proofs.YtnjlganofjkpfaaGreatDoor
open Go.RowKit
set_option linter.unusedVariables false
set_option linter.unusedSimpArgs false

section
variable (v : Value) (x : TypeId) (w : World)
theorem as_u_flt : (Instr.typeAssert (.iface 116 v) x 131 true).run Tryz.prog w = .ok (.tuple #[.iface 116 v, .bool true]) w := run_typeAssert_hasB Tryz.underlying131 (by kernel_rfl) v x w
theorem as_u_num : (Instr.typeAssert (.iface 40 v) x 131 true).run Tryz.prog w = .ok (.tuple #[.nilIface, .bool false]) w := run_typeAssert_lacksB Tryz.underlying131 (by kernel_rfl) (by kernel_rfl) v x w
theorem as_u_cov : (Instr.typeAssert (.iface 134 v) x 131 true).run Tryz.prog w = .ok (.tuple #[.nilIface, .bool false]) w := run_typeAssert_lacksB Tryz.underlying131 (by kernel_rfl) (by kernel_rfl) v x w
theorem as_m_flt : (Instr.typeAssert (.iface 116 v) x 132 true).run Tryz.prog w = .ok (.tuple #[.nilIface, .bool false]) w := run_typeAssert_lacksB Tryz.underlying132 (by kernel_rfl) (by kernel_rfl) v x w
theorem as_m_num : (Instr.typeAssert (.iface 40 v) x 132 true).run Tryz.prog w = .ok (.tuple #[.nilIface, .bool false]) w := run_typeAssert_lacksB Tryz.underlying132 (by kernel_rfl) (by kernel_rfl) v x w
theorem as_m_cov : (Instr.typeAssert (.iface 134 v) x 132 true).run Tryz.prog w = .ok (.tuple #[.nilIface, .bool false]) w := run_typeAssert_lacksB Tryz.underlying132 (by kernel_rfl) (by kernel_rfl) v x w
theorem as_a_flt : (Instr.typeAssert (.iface 116 v) x 145 true).run Tryz.prog w = .ok (.tuple #[.nilIface, .bool false]) w := run_typeAssert_lacksB Tryz.underlying145 (by kernel_rfl) (by kernel_rfl) v x w
theorem as_a_cov : (Instr.typeAssert (.iface 134 v) x 145 true).run Tryz.prog w = .ok (.tuple #[.iface 134 v, .bool true]) w := run_typeAssert_hasB Tryz.underlying145 (by kernel_rfl) v x w
theorem as_i_num : (Instr.typeAssert (.iface 40 v) x 184 true).run Tryz.prog w = .ok (.tuple #[.nilIface, .bool false]) w := run_typeAssert_lacksB Tryz.underlying184 (by kernel_rfl) (by kernel_rfl) v x w
end

/-- a value of an interface's type -/
def IsI (v : Value) : Prop := v = .nilIface ∨ ∃ t u, v = .iface t u
theorem isI_val (l : List Node) : IsI (val l) := by
  cases l with
  | nil => exact .inl rfl
  | cons x l => cases x <;> exact .inr ⟨_, _, rfl⟩
theorem build_cover {v : Value} (hv : IsI v) (w : World) : (Instr.build 134 #[(0, v)]).run Tryz.prog w = .ok (.agg #[v]) w := by
  rcases hv with rfl | ⟨t, u, rfl⟩
  · exact run_build w _ _ _ (by kernel_rfl)
  · exact run_build w _ _ _ (by kernel_rfl)
theorem build_fault (b : Int) {v : Value} (hv : IsI v) (w : World) : (Instr.build 119 #[(0, .int .i64 b), (1, v)]).run Tryz.prog w = .ok (.agg #[.int .i64 b, v]) w := by
  rcases hv with rfl | ⟨t, u, rfl⟩
  · exact run_build w _ _ _ (by kernel_rfl)
  · exact run_build w _ _ _ (by kernel_rfl)
theorem info_err : (Tryz.prog.info? 37).map (fun i => (i.zero, i.size, i.bytes)) = some (some .nilIface, 1, 16) := by kernel_rfl
theorem build_errs {v : Value} (hv : IsI v) (w : World) : (Instr.buildSlice 97 1 #[(0, v)]).run Tryz.prog w = .ok (.slice (some ⟨w.heap.size, 0, none⟩) 1 1) (w.alloc (.cells #[v] 37)) := by
  obtain ⟨i, hi, hz, hs, hb⟩ := info_parts info_err
  refine run_buildSlice w _ _ _ _ _ i .nilIface Tryz.underlying97 hi hz (by rw [hs]; decide) (by rw [hs]; decide) ?_
  rw [hs]
  rcases hv with rfl | ⟨t, u, rfl⟩
  · kernel_rfl
  · kernel_rfl

/-- what an error shows where what it wraps is hidden -/
def shown : List Node → Value
  | .num n :: _ => .iface 40 (.int .i64 n)
  | l => .iface 134 (.agg #[val l])

set_option maxRecDepth 100000 in
theorem bare_any (x : Node) (l : List Node) (w : World) :
    Calls Tryz.prog 55 #[val (x :: l)] w fun e w' => e = .returned (shown (x :: l)) ∧ w = w' := by
  have hb := build_cover (isI_val (x :: l))
  have a1 := as_u_flt
  have a3 := as_u_num
  have a4 := as_m_flt
  have a6 := as_m_num
  cases x with
  | flt b p =>
    simp only [val, shown] at hb ⊢
    go_enter Tryz.func55, Tryz.ntmps55
    go_wp2
    go_ret
    exact ⟨rfl, rfl⟩
  | num n =>
    simp only [val, shown] at hb ⊢
    go_enter Tryz.func55, Tryz.ntmps55
    go_wp2
    go_ret
    exact ⟨rfl, rfl⟩

set_option maxRecDepth 100000 in
/-- Unwrap's answer -/
theorem unwrap_flt {b : Int} {p : Nat} {l : List Node} {w : World} (hg : Good w (.flt b p :: l)) :
    Calls Tryz.prog 145 #[.pointer (some ⟨p, 0, none⟩)] w fun e w' => e = .returned (val l) ∧ w = w' := by
  have hc : w.cell? ⟨p, 1, none⟩ = some (val l) := by rw [cell_of_row w p 1 _ _ _ hg.1]; rfl
  clear hg
  generalize val l = v at *
  go_enter Tryz.func145, Tryz.ntmps145
  go_wp2
  go_ret
  exact ⟨rfl, rfl⟩

theorem method_flt (n : Nat) (v : Value) (w : World) : (Go.method (n + 1) 116 v "Unwrap").run Tryz.prog w = .ok (145, v) w := by kernel_rfl
set_option maxRecDepth 100000 in
theorem wrapped_flt {b : Int} {p : Nat} {l : List Node} {w : World} (hg : Good w (.flt b p :: l)) :
    Calls Tryz.prog 56 #[val (.flt b p :: l)] w fun e w' => e = .returned (.slice (some ⟨w.heap.size, 0, none⟩) 1 1) ∧ w' = w.alloc (.cells #[val l] 37) := by
  have hu := unwrap_flt hg
  have hb := build_errs (isI_val l)
  have a1 := as_u_flt
  have m1 := method_flt
  simp only [val]
  have hI := isI_val l
  clear hg hb
  generalize val l = v at *
  rcases hI with rfl | ⟨t, u, rfl⟩
  all_goals go_enter Tryz.func56, Tryz.ntmps56
  all_goals go_wp2_with (go_at_call 145; refine hu.mono ?_; rintro e w' ⟨rfl, rfl⟩)
  all_goals go_ret
  all_goals exact ⟨rfl, rfl⟩

set_option maxRecDepth 100000 in
/-- errors.Unwrap -/
theorem Unwrap_flt {b : Int} {p : Nat} {l : List Node} {w : World} (hg : Good w (.flt b p :: l)) :
    Calls Tryz.prog 67 #[val (.flt b p :: l)] w fun e w' => e = .returned (val l) ∧ w = w' := by
  have hu := unwrap_flt hg
  have a1 := as_u_flt
  have m1 := method_flt
  simp only [val]
  clear hg
  generalize val l = v at *
  go_enter Tryz.func67, Tryz.ntmps67
  go_wp2_with (go_at_call 145; refine hu.mono ?_; rintro e w' ⟨rfl, rfl⟩)
  go_ret
  exact ⟨rfl, rfl⟩
set_option maxRecDepth 100000 in
theorem Unwrap_num (n : Int) (l : List Node) (w : World) :
    Calls Tryz.prog 67 #[val (.num n :: l)] w fun e w' => e = .returned .nilIface ∧ w = w' := by
  have a1 := as_u_num
  simp only [val]
  go_enter Tryz.func67, Tryz.ntmps67
  go_wp2
  go_ret
  exact ⟨rfl, rfl⟩
end Go.Proofs.YtnjlganofjkpfaaGreatDoor
