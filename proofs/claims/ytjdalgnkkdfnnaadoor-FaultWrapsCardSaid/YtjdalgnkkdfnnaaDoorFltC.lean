/-
  fault.bare, fault.wrapped, errors.Unwrap.
-/
import Derived.Test.YtjdalgnkkdfnnaaDoorFltB
import Derived.Great.BuildSlice
namespace Go.Proofs.YtjdalgnkkdfnnaaDoor
open Go.RowKit
set_option linter.unusedVariables false
set_option linter.unusedSimpArgs false

section
variable (v : Value) (x : TypeId) (w : World)
theorem as_u_flt : (Instr.typeAssert (.iface 47 v) x 83 true).run Tryd.prog w = .ok (.tuple #[.iface 47 v, .bool true]) w := run_typeAssert_hasB Tryd.underlying83 (by kernel_rfl) v x w
theorem as_u_oth : (Instr.typeAssert (.iface 43 v) x 83 true).run Tryd.prog w = .ok (.tuple #[.iface 43 v, .bool true]) w := run_typeAssert_hasB Tryd.underlying83 (by kernel_rfl) v x w
theorem as_u_num : (Instr.typeAssert (.iface 34 v) x 83 true).run Tryd.prog w = .ok (.tuple #[.nilIface, .bool false]) w := run_typeAssert_lacksB Tryd.underlying83 (by kernel_rfl) (by kernel_rfl) v x w
theorem as_u_cov : (Instr.typeAssert (.iface 99 v) x 83 true).run Tryd.prog w = .ok (.tuple #[.nilIface, .bool false]) w := run_typeAssert_lacksB Tryd.underlying83 (by kernel_rfl) (by kernel_rfl) v x w
theorem as_m_flt : (Instr.typeAssert (.iface 47 v) x 94 true).run Tryd.prog w = .ok (.tuple #[.nilIface, .bool false]) w := run_typeAssert_lacksB Tryd.underlying94 (by kernel_rfl) (by kernel_rfl) v x w
theorem as_m_oth : (Instr.typeAssert (.iface 43 v) x 94 true).run Tryd.prog w = .ok (.tuple #[.nilIface, .bool false]) w := run_typeAssert_lacksB Tryd.underlying94 (by kernel_rfl) (by kernel_rfl) v x w
theorem as_m_num : (Instr.typeAssert (.iface 34 v) x 94 true).run Tryd.prog w = .ok (.tuple #[.nilIface, .bool false]) w := run_typeAssert_lacksB Tryd.underlying94 (by kernel_rfl) (by kernel_rfl) v x w
theorem as_m_cov : (Instr.typeAssert (.iface 99 v) x 94 true).run Tryd.prog w = .ok (.tuple #[.nilIface, .bool false]) w := run_typeAssert_lacksB Tryd.underlying94 (by kernel_rfl) (by kernel_rfl) v x w
theorem as_a_flt : (Instr.typeAssert (.iface 47 v) x 91 true).run Tryd.prog w = .ok (.tuple #[.nilIface, .bool false]) w := run_typeAssert_lacksB Tryd.underlying91 (by kernel_rfl) (by kernel_rfl) v x w
theorem as_a_oth : (Instr.typeAssert (.iface 43 v) x 91 true).run Tryd.prog w = .ok (.tuple #[.nilIface, .bool false]) w := run_typeAssert_lacksB Tryd.underlying91 (by kernel_rfl) (by kernel_rfl) v x w
theorem as_a_num : (Instr.typeAssert (.iface 34 v) x 91 true).run Tryd.prog w = .ok (.tuple #[.nilIface, .bool false]) w := run_typeAssert_lacksB Tryd.underlying91 (by kernel_rfl) (by kernel_rfl) v x w
theorem as_a_cov : (Instr.typeAssert (.iface 99 v) x 91 true).run Tryd.prog w = .ok (.tuple #[.iface 99 v, .bool true]) w := run_typeAssert_hasB Tryd.underlying91 (by kernel_rfl) v x w
theorem as_i_flt : (Instr.typeAssert (.iface 47 v) x 102 true).run Tryd.prog w = .ok (.tuple #[.nilIface, .bool false]) w := run_typeAssert_lacksB Tryd.underlying102 (by kernel_rfl) (by kernel_rfl) v x w
theorem as_i_oth : (Instr.typeAssert (.iface 43 v) x 102 true).run Tryd.prog w = .ok (.tuple #[.nilIface, .bool false]) w := run_typeAssert_lacksB Tryd.underlying102 (by kernel_rfl) (by kernel_rfl) v x w
theorem as_i_num : (Instr.typeAssert (.iface 34 v) x 102 true).run Tryd.prog w = .ok (.tuple #[.nilIface, .bool false]) w := run_typeAssert_lacksB Tryd.underlying102 (by kernel_rfl) (by kernel_rfl) v x w
theorem as_i_cov : (Instr.typeAssert (.iface 99 v) x 102 true).run Tryd.prog w = .ok (.tuple #[.iface 99 v, .bool true]) w := run_typeAssert_hasB Tryd.underlying102 (by kernel_rfl) v x w
end

/-- a value of an interface's type -/
def IsI (v : Value) : Prop := v = .nilIface ∨ ∃ t u, v = .iface t u
theorem isI_val (l : List Node) : IsI (val l) := by
  cases l with
  | nil => exact .inl rfl
  | cons x l => cases x <;> exact .inr ⟨_, _, rfl⟩
theorem isI_cells {v : Value} (h : IsI v) : v.cells = #[v] := by
  rcases h with rfl | ⟨t, u, rfl⟩ <;> rfl
theorem build_cover {v : Value} (hv : IsI v) (w : World) : (Instr.build 99 #[(0, v)]).run Tryd.prog w = .ok (.agg #[v]) w := by
  rcases hv with rfl | ⟨t, u, rfl⟩
  · exact run_build w _ _ _ (by kernel_rfl)
  · exact run_build w _ _ _ (by kernel_rfl)
theorem build_other {v : Value} (hv : IsI v) (w : World) : (Instr.build 43 #[(0, v)]).run Tryd.prog w = .ok (.agg #[v]) w := by
  rcases hv with rfl | ⟨t, u, rfl⟩
  · exact run_build w _ _ _ (by kernel_rfl)
  · exact run_build w _ _ _ (by kernel_rfl)
theorem build_fault (b : Int) {v : Value} (hv : IsI v) (w : World) : (Instr.build 51 #[(0, .int .i64 b), (1, v)]).run Tryd.prog w = .ok (.agg #[.int .i64 b, v]) w := by
  rcases hv with rfl | ⟨t, u, rfl⟩
  · exact run_build w _ _ _ (by kernel_rfl)
  · exact run_build w _ _ _ (by kernel_rfl)
theorem info_err : (Tryd.prog.info? 27).map (fun i => (i.zero, i.size, i.bytes)) = some (some .nilIface, 1, 16) := by kernel_rfl
theorem build_errs {v : Value} (hv : IsI v) (w : World) : (Instr.buildSlice 39 1 #[(0, v)]).run Tryd.prog w = .ok (.slice (some ⟨w.heap.size, 0, none⟩) 1 1) (w.alloc (.cells #[v] 27)) := by
  obtain ⟨i, hi, hz, hs, hb⟩ := info_parts info_err
  refine run_buildSlice w _ _ _ _ _ i .nilIface Tryd.underlying39 hi hz (by rw [hs]; decide) (by rw [hs]; decide) ?_
  rw [hs]
  rcases hv with rfl | ⟨t, u, rfl⟩
  · kernel_rfl
  · kernel_rfl

/-- what an error shows where what it wraps is hidden -/
def shown : List Node → Value
  | .num n :: _ => .iface 34 (.int .i64 n)
  | l => .iface 99 (.agg #[val l])

theorem bare_any (x : Node) (l : List Node) (w : World) :
    Calls Tryd.prog 41 #[val (x :: l)] w fun e w' => e = .returned (shown (x :: l)) ∧ w = w' := by
  have hb := build_cover (isI_val (x :: l))
  have a1 := as_u_flt
  have a2 := as_u_oth
  have a3 := as_u_num
  have a4 := as_m_flt
  have a5 := as_m_oth
  have a6 := as_m_num
  cases x with
  | flt b p =>
    simp only [val, shown] at hb ⊢
    go_enter Tryd.func41, Tryd.ntmps41
    go_wp2
    go_ret
    exact ⟨rfl, rfl⟩
  | oth =>
    simp only [val, shown] at hb ⊢
    generalize val l = v at *
    go_enter Tryd.func41, Tryd.ntmps41
    go_wp2
    go_ret
    exact ⟨rfl, rfl⟩
  | num n =>
    simp only [val, shown] at hb ⊢
    go_enter Tryd.func41, Tryd.ntmps41
    go_wp2
    go_ret
    exact ⟨rfl, rfl⟩

/-- Unwrap's answer -/
theorem unwrap_flt {b : Int} {p : Nat} {l : List Node} {w : World} (hg : Good w (.flt b p :: l)) :
    Calls Tryd.prog 83 #[.pointer (some ⟨p, 0, none⟩)] w fun e w' => e = .returned (val l) ∧ w = w' := by
  have hc : w.cell? ⟨p, 1, none⟩ = some (val l) := by rw [cell_of_row w p 1 _ _ _ hg.1]; rfl
  clear hg
  generalize val l = v at *
  go_enter Tryd.func83, Tryd.ntmps83
  go_wp2
  go_ret
  exact ⟨rfl, rfl⟩

theorem unwrap_oth (v : Value) (w : World) (hv : v.cells = #[v]) :
    Calls Tryd.prog 81 #[.agg #[v]] w fun e w' => e = .returned v ∧ Below w.heap.size w w' := by
  go_enter Tryd.func81, Tryd.ntmps81
  go_wp2
  go_ret
  exact ⟨rfl, (Below.refl _ _).alloc (Nat.le_refl _) _⟩
theorem method_flt (n : Nat) (v : Value) (w : World) : (Go.method (n + 1) 47 v "Unwrap").run Tryd.prog w = .ok (83, v) w := by kernel_rfl
theorem method_oth (n : Nat) (v : Value) (w : World) : (Go.method (n + 1) 43 (.agg #[v]) "Unwrap").run Tryd.prog w = .ok (81, .agg #[v]) w := by kernel_rfl

set_option maxRecDepth 100000 in
theorem wrapped_flt {b : Int} {p : Nat} {l : List Node} {w : World} (hg : Good w (.flt b p :: l)) :
    Calls Tryd.prog 42 #[val (.flt b p :: l)] w fun e w' => e = .returned (.slice (some ⟨w.heap.size, 0, none⟩) 1 1) ∧ w' = w.alloc (.cells #[val l] 27) := by
  have hu := unwrap_flt hg
  have hb := build_errs (isI_val l)
  have a1 := as_u_flt
  have m1 := method_flt
  simp only [val]
  have hI := isI_val l
  clear hg hb
  generalize val l = v at *
  rcases hI with rfl | ⟨t, u, rfl⟩
  all_goals go_enter Tryd.func42, Tryd.ntmps42
  all_goals go_wp2_with (go_at_call 83; refine hu.mono ?_; rintro e w' ⟨rfl, rfl⟩)
  all_goals go_ret
  all_goals exact ⟨rfl, rfl⟩

set_option maxRecDepth 100000 in
theorem wrapped_oth {l : List Node} (w : World) :
    Calls Tryd.prog 42 #[val (.oth :: l)] w fun e w' => ∃ g, e = .returned (.slice (some ⟨g, 0, none⟩) 1 1) ∧ Below w.heap.size w w' ∧ w.heap.size ≤ g ∧ w'.heap[g]? = some (.cells #[val l] 27 (0, 0)) := by
  have hu := fun W => unwrap_oth (val l) W (isI_cells (isI_val l))
  have hb := build_errs (isI_val l)
  have a1 := as_u_oth
  have m1 := method_oth
  simp only [val]
  have hI := isI_val l
  clear hb
  generalize val l = v at *
  rcases hI with rfl | ⟨t, u, rfl⟩
  all_goals go_enter Tryd.func42, Tryd.ntmps42
  all_goals go_wp2_with (go_at_call 81; refine (hu _).mono ?_; rintro e w1 ⟨rfl, b1⟩)
  all_goals go_ret
  all_goals exact ⟨_, rfl, b1.alloc b1.size _, b1.size, (MapKept.heap_alloc w1 _).1⟩

set_option maxRecDepth 100000 in
theorem wrapped_num (n : Int) (l : List Node) (w : World) :
    Calls Tryd.prog 42 #[val (.num n :: l)] w fun e w' => e = .returned (.slice none 0 0) ∧ w = w' := by
  have a1 := as_u_num
  have a2 := as_m_num
  simp only [val]
  go_enter Tryd.func42, Tryd.ntmps42
  go_wp2
  go_ret
  exact ⟨rfl, rfl⟩

/-- errors.Unwrap -/
theorem Unwrap_flt {b : Int} {p : Nat} {l : List Node} {w : World} (hg : Good w (.flt b p :: l)) :
    Calls Tryd.prog 33 #[val (.flt b p :: l)] w fun e w' => e = .returned (val l) ∧ w = w' := by
  have hu := unwrap_flt hg
  have a1 := as_u_flt
  have m1 := method_flt
  simp only [val]
  clear hg
  generalize val l = v at *
  go_enter Tryd.func33, Tryd.ntmps33
  go_wp2_with (go_at_call 83; refine hu.mono ?_; rintro e w' ⟨rfl, rfl⟩)
  go_ret
  exact ⟨rfl, rfl⟩
theorem Unwrap_oth {l : List Node} (w : World) :
    Calls Tryd.prog 33 #[val (.oth :: l)] w fun e w' => e = .returned (val l) ∧ Below w.heap.size w w' := by
  have hu := fun W => unwrap_oth (val l) W (isI_cells (isI_val l))
  have a1 := as_u_oth
  have m1 := method_oth
  simp only [val]
  generalize val l = v at *
  go_enter Tryd.func33, Tryd.ntmps33
  go_wp2_with (go_at_call 81; refine (hu _).mono ?_; rintro e w1 ⟨rfl, b1⟩)
  go_ret
  exact ⟨rfl, b1⟩
theorem Unwrap_num (n : Int) (l : List Node) (w : World) :
    Calls Tryd.prog 33 #[val (.num n :: l)] w fun e w' => e = .returned .nilIface ∧ w = w' := by
  have a1 := as_u_num
  simp only [val]
  go_enter Tryd.func33, Tryd.ntmps33
  go_wp2
  go_ret
  exact ⟨rfl, rfl⟩
end Go.Proofs.YtjdalgnkkdfnnaaDoor
