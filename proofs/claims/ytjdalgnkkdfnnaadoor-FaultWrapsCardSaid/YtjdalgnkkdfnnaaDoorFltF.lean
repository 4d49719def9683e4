/-
  errors.Is by contract.
-/
import Derived.Test.YtjdalgnkkdfnnaaDoorFltE
namespace Go.Proofs.YtjdalgnkkdfnnaaDoor
open Go.RowKit Go.Extern.Stop Go.Stop Go.Extern
set_option linter.unusedVariables false
set_option linter.unusedSimpArgs false

theorem rto_n (v : Value) (w : World) : (ReflectliteType.typeOf #[.iface 34 v]).run Tryd.prog w = .ok (typ 34) w := by kernel_rfl
theorem rcm_n (w : World) : (ReflectliteType.method (fun t => do Rtype.noPackHeld "Comparable" t; (fun a => Value.bool a.comparable) <$> typeInfo t) #[.agg #[hnd 34]]).run Tryd.prog w = .ok (.bool true) w := by kernel_rfl

theorem run_eql_num (a b : Int) (w : World) : (binOp .eql 27 (.iface 34 (.int .i64 a)) (.iface 34 (.int .i64 b))).run Tryd.prog w = .ok (.bool (a == b)) w := by
  obtain ⟨i, hi, hc⟩ := Option.map_eq_some_iff.1 comp_num
  have h : ∀ d : Nat, (Op.equalIn (d + 2) 27 (.iface 34 (.int .i64 a)) (.iface 34 (.int .i64 b))).run Tryd.prog w = .ok (a == b) w := fun d => by
    simp [Op.equalIn, run_underlying Tryd.underlying27, run_underlying Tryd.underlying34, typeInfo, hi, hc]
  simp only [binOp]
  simp [Op.equal, Op.maxDepth, h 9998]

set_option maxRecDepth 100000 in
set_option maxHeartbeats 4000000 in
theorem is_cov {l : List Node} (hl : Wraps l) (n : Int) (w : World) :
    Calls Tryd.prog 29 #[shown l, .iface 34 (.int .i64 n)] w fun e w' => e = .returned (.bool false) ∧ Below w.heap.size w w' := by
  rw [shown_wraps hl]
  have hcI := fun t W => coverIs_any hl t W
  have h10 := @run_callFunc_extern Tryd.prog 43 _ ReflectliteType.typeOf Tryd.func43 (by kernel_rfl) (by kernel_rfl) (by kernel_rfl) (by kernel_rfl)
  have h32 := @run_callFunc_extern Tryd.prog 90 _ (ReflectliteType.method fun t => do Rtype.noPackHeld "Comparable" t; pure (.bool (← typeInfo t).comparable)) Tryd.func90 (by kernel_rfl) (by kernel_rfl) (by kernel_rfl) (by kernel_rfl)
  have tO := rto_n
  have cO := rcm_n
  have mC := method_comp
  have mI := method_cIs
  have c1 := as_i_cov
  have c2 := as_u_cov
  have c3 := as_m_cov
  generalize val l = v at *
  have hq := run_eql_iface_types (P := Tryd.prog) 99 34 (.agg #[v]) (.int .i64 n) Tryd.underlying27 (by decide)
  simp only [typ, hnd] at *
  go_enter Tryd.func29, Tryd.ntmps29
  go_wp2_with (first | (go_at_call 100; refine (hcI _ _).mono ?_; rintro e w1 ⟨rfl, b1⟩) | go_in)
  refine wp_loop_rounds 1 ?_
  rw [rounds_succ]
  go_wp2_with (first | (go_at_call 100; refine (hcI _ _).mono ?_; rintro e w1 ⟨rfl, b1⟩) | go_in)
  go_ret
  exact ⟨rfl, b1⟩

set_option maxRecDepth 100000 in
set_option maxHeartbeats 4000000 in
theorem is_num (m n : Int) (w : World) :
    Calls Tryd.prog 29 #[.iface 34 (.int .i64 m), .iface 34 (.int .i64 n)] w fun e w' => e = .returned (.bool (m == n)) ∧ w = w' := by
  have h10 := @run_callFunc_extern Tryd.prog 43 _ ReflectliteType.typeOf Tryd.func43 (by kernel_rfl) (by kernel_rfl) (by kernel_rfl) (by kernel_rfl)
  have h32 := @run_callFunc_extern Tryd.prog 90 _ (ReflectliteType.method fun t => do Rtype.noPackHeld "Comparable" t; pure (.bool (← typeInfo t).comparable)) Tryd.func90 (by kernel_rfl) (by kernel_rfl) (by kernel_rfl) (by kernel_rfl)
  have tO := rto_n
  have cO := rcm_n
  have mC := method_comp
  have c1 := as_i_num
  have c2 := as_u_num
  have c3 := as_m_num
  have hq := run_eql_num m n
  simp only [typ, hnd] at *
  generalize hb : (m == n) = b at *
  clear hb
  cases b
  all_goals go_enter Tryd.func29, Tryd.ntmps29
  all_goals go_wp2
  all_goals refine wp_loop_rounds 1 ?_
  all_goals rw [rounds_succ]
  all_goals go_wp2
  all_goals go_ret
  all_goals exact ⟨rfl, rfl⟩
end Go.Proofs.YtjdalgnkkdfnnaaDoor
