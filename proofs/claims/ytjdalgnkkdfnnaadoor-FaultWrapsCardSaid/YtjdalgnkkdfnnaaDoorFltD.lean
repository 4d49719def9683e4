/-
  errors.As by contract, after the worked example Toyas: what it asks of internal/reflectlite.
-/
import Derived.Test.YtjdalgnkkdfnnaaDoorFltC
import Derived.RowKitTokens
namespace Go.Proofs.YtjdalgnkkdfnnaaDoor
open Go.RowKit Go.Extern.Stop Go.Stop Go.Extern
set_option linter.unusedVariables false
set_option linter.unusedSimpArgs false

/-- how many package-level variables there are: the types' handles' block -/
def GS : Nat := 4
/-- the handle of a type -/
def hnd (t : TypeId) : Value := .pointer (some ⟨GS, t, none⟩)
/-- reflectlite.Type of a type -/
def typ (t : TypeId) : Value := .iface 87 (.agg #[hnd t])

theorem method_kind (n : Nat) (t : TypeId) (w : World) : (Go.method (n + 1) 87 (.agg #[hnd t]) "Kind").run Tryd.prog w = .ok (76, hnd t) w := by kernel_rfl
theorem method_elem (n : Nat) (t : TypeId) (w : World) : (Go.method (n + 1) 87 (.agg #[hnd t]) "Elem").run Tryd.prog w = .ok (91, .agg #[hnd t]) w := by kernel_rfl
theorem method_impl (n : Nat) (t : TypeId) (w : World) : (Go.method (n + 1) 87 (.agg #[hnd t]) "Implements").run Tryd.prog w = .ok (92, .agg #[hnd t]) w := by kernel_rfl
theorem method_assign (n : Nat) (t : TypeId) (w : World) : (Go.method (n + 1) 87 (.agg #[hnd t]) "AssignableTo").run Tryd.prog w = .ok (89, .agg #[hnd t]) w := by kernel_rfl
theorem method_comp (n : Nat) (t : TypeId) (w : World) : (Go.method (n + 1) 87 (.agg #[hnd t]) "Comparable").run Tryd.prog w = .ok (90, .agg #[hnd t]) w := by kernel_rfl
theorem rlm (z : Sem Value) (f : TypeId → Addr → Nat → Nat → Sem Value) (v : Value) :
    ReflectliteValue.method z f #[v] = (do match ← ReflectliteValue.parts v with | none => z | some (t, a, fl) => f t a fl (fl % 32)) := rfl
theorem rls (v x : Value) : ReflectliteValue.set #[v, x] = (do
    let (some (dst, a, fl), some (src, b, _)) := (← ReflectliteValue.parts v, ← ReflectliteValue.parts x)
      | unsupported (.noEntry "extern/(internal/reflectlite.Value).Set.zeroValue")
    if fl / ReflectliteValue.flagAddr % 2 == 0 then unsupported (.noEntry "extern/(internal/reflectlite.Value).Set.unaddressable")
    let val ← loadVar src b
    if ← Rtype.directlyAssignable dst src then storeVar dst a val
    else if ← Rtype.implements dst src then
      if (← Rtype.kind src) == 20 then
        match val with
        | .nilIface => unsupported (.noEntry "extern/reflectlite: a nil value of one interface type handed on as a value of another")
        | _ => storeVar dst a val
      else storeVar dst a (.iface src val)
    else panicString ("reflectlite.Set: value of type " ++ (← Rtype.spelt src) ++ " is not assignable to type " ++ (← Rtype.spelt dst))
    pure (.tuple #[])) := rfl

/-! ### a target of type 65 -/
theorem rv_num (t : Addr) (w : World) : (ReflectliteValue.unpack (.iface 65 (.pointer (some t)))).run Tryd.prog w
    = .ok (.agg #[hnd 65, .pointer (some ⟨w.heap.size, 0, none⟩), .int .u64 150]) (w.alloc (.cells #[.pointer (some t)] 65)) := by kernel_rfl
theorem rt_num (a : Addr) (w : World) : (ReflectliteValue.methodAny (ReflectliteValue.valueError "reflectlite.Value.Type" 0) (fun t _ _ _ => ReflectliteType.toType t) #[.agg #[hnd 65, .pointer (some a), .int .u64 150]]).run Tryd.prog w
    = .ok (typ 65) w := by kernel_rfl
theorem rk_num (w : World) : ((ReflectliteType.abiMethod fun t => (fun a : Nat => Value.int IntKind.u8 (a : Int)) <$> Rtype.kind t) #[hnd 65]).run Tryd.prog w = .ok (.int .u8 22) w := by kernel_rfl
theorem rke_num (w : World) : ((ReflectliteType.abiMethod fun t => (fun a : Nat => Value.int IntKind.u8 (a : Int)) <$> Rtype.kind t) #[hnd 34]).run Tryd.prog w = .ok (.int .u8 2) w := by kernel_rfl
theorem rp_num (a : Addr) (w : World) : (ReflectliteValue.parts (.agg #[hnd 65, .pointer (some a), .int .u64 150])).run Tryd.prog w = .ok (some (65, a, 150)) w := by kernel_rfl
theorem rn_num (a p : Addr) (W : World) (ha : W.cell? a = some (.pointer (some p))) :
    (ReflectliteValue.method (ReflectliteValue.valueError "reflectlite.Value.IsNil" 0) ReflectliteValue.isNil #[.agg #[hnd 65, .pointer (some a), .int .u64 150]]).run Tryd.prog W = .ok (.bool false) W := by
  rw [rlm]
  simp only [Sem.run_bind, rp_num, Result.andThen]
  simp [ReflectliteValue.isNil, loadVar, isAgg, underlying, Tryd.underlying65, ha, Result.andThen]
theorem re_num (w : World) : (ReflectliteType.method ReflectliteType.elem #[.agg #[hnd 65]]).run Tryd.prog w = .ok (typ 34) w := by kernel_rfl
theorem ri_num (w : World) : (ReflectliteType.relation "Implements" ReflectliteType.implements_ #[.agg #[hnd 34], typ 27]).run Tryd.prog w = .ok (.bool true) w := by kernel_rfl
theorem reo_num (w : World) : (Rtype.elem? 65).run Tryd.prog w = .ok (some 34) w := by kernel_rfl
theorem rmk_num (p : Addr) (w : World) : (ReflectliteValue.mk 34 p ReflectliteValue.flagAddr).run Tryd.prog w = .ok (.agg #[hnd 34, .pointer (some p), .int .u64 386]) w := by kernel_rfl
theorem rev_num (a p : Addr) (W : World) (ha : W.cell? a = some (.pointer (some p))) :
    (ReflectliteValue.method (ReflectliteValue.valueError "reflectlite.Value.Elem" 0) ReflectliteValue.elem #[.agg #[hnd 65, .pointer (some a), .int .u64 150]]).run Tryd.prog W
      = .ok (.agg #[hnd 34, .pointer (some p), .int .u64 386]) W := by
  rw [rlm]
  simp only [Sem.run_bind, rp_num, Result.andThen]
  simp [ReflectliteValue.elem, loadVar, isAgg, underlying, Tryd.underlying65, ha, Result.andThen, reo_num, rmk_num]
theorem rto_num (v : Value) (w : World) : (ReflectliteType.typeOf #[.iface 34 v]).run Tryd.prog w = .ok (typ 34) w := by kernel_rfl
theorem ras_num (w : World) : (ReflectliteType.relation "AssignableTo" ReflectliteType.assignableTo #[.agg #[hnd 34], typ 34]).run Tryd.prog w = .ok (.bool true) w := by kernel_rfl
theorem rve_num (n : Int) (w : World) : (ReflectliteValue.unpack (.iface 34 (.int .i64 n))).run Tryd.prog w
    = .ok (.agg #[hnd 34, .pointer (some ⟨w.heap.size, 0, none⟩), .int .u64 130]) (w.alloc (.cells #[.int .i64 n] 34)) := by kernel_rfl
theorem rpa_num (a : Addr) (w : World) : (ReflectliteValue.parts (.agg #[hnd 34, .pointer (some a), .int .u64 386])).run Tryd.prog w = .ok (some (34, a, 386)) w := by kernel_rfl
theorem rpb_num (a : Addr) (w : World) : (ReflectliteValue.parts (.agg #[hnd 34, .pointer (some a), .int .u64 130])).run Tryd.prog w = .ok (some (34, a, 130)) w := by kernel_rfl
theorem rda_num (w : World) : (Rtype.directlyAssignable 34 34).run Tryd.prog w = .ok true w := by kernel_rfl
theorem rset_num (ta b : Addr) (n : Int) (old : Value) (W : World) (hb : W.cell? b = some (.int .i64 n)) (ht : W.cell? ta = some old) (hf : W.frozen? ta = false) :
    (ReflectliteValue.set #[.agg #[hnd 34, .pointer (some ta), .int .u64 386], .agg #[hnd 34, .pointer (some b), .int .u64 130]]).run Tryd.prog W
      = .ok (.tuple #[]) (W.setCell ta (.int .i64 n)) := by
  rw [rls]
  simp only [Sem.run_bind, rpa_num, rpb_num, Result.andThen]
  simp [ReflectliteValue.flagAddr, loadVar, isAgg, underlying, Tryd.underlying34, hb, Result.andThen, rda_num, storeVar, Value.cells, storeCells, Addr.add]
  rw [run_store Tryd.prog W ta _ _ (by rfl)]
  simp [ht, hf]

/-! ### a target of type 49 -/
theorem rv_flt (t : Addr) (w : World) : (ReflectliteValue.unpack (.iface 49 (.pointer (some t)))).run Tryd.prog w
    = .ok (.agg #[hnd 49, .pointer (some ⟨w.heap.size, 0, none⟩), .int .u64 150]) (w.alloc (.cells #[.pointer (some t)] 49)) := by kernel_rfl
theorem rt_flt (a : Addr) (w : World) : (ReflectliteValue.methodAny (ReflectliteValue.valueError "reflectlite.Value.Type" 0) (fun t _ _ _ => ReflectliteType.toType t) #[.agg #[hnd 49, .pointer (some a), .int .u64 150]]).run Tryd.prog w
    = .ok (typ 49) w := by kernel_rfl
theorem rk_flt (w : World) : ((ReflectliteType.abiMethod fun t => (fun a : Nat => Value.int IntKind.u8 (a : Int)) <$> Rtype.kind t) #[hnd 49]).run Tryd.prog w = .ok (.int .u8 22) w := by kernel_rfl
theorem rke_flt (w : World) : ((ReflectliteType.abiMethod fun t => (fun a : Nat => Value.int IntKind.u8 (a : Int)) <$> Rtype.kind t) #[hnd 47]).run Tryd.prog w = .ok (.int .u8 22) w := by kernel_rfl
theorem rp_flt (a : Addr) (w : World) : (ReflectliteValue.parts (.agg #[hnd 49, .pointer (some a), .int .u64 150])).run Tryd.prog w = .ok (some (49, a, 150)) w := by kernel_rfl
theorem rn_flt (a p : Addr) (W : World) (ha : W.cell? a = some (.pointer (some p))) :
    (ReflectliteValue.method (ReflectliteValue.valueError "reflectlite.Value.IsNil" 0) ReflectliteValue.isNil #[.agg #[hnd 49, .pointer (some a), .int .u64 150]]).run Tryd.prog W = .ok (.bool false) W := by
  rw [rlm]
  simp only [Sem.run_bind, rp_flt, Result.andThen]
  simp [ReflectliteValue.isNil, loadVar, isAgg, underlying, Tryd.underlying49, ha, Result.andThen]
theorem re_flt (w : World) : (ReflectliteType.method ReflectliteType.elem #[.agg #[hnd 49]]).run Tryd.prog w = .ok (typ 47) w := by kernel_rfl
theorem ri_flt (w : World) : (ReflectliteType.relation "Implements" ReflectliteType.implements_ #[.agg #[hnd 47], typ 27]).run Tryd.prog w = .ok (.bool true) w := by kernel_rfl
theorem reo_flt (w : World) : (Rtype.elem? 49).run Tryd.prog w = .ok (some 47) w := by kernel_rfl
theorem rmk_flt (p : Addr) (w : World) : (ReflectliteValue.mk 47 p ReflectliteValue.flagAddr).run Tryd.prog w = .ok (.agg #[hnd 47, .pointer (some p), .int .u64 406]) w := by kernel_rfl
theorem rev_flt (a p : Addr) (W : World) (ha : W.cell? a = some (.pointer (some p))) :
    (ReflectliteValue.method (ReflectliteValue.valueError "reflectlite.Value.Elem" 0) ReflectliteValue.elem #[.agg #[hnd 49, .pointer (some a), .int .u64 150]]).run Tryd.prog W
      = .ok (.agg #[hnd 47, .pointer (some p), .int .u64 406]) W := by
  rw [rlm]
  simp only [Sem.run_bind, rp_flt, Result.andThen]
  simp [ReflectliteValue.elem, loadVar, isAgg, underlying, Tryd.underlying49, ha, Result.andThen, reo_flt, rmk_flt]
theorem rto_flt (v : Value) (w : World) : (ReflectliteType.typeOf #[.iface 47 v]).run Tryd.prog w = .ok (typ 47) w := by kernel_rfl
theorem ras_flt (w : World) : (ReflectliteType.relation "AssignableTo" ReflectliteType.assignableTo #[.agg #[hnd 47], typ 47]).run Tryd.prog w = .ok (.bool true) w := by kernel_rfl
theorem rve_flt (e : Addr) (w : World) : (ReflectliteValue.unpack (.iface 47 (.pointer (some e)))).run Tryd.prog w
    = .ok (.agg #[hnd 47, .pointer (some ⟨w.heap.size, 0, none⟩), .int .u64 150]) (w.alloc (.cells #[.pointer (some e)] 47)) := by kernel_rfl
theorem rpa_flt (a : Addr) (w : World) : (ReflectliteValue.parts (.agg #[hnd 47, .pointer (some a), .int .u64 406])).run Tryd.prog w = .ok (some (47, a, 406)) w := by kernel_rfl
theorem rpb_flt (a : Addr) (w : World) : (ReflectliteValue.parts (.agg #[hnd 47, .pointer (some a), .int .u64 150])).run Tryd.prog w = .ok (some (47, a, 150)) w := by kernel_rfl
theorem rda_flt (w : World) : (Rtype.directlyAssignable 47 47).run Tryd.prog w = .ok true w := by kernel_rfl
theorem rset_flt (ta b : Addr) (e : Addr) (old : Value) (W : World) (hb : W.cell? b = some (.pointer (some e))) (ht : W.cell? ta = some old) (hf : W.frozen? ta = false) :
    (ReflectliteValue.set #[.agg #[hnd 47, .pointer (some ta), .int .u64 406], .agg #[hnd 47, .pointer (some b), .int .u64 150]]).run Tryd.prog W
      = .ok (.tuple #[]) (W.setCell ta (.pointer (some e))) := by
  rw [rls]
  simp only [Sem.run_bind, rpa_flt, rpb_flt, Result.andThen]
  simp [ReflectliteValue.flagAddr, loadVar, isAgg, underlying, Tryd.underlying47, hb, Result.andThen, rda_flt, storeVar, Value.cells, storeCells, Addr.add]
  rw [run_store Tryd.prog W ta _ _ (by rfl)]
  simp [ht, hf]
end Go.Proofs.YtjdalgnkkdfnnaaDoor
