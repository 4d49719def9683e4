/-
  Joined: FltD, FltE, FltF, FltG, FltH, FltI, FltJ.
-/
import Derived.RowKitTokens
import Derived.Test.YtnjlganofjkpfaaGreatDoorJBldA09
import Derived.LoopN
import Derived.LoopTactic
import Derived.OwnWalk
/-
  errors.As by contract, after the worked example Toyas: what it asks of internal/reflectlite.
-/
namespace Go.Proofs.YtnjlganofjkpfaaGreatDoor
open Go.RowKit Go.Extern.Stop Go.Stop Go.Extern
set_option linter.unusedVariables false
set_option linter.unusedSimpArgs false

/-- how many package-level variables there are: the types' handles' block -/
def GS : Nat := 1
/-- the handle of a type -/
def hnd (t : TypeId) : Value := .pointer (some ⟨GS, t, none⟩)
/-- reflectlite.Type of a type -/
def typ (t : TypeId) : Value := .iface 140 (.agg #[hnd t])

theorem method_kind (n : Nat) (t : TypeId) (w : World) : (Go.method (n + 1) 140 (.agg #[hnd t]) "Kind").run Tryz.prog w = .ok (136, hnd t) w := by kernel_rfl
theorem method_elem (n : Nat) (t : TypeId) (w : World) : (Go.method (n + 1) 140 (.agg #[hnd t]) "Elem").run Tryz.prog w = .ok (151, .agg #[hnd t]) w := by kernel_rfl
theorem method_impl (n : Nat) (t : TypeId) (w : World) : (Go.method (n + 1) 140 (.agg #[hnd t]) "Implements").run Tryz.prog w = .ok (152, .agg #[hnd t]) w := by kernel_rfl
theorem method_assign (n : Nat) (t : TypeId) (w : World) : (Go.method (n + 1) 140 (.agg #[hnd t]) "AssignableTo").run Tryz.prog w = .ok (149, .agg #[hnd t]) w := by kernel_rfl
theorem method_comp (n : Nat) (t : TypeId) (w : World) : (Go.method (n + 1) 140 (.agg #[hnd t]) "Comparable").run Tryz.prog w = .ok (150, .agg #[hnd t]) w := by kernel_rfl
theorem rlm (z : Sem Value) (f : TypeId → Addr → Nat → Nat → Sem Value) (v : Value) :
    ReflectliteValue.method z f #[v] = (do match ← ReflectliteValue.parts v with | none => z | some (t, a, fl) => f t a fl (fl % 32)) := rfl
theorem rls (v x : Value) : ReflectliteValue.set #[v, x] = (do
    let (some (dst, a, fl), some (src, b, _)) := (← ReflectliteValue.parts v, ← ReflectliteValue.parts x)
      | unsupported (.noEntry "extern/(internal/reflectlite.Value).Set.zeroValue")
    if fl / ReflectliteValue.flagAddr % 2 == 0 then unsupported (.noEntry "extern/(internal/reflectlite.Value).Set.unaddressable")
    let val ← loadVar src b
    if ← Rtype.directlyAssignable dst src then storeVar dst a val
    else if ← Rtype.implements dst src then
      if (← Rtype.kind src) == 20 then
        match val with
        | .nilIface => unsupported (.noEntry "extern/reflectlite: a nil value of one interface type handed on as a value of another")
        | _ => storeVar dst a val
      else storeVar dst a (.iface src val)
    else panicString ("reflectlite.Set: value of type " ++ (← Rtype.spelt src) ++ " is not assignable to type " ++ (← Rtype.spelt dst))
    pure (.tuple #[])) := rfl

/-! ### a target: a pointer to a number -/
theorem rv_num (t : Addr) (w : World) : (ReflectliteValue.unpack (.iface 72 (.pointer (some t)))).run Tryz.prog w
    = .ok (.agg #[hnd 72, .pointer (some ⟨w.heap.size, 0, none⟩), .int .u64 150]) (w.alloc (.cells #[.pointer (some t)] 72)) := by kernel_rfl
theorem rt_num (a : Addr) (w : World) : (ReflectliteValue.methodAny (ReflectliteValue.valueError "reflectlite.Value.Type" 0) (fun t _ _ _ => ReflectliteType.toType t) #[.agg #[hnd 72, .pointer (some a), .int .u64 150]]).run Tryz.prog w
    = .ok (typ 72) w := by kernel_rfl
theorem rk_num (w : World) : ((ReflectliteType.abiMethod fun t => (fun a : Nat => Value.int IntKind.u8 (a : Int)) <$> Rtype.kind t) #[hnd 72]).run Tryz.prog w = .ok (.int .u8 22) w := by kernel_rfl
theorem rke_num (w : World) : ((ReflectliteType.abiMethod fun t => (fun a : Nat => Value.int IntKind.u8 (a : Int)) <$> Rtype.kind t) #[hnd 40]).run Tryz.prog w = .ok (.int .u8 2) w := by kernel_rfl
theorem rp_num (a : Addr) (w : World) : (ReflectliteValue.parts (.agg #[hnd 72, .pointer (some a), .int .u64 150])).run Tryz.prog w = .ok (some (72, a, 150)) w := by kernel_rfl
theorem rn_num (a p : Addr) (W : World) (ha : W.cell? a = some (.pointer (some p))) :
    (ReflectliteValue.method (ReflectliteValue.valueError "reflectlite.Value.IsNil" 0) ReflectliteValue.isNil #[.agg #[hnd 72, .pointer (some a), .int .u64 150]]).run Tryz.prog W = .ok (.bool false) W := by
  rw [rlm]
  simp only [Sem.run_bind, rp_num, Result.andThen]
  simp [ReflectliteValue.isNil, loadVar, isAgg, underlying, Tryz.underlying72, ha, Result.andThen]
theorem re_num (w : World) : (ReflectliteType.method ReflectliteType.elem #[.agg #[hnd 72]]).run Tryz.prog w = .ok (typ 40) w := by kernel_rfl
theorem ri_num (w : World) : (ReflectliteType.relation "Implements" ReflectliteType.implements_ #[.agg #[hnd 40], typ 37]).run Tryz.prog w = .ok (.bool true) w := by kernel_rfl
theorem reo_num (w : World) : (Rtype.elem? 72).run Tryz.prog w = .ok (some 40) w := by kernel_rfl
theorem rmk_num (p : Addr) (w : World) : (ReflectliteValue.mk 40 p ReflectliteValue.flagAddr).run Tryz.prog w = .ok (.agg #[hnd 40, .pointer (some p), .int .u64 386]) w := by kernel_rfl
theorem rev_num (a p : Addr) (W : World) (ha : W.cell? a = some (.pointer (some p))) :
    (ReflectliteValue.method (ReflectliteValue.valueError "reflectlite.Value.Elem" 0) ReflectliteValue.elem #[.agg #[hnd 72, .pointer (some a), .int .u64 150]]).run Tryz.prog W
      = .ok (.agg #[hnd 40, .pointer (some p), .int .u64 386]) W := by
  rw [rlm]
  simp only [Sem.run_bind, rp_num, Result.andThen]
  simp [ReflectliteValue.elem, loadVar, isAgg, underlying, Tryz.underlying72, ha, Result.andThen, reo_num, rmk_num]
theorem rto_num (v : Value) (w : World) : (ReflectliteType.typeOf #[.iface 40 v]).run Tryz.prog w = .ok (typ 40) w := by kernel_rfl
theorem ras_num (w : World) : (ReflectliteType.relation "AssignableTo" ReflectliteType.assignableTo #[.agg #[hnd 40], typ 40]).run Tryz.prog w = .ok (.bool true) w := by kernel_rfl
theorem rve_num (n : Int) (w : World) : (ReflectliteValue.unpack (.iface 40 (.int .i64 n))).run Tryz.prog w
    = .ok (.agg #[hnd 40, .pointer (some ⟨w.heap.size, 0, none⟩), .int .u64 130]) (w.alloc (.cells #[.int .i64 n] 40)) := by kernel_rfl
theorem rpa_num (a : Addr) (w : World) : (ReflectliteValue.parts (.agg #[hnd 40, .pointer (some a), .int .u64 386])).run Tryz.prog w = .ok (some (40, a, 386)) w := by kernel_rfl
theorem rpb_num (a : Addr) (w : World) : (ReflectliteValue.parts (.agg #[hnd 40, .pointer (some a), .int .u64 130])).run Tryz.prog w = .ok (some (40, a, 130)) w := by kernel_rfl
theorem rda_num (w : World) : (Rtype.directlyAssignable 40 40).run Tryz.prog w = .ok true w := by kernel_rfl
theorem rset_num (ta b : Addr) (n : Int) (old : Value) (W : World) (hb : W.cell? b = some (.int .i64 n)) (ht : W.cell? ta = some old) (hf : W.frozen? ta = false) :
    (ReflectliteValue.set #[.agg #[hnd 40, .pointer (some ta), .int .u64 386], .agg #[hnd 40, .pointer (some b), .int .u64 130]]).run Tryz.prog W
      = .ok (.tuple #[]) (W.setCell ta (.int .i64 n)) := by
  rw [rls]
  simp only [Sem.run_bind, rpa_num, rpb_num, Result.andThen]
  simp [ReflectliteValue.flagAddr, loadVar, isAgg, underlying, Tryz.underlying40, hb, Result.andThen, rda_num, storeVar, Value.cells, storeCells, Addr.add]
  rw [run_store Tryz.prog W ta _ _ (by rfl)]
  simp [ht, hf]

/-! ### a target: a pointer to a pointer to a Fault -/
end Go.Proofs.YtnjlganofjkpfaaGreatDoor

/-
  errors.As and errors.Is by contract: at an error that hides what it wraps, and at a number.
-/
namespace Go.Proofs.YtnjlganofjkpfaaGreatDoor
open Go.RowKit Go.Extern.Stop Go.Stop Go.Extern
set_option linter.unusedVariables false
set_option linter.unusedSimpArgs false

theorem method_cAs (n : Nat) (v : Value) (w : World) : (Go.method (n + 1) 134 (.agg #[v]) "As").run Tryz.prog w = .ok (146, .agg #[v]) w := by kernel_rfl
/-- an error that wraps: a Fault, or one of another kind -/
def Wraps : List Node → Prop
  | .flt _ _ :: _ => True
  | _ => False

set_option maxRecDepth 100000 in
theorem coverAs_any {l : List Node} (hl : Wraps l) (t : Value) (w : World) :
    Calls Tryz.prog 146 #[.agg #[val l], t] w fun e w' => e = .returned (.bool false) ∧ Below w.heap.size w w' := by
  have a1 := as_a_flt
  match l, hl with
  | .flt b p :: l, _ =>
    simp only [val]
    go_enter Tryz.func146, Tryz.ntmps146
    go_wp2
    go_ret
    exact ⟨rfl, (Below.refl _ _).alloc (Nat.le_refl _) _⟩

theorem shown_wraps {l : List Node} (hl : Wraps l) : shown l = .iface 134 (.agg #[val l]) := by
  match l, hl with
  | .flt b p :: l, _ => rfl


theorem rto_cov (v : Value) (w : World) : (ReflectliteType.typeOf #[.iface 134 v]).run Tryz.prog w = .ok (typ 134) w := by kernel_rfl
theorem ras_cov (w : World) : (ReflectliteType.relation "AssignableTo" ReflectliteType.assignableTo #[.agg #[hnd 134], typ 40]).run Tryz.prog w = .ok (.bool false) w := by kernel_rfl

theorem below3 (w : World) (a b c : Obj) : Below w.heap.size w (((w.alloc a).alloc b).alloc c) :=
  (((Below.refl w.heap.size w).alloc (Nat.le_refl _) a).alloc (by simp) b).alloc (by simp; omega) c

/-- the variable errors.errorType is what its initialiser lays -/
def ErrT (w : World) : Prop := w.cell? ⟨0, 0, none⟩ = some (typ 37)
theorem ErrT.later {w w' : World} (h : ErrT w) (hb : Below w.heap.size w w') : ErrT w' := (hb.cell (p := ⟨0, 0, none⟩) (cell_lt h)).trans h

set_option maxRecDepth 100000 in
set_option maxHeartbeats 4000000 in
theorem as_cov {l : List Node} (hl : Wraps l) (t : Addr) (w : World) (hg : ErrT w) :
    Calls Tryz.prog 32 #[shown l, .iface 72 (.pointer (some t))] w fun e w' => e = .returned (.bool false) ∧ Below w.heap.size w w' := by
  rw [shown_wraps hl]
  have hcA := fun t W => coverAs_any hl t W
  have h6 := @run_callFunc_extern Tryz.prog 57 _ (fun args => ReflectliteValue.unpack (args.getD 0 (.tuple #[]))) Tryz.func57 (by kernel_rfl) (by kernel_rfl) (by kernel_rfl) (by kernel_rfl)
  have h7 := @run_callFunc_extern Tryz.prog 58 _ (ReflectliteValue.methodAny (ReflectliteValue.valueError "reflectlite.Value.Type" 0) (fun t _ _ _ => ReflectliteType.toType t)) Tryz.func58 (by kernel_rfl) (by kernel_rfl) (by kernel_rfl) (by kernel_rfl)
  have h8 := @run_callFunc_extern Tryz.prog 59 _ (ReflectliteValue.method (ReflectliteValue.valueError "reflectlite.Value.IsNil" 0) ReflectliteValue.isNil) Tryz.func59 (by kernel_rfl) (by kernel_rfl) (by kernel_rfl) (by kernel_rfl)
  have h27 := @run_callFunc_extern Tryz.prog 136 _ (ReflectliteType.abiMethod fun t => do pure (.int .u8 (← Rtype.kind t))) Tryz.func136 (by kernel_rfl) (by kernel_rfl) (by kernel_rfl) (by kernel_rfl)
  have h37 := @run_callFunc_extern Tryz.prog 151 _ (ReflectliteType.method ReflectliteType.elem) Tryz.func151 (by kernel_rfl) (by kernel_rfl) (by kernel_rfl) (by kernel_rfl)
  have h38 := @run_callFunc_extern Tryz.prog 152 _ (ReflectliteType.relation "Implements" ReflectliteType.implements_) Tryz.func152 (by kernel_rfl) (by kernel_rfl) (by kernel_rfl) (by kernel_rfl)
  have h10 := @run_callFunc_extern Tryz.prog 78 _ ReflectliteType.typeOf Tryz.func78 (by kernel_rfl) (by kernel_rfl) (by kernel_rfl) (by kernel_rfl)
  have h35 := @run_callFunc_extern Tryz.prog 149 _ (ReflectliteType.relation "AssignableTo" ReflectliteType.assignableTo) Tryz.func149 (by kernel_rfl) (by kernel_rfl) (by kernel_rfl) (by kernel_rfl)
  have tO := rto_cov
  have mA := method_assign
  have aC := ras_cov
  have f6 := rv_num
  have f7 := rt_num
  have mK := method_kind
  have mE := method_elem
  have mI := method_impl
  have mC := method_cAs
  have k27 := rk_num
  have k25 := rke_num
  have e27 := re_num
  have i25 := ri_num
  have c1 := as_a_cov
  have c2 := as_u_cov
  have c3 := as_m_cov
  have hlt : 0 < w.heap.size := cell_lt hg
  generalize val l = v at *
  have n8 := rn_num ⟨w.heap.size, 0, none⟩ t ((w.alloc (.cells #[.pointer (some t)] 72)).alloc (.cells #[hnd 72, .pointer (some ⟨w.heap.size, 0, none⟩), .int .u64 150] 104)) (by simp)
  have hg2 : ((w.alloc (.cells #[.pointer (some t)] 72)).alloc (.cells #[hnd 72, .pointer (some ⟨w.heap.size, 0, none⟩), .int .u64 150] 104)).cell? ⟨0, 0, none⟩ = some (typ 37) := by
    rw [World.cell?_alloc_lt _ _ ⟨0, 0, none⟩ (by simp), World.cell?_alloc_lt _ _ ⟨0, 0, none⟩ hlt]; exact hg
  clear hg
  simp only [typ, hnd] at *
  go_enter Tryz.func32, Tryz.ntmps32
  go_wp2_with (first | (go_at_call 146; refine (hcA _ _).mono ?_; rintro e w1 ⟨rfl, b1⟩) | go_in)
  refine wp_loop_rounds 1 ?_
  rw [rounds_succ]
  go_wp2_with (first | (go_at_call 146; refine (hcA _ _).mono ?_; rintro e w1 ⟨rfl, b1⟩) | go_in)
  go_ret
  exact ⟨rfl, Below.trans (below3 w _ _ _) (b1.mono (by simp; omega))⟩

set_option maxRecDepth 100000 in
set_option maxHeartbeats 4000000 in
theorem as_num (n : Int) (t : Addr) (old : Value) (w : World) (hg : ErrT w) (ht0 : w.cell? t = some old) (hf0 : w.frozen? t = false) :
    Calls Tryz.prog 32 #[.iface 40 (.int .i64 n), .iface 72 (.pointer (some t))] w fun e w' => e = .returned (.bool true) ∧ ∃ w1, w' = w1.setCell t (.int .i64 n) ∧ Below w.heap.size w w1 := by
  have h6 := @run_callFunc_extern Tryz.prog 57 _ (fun args => ReflectliteValue.unpack (args.getD 0 (.tuple #[]))) Tryz.func57 (by kernel_rfl) (by kernel_rfl) (by kernel_rfl) (by kernel_rfl)
  have h7 := @run_callFunc_extern Tryz.prog 58 _ (ReflectliteValue.methodAny (ReflectliteValue.valueError "reflectlite.Value.Type" 0) (fun t _ _ _ => ReflectliteType.toType t)) Tryz.func58 (by kernel_rfl) (by kernel_rfl) (by kernel_rfl) (by kernel_rfl)
  have h8 := @run_callFunc_extern Tryz.prog 59 _ (ReflectliteValue.method (ReflectliteValue.valueError "reflectlite.Value.IsNil" 0) ReflectliteValue.isNil) Tryz.func59 (by kernel_rfl) (by kernel_rfl) (by kernel_rfl) (by kernel_rfl)
  have h27 := @run_callFunc_extern Tryz.prog 136 _ (ReflectliteType.abiMethod fun t => do pure (.int .u8 (← Rtype.kind t))) Tryz.func136 (by kernel_rfl) (by kernel_rfl) (by kernel_rfl) (by kernel_rfl)
  have h37 := @run_callFunc_extern Tryz.prog 151 _ (ReflectliteType.method ReflectliteType.elem) Tryz.func151 (by kernel_rfl) (by kernel_rfl) (by kernel_rfl) (by kernel_rfl)
  have h38 := @run_callFunc_extern Tryz.prog 152 _ (ReflectliteType.relation "Implements" ReflectliteType.implements_) Tryz.func152 (by kernel_rfl) (by kernel_rfl) (by kernel_rfl) (by kernel_rfl)
  have h10 := @run_callFunc_extern Tryz.prog 78 _ ReflectliteType.typeOf Tryz.func78 (by kernel_rfl) (by kernel_rfl) (by kernel_rfl) (by kernel_rfl)
  have h35 := @run_callFunc_extern Tryz.prog 149 _ (ReflectliteType.relation "AssignableTo" ReflectliteType.assignableTo) Tryz.func149 (by kernel_rfl) (by kernel_rfl) (by kernel_rfl) (by kernel_rfl)
  have h11 := @run_callFunc_extern Tryz.prog 79 _ (ReflectliteValue.method (ReflectliteValue.valueError "reflectlite.Value.Elem" 0) ReflectliteValue.elem) Tryz.func79 (by kernel_rfl) (by kernel_rfl) (by kernel_rfl) (by kernel_rfl)
  have h12 := @run_callFunc_extern Tryz.prog 80 _ ReflectliteValue.set Tryz.func80 (by kernel_rfl) (by kernel_rfl) (by kernel_rfl) (by kernel_rfl)
  have tO := rto_num
  have mA := method_assign
  have aC := ras_num
  have v25 := rve_num
  have f6 := rv_num
  have f7 := rt_num
  have mK := method_kind
  have mE := method_elem
  have mI := method_impl
  have k27 := rk_num
  have k25 := rke_num
  have e27 := re_num
  have i25 := ri_num
  have hlt : 0 < w.heap.size := cell_lt hg
  have htl : t.block < w.heap.size := cell_lt ht0
  have n8 := rn_num ⟨w.heap.size, 0, none⟩ t ((w.alloc (.cells #[.pointer (some t)] 72)).alloc (.cells #[hnd 72, .pointer (some ⟨w.heap.size, 0, none⟩), .int .u64 150] 104)) (by simp)
  have hg2 : ((w.alloc (.cells #[.pointer (some t)] 72)).alloc (.cells #[hnd 72, .pointer (some ⟨w.heap.size, 0, none⟩), .int .u64 150] 104)).cell? ⟨0, 0, none⟩ = some (typ 37) := by
    rw [World.cell?_alloc_lt _ _ ⟨0, 0, none⟩ (by simp), World.cell?_alloc_lt _ _ ⟨0, 0, none⟩ hlt]; exact hg
  have el := rev_num ⟨w.heap.size, 0, none⟩ t (((w.alloc (.cells #[.pointer (some t)] 72)).alloc (.cells #[hnd 72, .pointer (some ⟨w.heap.size, 0, none⟩), .int .u64 150] 104)).alloc (.cells #[hnd 72, .pointer (some ⟨w.heap.size, 0, none⟩), .int .u64 150] 104)) (by rw [World.cell?_alloc_lt _ _ ⟨w.heap.size, 0, none⟩ (by simp; omega)]; simp)
  have st := rset_num t ⟨w.heap.size + 1 + 1 + 1, 0, none⟩ n old ((((w.alloc (.cells #[.pointer (some t)] 72)).alloc (.cells #[hnd 72, .pointer (some ⟨w.heap.size, 0, none⟩), .int .u64 150] 104)).alloc (.cells #[hnd 72, .pointer (some ⟨w.heap.size, 0, none⟩), .int .u64 150] 104)).alloc (.cells #[.int .i64 n] 40))
    (by rw [World.cell?_alloc_at _ _ _ _ (by simp)]; rfl)
    (by rw [World.cell?_alloc_lt _ _ t (by simp; omega), World.cell?_alloc_lt _ _ t (by simp; omega), World.cell?_alloc_lt _ _ t (by simp; omega), World.cell?_alloc_lt _ _ t htl]; exact ht0)
    (by rw [World.frozen?_alloc_old _ _ t (by simp; omega), World.frozen?_alloc_old _ _ t (by simp; omega), World.frozen?_alloc_old _ _ t (by simp; omega), World.frozen?_alloc_old _ _ t (Nat.ne_of_lt htl)]; exact hf0)
  clear hg
  simp only [typ, hnd] at *
  go_enter Tryz.func32, Tryz.ntmps32
  go_wp2
  refine wp_loop_rounds 1 ?_
  rw [rounds_succ]
  go_wp2
  go_ret
  exact ⟨rfl, _, rfl, (below3 w _ _ _).alloc (by simp; omega) _⟩

end Go.Proofs.YtnjlganofjkpfaaGreatDoor

/-
  errors.Is by contract.
-/
namespace Go.Proofs.YtnjlganofjkpfaaGreatDoor
open Go.RowKit Go.Extern.Stop Go.Stop Go.Extern
set_option linter.unusedVariables false
set_option linter.unusedSimpArgs false

theorem rto_n (v : Value) (w : World) : (ReflectliteType.typeOf #[.iface 40 v]).run Tryz.prog w = .ok (typ 40) w := by kernel_rfl
theorem rcm_n (w : World) : (ReflectliteType.method (fun t => do Rtype.noPackHeld "Comparable" t; (fun a => Value.bool a.comparable) <$> typeInfo t) #[.agg #[hnd 40]]).run Tryz.prog w = .ok (.bool true) w := by kernel_rfl

theorem run_eql_num (a b : Int) (w : World) : (binOp .eql 37 (.iface 40 (.int .i64 a)) (.iface 40 (.int .i64 b))).run Tryz.prog w = .ok (.bool (a == b)) w := by
  obtain ⟨i, hi, hc⟩ := Option.map_eq_some_iff.1 comp_num
  have h : ∀ d : Nat, (Op.equalIn (d + 2) 37 (.iface 40 (.int .i64 a)) (.iface 40 (.int .i64 b))).run Tryz.prog w = .ok (a == b) w := fun d => by
    simp [Op.equalIn, run_underlying Tryz.underlying37, run_underlying Tryz.underlying40, typeInfo, hi, hc]
  simp only [binOp]
  simp [Op.equal, Op.maxDepth, h 9998]

set_option maxRecDepth 100000 in
set_option maxHeartbeats 4000000 in
theorem is_num (m n : Int) (w : World) :
    Calls Tryz.prog 112 #[.iface 40 (.int .i64 m), .iface 40 (.int .i64 n)] w fun e w' => e = .returned (.bool (m == n)) ∧ w = w' := by
  have h10 := @run_callFunc_extern Tryz.prog 78 _ ReflectliteType.typeOf Tryz.func78 (by kernel_rfl) (by kernel_rfl) (by kernel_rfl) (by kernel_rfl)
  have h32 := @run_callFunc_extern Tryz.prog 150 _ (ReflectliteType.method fun t => do Rtype.noPackHeld "Comparable" t; pure (.bool (← typeInfo t).comparable)) Tryz.func150 (by kernel_rfl) (by kernel_rfl) (by kernel_rfl) (by kernel_rfl)
  have tO := rto_n
  have cO := rcm_n
  have mC := method_comp
  have c1 := as_i_num
  have c2 := as_u_num
  have c3 := as_m_num
  have hq := run_eql_num m n
  simp only [typ, hnd] at *
  generalize hb : (m == n) = b at *
  clear hb
  cases b
  all_goals go_enter Tryz.func112, Tryz.ntmps112
  all_goals go_wp2
  all_goals refine wp_loop_rounds 1 ?_
  all_goals rw [rounds_succ]
  all_goals go_wp2
  all_goals go_ret
  all_goals exact ⟨rfl, rfl⟩
end Go.Proofs.YtnjlganofjkpfaaGreatDoor

/-
  fault.find's parts: the two looks, and what an error wraps.
-/
namespace Go.Proofs.YtnjlganofjkpfaaGreatDoor
open Go.RowKit
set_option linter.unusedVariables false
set_option linter.unusedSimpArgs false

set_option maxRecDepth 100000 in
/-- Code's look, where something is wrapped -/
theorem lookC_cov {l : List Node} (hl : Wraps l) (c : Nat) (w : World) (hg : ErrT w) :
    Calls Tryz.prog 31 #[shown l, .pointer (some ⟨c, 0, none⟩)] w fun e w' => e = .returned (.bool false) ∧ Below w.heap.size w w' := by
  have C := as_cov hl ⟨c, 0, none⟩ w hg
  generalize shown l = v at *
  go_enter Tryz.func31, Tryz.ntmps31
  go_wp2_with (go_at_call 32; refine C.mono ?_; rintro e w1 ⟨rfl, b1⟩)
  go_ret
  exact ⟨rfl, b1⟩

set_option maxRecDepth 100000 in
theorem lookC_num (n : Int) (l : List Node) (c : Nat) (old : Value) (w : World) (hg : ErrT w) (hc : w.cell? ⟨c, 0, none⟩ = some old) (hf : w.frozen? ⟨c, 0, none⟩ = false) :
    Calls Tryz.prog 31 #[shown (.num n :: l), .pointer (some ⟨c, 0, none⟩)] w fun e w' => e = .returned (.bool true) ∧ ∃ w1, w' = w1.setCell ⟨c, 0, none⟩ (.int .i64 n) ∧ Below w.heap.size w w1 := by
  have C := as_num n ⟨c, 0, none⟩ old w hg hc hf
  simp only [shown]
  clear hg hc hf
  go_enter Tryz.func31, Tryz.ntmps31
  go_wp2_with (go_at_call 32; refine C.mono ?_; rintro e w1 ⟨rfl, b1⟩)
  go_ret
  exact ⟨rfl, b1⟩

theorem wrapped_any {x : Node} {l : List Node} {w : World} (hl : Wraps (x :: l)) (hg : Good w (x :: l)) :
    Calls Tryz.prog 56 #[val (x :: l)] w fun e w' => ∃ g, e = .returned (.slice (some ⟨g, 0, none⟩) 1 1) ∧ Below w.heap.size w w' ∧ w'.heap[g]? = some (.cells #[val l] 37 (0, 0)) := by
  cases x with
  | flt b p =>
    refine (wrapped_flt hg).mono ?_
    rintro e w' ⟨rfl, rfl⟩
    exact ⟨_, rfl, (Below.refl _ _).alloc (Nat.le_refl _) _, (MapKept.heap_alloc w _).1⟩
  | num n => exact hl.elim

/-- the number that an error is or wraps -/
def ans : List Node → Option Int
  | [] => none
  | .num n :: _ => some n
  | _ :: l => ans l
theorem ans_wraps {x : Node} {l : List Node} (hl : Wraps (x :: l)) : ans (x :: l) = ans l := by
  cases x with
  | flt b p => rfl
  | num n => exact hl.elim

theorem one_src {w : World} {g : Nat} {v : Value} {t : TypeId} (h : w.heap[g]? = some (.cells #[v] t (0, 0))) : ∀ j u, [v][j]? = some u → w.cell? ((⟨g, 0, none⟩ : Addr).add j) = some u := fun j u hj => by
  match j, hj with
  | 0, hj =>
    simp at hj
    subst hj
    show w.cell? ⟨g, 0, none⟩ = _
    rw [cell_of_row _ g 0 _ _ _ h]; rfl
theorem one_is {v : Value} (h : IsI v) : ∀ u ∈ [v], u.oneCell' = true := fun u hu => by
  simp at hu
  subst hu
  rcases h with rfl | ⟨t, u, rfl⟩ <;> rfl

/-- a slice's length -/
def lenOf : Value → Nat
  | .slice _ n _ => n
  | _ => 0

/-- the loop of find: what is left lies in block g, one error at most; what has been visited in block m -/
structure Run (w0 wr : World) (m g k : Nat) (s : List Node) (N : Nat) : Prop where
  bel : Below w0.heap.size w0 wr
  bg : w0.heap.size ≤ g
  bm : w0.heap.size ≤ m
  ne : m ≠ g
  row : ∃ x, wr.heap[g]? = some (.cells #[x] 37 (0, 0)) ∧ (k = 1 → x = val s)
  seen : Seen wr m s
  good : Good wr s
  num : count wr m + s.length = N
  k : k = 1 ∨ (k = 0 ∧ s = [])

theorem Run.lt {w0 wr : World} {m g k : Nat} {s : List Node} {N : Nat} (h : Run w0 wr m g k s N) : m < wr.heap.size ∧ g < wr.heap.size := by
  obtain ⟨x, hx, _⟩ := h.row
  obtain ⟨es, c, hm, _⟩ := h.seen.ex
  exact ⟨block_lt hm, block_lt hx⟩

/-- a step that only makes memory -/
theorem Run.later {w0 wr w' : World} {m g k : Nat} {s : List Node} {N : Nat} (h : Run w0 wr m g k s N) (hb : Below wr.heap.size wr w') : Run w0 w' m g k s N := by
  obtain ⟨x, hx, hk⟩ := h.row
  exact ⟨h.bel.trans (hb.mono h.bel.size), h.bg, h.bm, h.ne, ⟨x, (hb.block g h.lt.2).trans hx, hk⟩, h.seen.later hb, h.good.below hb, by rw [count_same (hb.block m h.lt.1)]; exact h.num, h.k⟩

/-- the next one is taken off -/
theorem Run.take {w0 wr : World} {m g k : Nat} {s : List Node} {N : Nat} (h : Run w0 wr m g k s N) (hs : s = []) : Run w0 wr m g 0 s N := by
  obtain ⟨x, hx, hk⟩ := h.row
  exact ⟨h.bel, h.bg, h.bm, h.ne, ⟨x, hx, fun e => by cases e⟩, h.seen, h.good, h.num, .inr ⟨rfl, hs⟩⟩

/-- the error has been visited: what it wraps is to come -/
structure Mid (w0 wr : World) (m g : Nat) (x : Node) (s : List Node) (N : Nat) : Prop where
  bel : Below w0.heap.size w0 wr
  bg : w0.heap.size ≤ g
  bm : w0.heap.size ≤ m
  ne : m ≠ g
  row : ∃ y, wr.heap[g]? = some (.cells #[y] 37 (0, 0))
  seen : Seen wr m s
  good : Good wr (x :: s)
  num : count wr m + s.length = N

theorem Mid.lt {w0 wr : World} {m g : Nat} {x : Node} {s : List Node} {N : Nat} (h : Mid w0 wr m g x s N) : m < wr.heap.size ∧ g < wr.heap.size := by
  obtain ⟨x, hx⟩ := h.row
  obtain ⟨es, c, hm, _⟩ := h.seen.ex
  exact ⟨block_lt hm, block_lt hx⟩
theorem Mid.later {w0 wr w' : World} {m g : Nat} {x : Node} {s : List Node} {N : Nat} (h : Mid w0 wr m g x s N) (hb : Below wr.heap.size wr w') : Mid w0 w' m g x s N := by
  obtain ⟨y, hx⟩ := h.row
  exact ⟨h.bel.trans (hb.mono h.bel.size), h.bg, h.bm, h.ne, ⟨y, (hb.block g h.lt.2).trans hx⟩, h.seen.later hb, h.good.below hb, by rw [count_same (hb.block m h.lt.1)]; exact h.num⟩

theorem Run.enter {w0 wr w' : World} {m g k : Nat} {x : Node} {s : List Node} {N : Nat} (h : Run w0 wr m g k (x :: s) N) (hk : KeptMap m wr w') (hs : Seen w' m s) (hn : count w' m = count wr m + 1) : Mid w0 w' m g x s N := by
  obtain ⟨y, hx, _⟩ := h.row
  exact ⟨h.bel.trans (hk.below h.bm h.bel.size), h.bg, h.bm, h.ne, ⟨y, (hk.block g h.lt.2 (Ne.symm h.ne)).trans hx⟩, hs, h.good.same (hk.keeps h.seen), by have := h.num; simp only [List.length_cons] at this; omega⟩

/-- the row that append writes into -/
theorem Mid.own {w0 wr : World} {m g : Nat} {x : Node} {s : List Node} {N : Nat} (h : Mid w0 wr m g x s N) : wr.ownsRow w0.heap.size 37 1 (.slice (some ⟨g, 0, none⟩) 0 1) 0 [] := by
  obtain ⟨y, hx⟩ := h.row
  exact ⟨rfl, .inr ⟨g, 1, _, rfl, h.bg, hx, by omega, by simp [maxLen], rfl, rfl⟩⟩

/-- what append leaves -/
theorem Mid.put {w0 wr w' : World} {m g k : Nat} {x : Node} {s : List Node} {N : Nat} {xs : List Value} (h : Mid w0 wr m g x s N) (hg : wr.grownBy w' (some g)) (ho : w'.ownsRow w0.heap.size 37 1 (.slice (some ⟨g, 0, none⟩) k 1) k xs)
    (hk : (k = 1 ∧ xs = [val s]) ∨ (k = 0 ∧ s = [])) : Run w0 w' m g k s N := by
  obtain ⟨es, c, hm, _⟩ := h.seen.ex
  obtain ⟨y, hy⟩ := h.row
  have hK : Keeps wr w' := .of_grown hg (fun c e => by rw [hy] at e; cases e)
  have hmm : w'.heap[m]? = wr.heap[m]? := hg.block m h.lt.1 (fun e => h.ne (by injection e))
  obtain ⟨q, hq, hc⟩ : ∃ q, w'.heap[g]? = some (.cells #[q] 37 (0, 0)) ∧ (k = 1 → q = val s) := by
    rcases ho.2 with ⟨hv, _⟩ | ⟨g2, cap, cur, hv, hg2, hcur, hkc, hcm, hsz, htk⟩
    · cases hv
    · injection hv with h1 h2 h3
      injection h1 with h1
      injection h1 with h1
      subst h1 h3
      obtain ⟨q, rfl⟩ : ∃ q, cur = #[q] := by
        match cur, hsz with
        | ⟨[q]⟩, _ => exact ⟨q, rfl⟩
      refine ⟨q, hcur, fun e => ?_⟩
      rcases hk with ⟨rfl, rfl⟩ | ⟨rfl, _⟩
      · simpa using htk
      · cases e
  refine ⟨h.bel.trans ⟨hg.os, hg.tape, hg.output, hg.size, fun i hi => hg.block i (by have := h.bel.size; omega) (fun e => by injection e with e; have := h.bg; omega)⟩, h.bg, h.bm, h.ne, ⟨q, hq, hc⟩, h.seen.same hmm hK, h.good.tail.same hK, by rw [count_same hmm]; exact h.num, ?_⟩
  rcases hk with ⟨h1, _⟩ | h2
  · exact .inl h1
  · exact .inr h2
end Go.Proofs.YtnjlganofjkpfaaGreatDoor

/-
  fault.find under Code's look.
-/
namespace Go.Proofs.YtnjlganofjkpfaaGreatDoor
open Go.RowKit
set_option linter.unusedVariables false
set_option linter.unusedSimpArgs false

set_option maxRecDepth 100000 in
set_option maxHeartbeats 4000000 in
theorem find_code {l : List Node} (c : Nat) (old : Value) (w : World) (hG : Good w l) (hne : l ≠ []) (hg : ErrT w) (hc : w.cell? ⟨c, 0, none⟩ = some old) (hf : w.frozen? ⟨c, 0, none⟩ = false) :
    Calls Tryz.prog 30 #[val l, .func (.func 31) #[] #[.pointer (some ⟨c, 0, none⟩)]] w fun e w' =>
      (ans l = none ∧ e = .returned (.bool false) ∧ Below w.heap.size w w') ∨ ∃ n w1, ans l = some n ∧ e = .returned (.bool true) ∧ w' = w1.setCell ⟨c, 0, none⟩ (.int .i64 n) ∧ Below w.heap.size w w1 := by
  have hlt := cell_lt hc
  obtain ⟨i0, hi0, hz0, hz1, hz2⟩ := info_parts info_err
  have hmm := @run_makeMap Tryz.prog
  have HG := Lib.hid hG
  have HE := Lib.hid hg
  have HC := Lib.hid hc
  have HF := Lib.hid hf
  have hI := isI_val l
  have start : Run w ((w.alloc (.map #[] 0)).alloc (.cells #[val l] 37)) w.heap.size (w.heap.size + 1) 1 l l.length := by
    have b1 : Below w.heap.size w (w.alloc (.map #[] 0)) := (Below.refl _ _).alloc (Nat.le_refl _) _
    have b2 : Below (w.heap.size + 1) (w.alloc (.map #[] 0)) ((w.alloc (.map #[] 0)).alloc (.cells #[val l] 37)) := (Below.refl _ _).alloc (by simp) _
    have hm : ((w.alloc (.map #[] 0)).alloc (.cells #[val l] 37)).heap[w.heap.size]? = some (.map #[] 0) := (b2.block _ (by omega)).trans (MapKept.heap_alloc w _).1
    have hg := (MapKept.heap_alloc (w.alloc (.map #[] 0)) (.cells #[val l] 37)).1
    rw [show (w.alloc (.map #[] 0)).heap.size = w.heap.size + 1 by simp] at hg
    have hB := b1.trans (b2.mono (by omega))
    exact ⟨hB, by omega, by omega, by omega, ⟨_, hg, fun _ => rfl⟩, ⟨_, _, hm, fun _ e he => by simp at he⟩, hG.below hB, by rw [count_of hm]; simp, .inl rfl⟩
  have HS := Lib.hid start
  have HV : ∀ x s, ∃ t u, val (x :: s) = .iface t u := fun x s => by
    rcases isI_val (x :: s) with h | h
    · cases x <;> cases h
    · exact h
  generalize l.length = N at *
  clear start hG
  obtain ⟨x0, l0, rfl⟩ : ∃ x l', l = x :: l' := by
    cases l with
    | nil => exact absurd rfl hne
    | cons x l => exact ⟨x, l, rfl⟩
  obtain ⟨t0, u0, hv0⟩ := HV x0 l0
  rw [hv0] at HS ⊢
  generalize hA : ans (x0 :: l0) = A at *
  have HA := Lib.hid hA
  clear hA hv0 HG hI hne hg hc hf
  go_enter Tryz.func30, Tryz.ntmps30
  go_wp2
  generalize hB : w.heap.size = B at *
  have HB := Lib.hid hB
  clear hB
  go_loopw [6] (fun lv wr => ∃ k s, lv = .slice (some ⟨B + 1, 0, none⟩) k 1 ∧ Hid (Run w wr B (B + 1) k s N) ∧ Hid (ans s = A)) (fun lv wr => 2 * (N - count wr B) + lenOf lv)
  case atStart => exact ⟨1, _, rfl, HS, HA⟩
  case round =>
    clear HS HA
    obtain ⟨k, s, rfl, HR, HA⟩ := hrel
    rcases HR.out.k with rfl | ⟨rfl, rfl⟩
    · obtain ⟨y, hy, hyv⟩ := HR.out.row
      have hyv := hyv rfl
      subst hyv
      have hcell : _ = some (val s) := cell_of_row _ (B + 1) 0 _ _ _ hy
      clear hy
      cases s with
      | nil =>
        simp only [val] at hcell
        have HT := Lib.hid (HR.out.take rfl)
        go_wp2
        go_roundw
        case rel => exact ⟨0, [], rfl, HT, HA⟩
        case measure => simp [lenOf]
      | cons x s =>
        obtain ⟨tx, ux, hv⟩ := HV x s
        have EN := Lib.hid (enter_new HR.out.seen HR.out.good)
        have BA := Lib.hid (fun W => bare_any x s W)
        have WR := Lib.hid (fun W (h1 : Wraps (x :: s)) (h2 : Good W (x :: s)) => wrapped_any h1 h2)
        rw [hv] at hcell EN BA WR
        by_cases hW : Wraps (x :: s)
        · have LK := Lib.hid (fun W (hb : Below w.heap.size w W) => lookC_cov hW c W (ErrT.later HE.out hb))
          have WR2 := Lib.hid (fun W h2 => WR.out W hW h2)
          have HA2 := Lib.hid ((ans_wraps hW).symm.trans HA.out)
          clear WR hW hv
          generalize shown (x :: s) = sh at *
          go_wp2_with (first
            | (go_at_call 54; (with_reducible refine EN.out.mono ?_); rintro e w1 ⟨rfl, hk1, hs1, hn1⟩; have HM := Lib.hid (HR.out.enter hk1 hs1 hn1); clear hk1 hs1 hn1)
            | (go_at_call 55; (with_reducible refine (BA.out _).mono ?_); rintro e w1' ⟨rfl, rfl⟩)
            | (go_at_call 31; (with_reducible refine (LK.out _ HM.out.bel).mono ?_); rintro e w2 ⟨rfl, b2⟩; have HM2 := Lib.hid (HM.out.later b2); clear b2)
            | (go_at_call 56; (with_reducible refine (WR2.out _ HM2.out.good).mono ?_); rintro e w3 ⟨g3, rfl, b3, hr3⟩; have HM3 := Lib.hid (HM2.out.later b3); have HW3 := Lib.hid hr3; clear b3 hr3)
            | (at_builtin; go_loud (refine wpList_append_fits _ rfl _ _ 97 rfl w.heap.size 37 i0 1 Tryz.underlying97 hi0 hz1 (B + 1) 0 1 [] rfl HM3.out.own ⟨g3, 0, none⟩ 1 1 [val s] rfl rfl (one_src HW3.out) (one_is (isI_val s)) (by omega) ?_; rintro w4 ho4 hg4; have HR4 := Lib.hid (HM3.out.put hg4 ho4 (.inl ⟨rfl, rfl⟩)); clear ho4 hg4)))
          go_roundw
          case rel => exact ⟨1, s, rfl, HR4, HA2⟩
          case measure =>
            have h1 := HR.out.num
            have h2 := HR4.out.num
            simp only [List.length_cons] at h1
            simp only [lenOf]
            omega
        · obtain ⟨q, rfl⟩ : ∃ q, x = .num q := by
            cases x with
            | flt b p => exact absurd trivial hW
            | num n => exact ⟨n, rfl⟩
          have hs0 : s = [] := HR.out.good
          subst hs0
          clear WR hW
          clear hv
          have LK := Lib.hid (fun W (hb : Below w.heap.size w W) => lookC_num q [] c old W (ErrT.later HE.out hb) ((hb.cell (p := ⟨c, 0, none⟩) (by rw [HB.out]; exact hlt)).trans HC.out) ((hb.frozen (p := ⟨c, 0, none⟩) (by rw [HB.out]; exact hlt)).trans HF.out))
          generalize shown [Node.num q] = sh at *
          go_wp2_with (first
            | (go_at_call 54; (with_reducible refine EN.out.mono ?_); rintro e w1 ⟨rfl, hk1, hs1, hn1⟩; have HM := Lib.hid (HR.out.enter hk1 hs1 hn1); clear hk1 hs1 hn1)
            | (go_at_call 55; (with_reducible refine (BA.out _).mono ?_); rintro e w1' ⟨rfl, rfl⟩)
            | (go_at_call 31; (with_reducible refine (LK.out _ HM.out.bel).mono ?_); rintro e w2 ⟨rfl, w3, rfl, b2⟩; have HB2 := Lib.hid (HM.out.bel.trans (b2.mono HM.out.bel.size)); clear b2))
          go_ret
          exact .inr ⟨q, w3, HA.out.symm.trans rfl, rfl, rfl, HB2.out⟩
    · have hbel := HR.out.bel
      have hans : none = A := HA.out
      clear HR HA
      go_wp2
      go_ret
      exact .inl ⟨hans.symm, rfl, hbel⟩
end Go.Proofs.YtnjlganofjkpfaaGreatDoor

/-
  fault.find under Is's look.
-/
namespace Go.Proofs.YtnjlganofjkpfaaGreatDoor
open Go.RowKit
set_option linter.unusedVariables false
set_option linter.unusedSimpArgs false

end Go.Proofs.YtnjlganofjkpfaaGreatDoor

/-
  fault.Code and fault.Is.
-/
namespace Go.Proofs.YtnjlganofjkpfaaGreatDoor
open Go.RowKit
set_option linter.unusedVariables false
set_option linter.unusedSimpArgs false

theorem idle_code (p : Addr) (w : World) :
    CallsD Tryz.prog 29 #[.pointer (some p)] .returning w fun e u' w' => e = .returned (.tuple #[]) ∧ u' = .returning ∧ w' = w := by
  refine callsD_of_wpS Tryz.func29 rfl fun c₀ cs hu => ?_
  apply wpS_seq
  apply wpS_region
  simp [wpOpsS, go_sem, recoverD, hu, Tryz.ntmps29, Exit.thenS]
  refine wpS_cond (t := false) (by simp [Act.eval, Array.replicate]) ?_
  simp only [Bool.false_eq_true, if_false]
  refine wpS_of_wp (wp_skip ?_)
  cases c₀
  simp_all [bodyPostS, results, Tryz.results29]
/-- Code's answer -/
def codeOf : List Node → Int
  | [] => 0
  | x :: l => match ans (x :: l) with
    | some n => n
    | none => 18

theorem find_none {l : List Node} (c : Nat) (old : Value) (w : World) (hG : Good w l) (hne : l ≠ []) (hg : ErrT w) (hc : w.cell? ⟨c, 0, none⟩ = some old) (hf : w.frozen? ⟨c, 0, none⟩ = false) (ha : ans l = none) :
    Calls Tryz.prog 30 #[val l, .func (.func 31) #[] #[.pointer (some ⟨c, 0, none⟩)]] w fun e w' => e = .returned (.bool false) ∧ w'.cell? ⟨c, 0, none⟩ = some old ∧ w'.frozen? ⟨c, 0, none⟩ = false ∧ Below c w w' := by
  refine (find_code c old w hG hne hg hc hf).mono ?_
  rintro e w' (⟨_, rfl, h⟩ | ⟨n, w1, h, _⟩)
  · exact ⟨rfl, (h.cell (p := ⟨c, 0, none⟩) (cell_lt hc)).trans hc, (h.frozen (p := ⟨c, 0, none⟩) (cell_lt hc)).trans hf, h.mono (Nat.le_of_lt (cell_lt hc))⟩
  · rw [ha] at h; cases h
theorem find_some {l : List Node} (c : Nat) (n : Int) (old : Value) (w : World) (hG : Good w l) (hne : l ≠ []) (hg : ErrT w) (hc : w.cell? ⟨c, 0, none⟩ = some old) (hf : w.frozen? ⟨c, 0, none⟩ = false) (ha : ans l = some n) :
    Calls Tryz.prog 30 #[val l, .func (.func 31) #[] #[.pointer (some ⟨c, 0, none⟩)]] w fun e w' => e = .returned (.bool true) ∧ w'.cell? ⟨c, 0, none⟩ = some (.int .i64 n) ∧ w'.frozen? ⟨c, 0, none⟩ = false ∧ Below c w w' := by
  refine (find_code c old w hG hne hg hc hf).mono ?_
  rintro e w' (⟨h, _⟩ | ⟨m, w1, h1, rfl, rfl, hb⟩)
  · rw [ha] at h; cases h
  · rw [ha] at h1
    injection h1 with h1
    subst h1
    have hc1 := (hb.cell (p := ⟨c, 0, none⟩) (cell_lt hc)).trans hc
    exact ⟨rfl, World.cell?_setCell_same _ _ _ hc1, by rw [World.frozen?_setCell]; exact (hb.frozen (p := ⟨c, 0, none⟩) (cell_lt hc)).trans hf, (hb.mono (Nat.le_of_lt (cell_lt hc))).setCell (p := ⟨c, 0, none⟩) (Nat.le_refl _) _⟩

set_option maxRecDepth 100000 in
theorem Code_err {x : Node} {l : List Node} {w : World} (hG : Good w (x :: l)) (hg : ErrT w) :
    Calls Tryz.prog 11 #[val (x :: l)] w fun e w' => e = .returned (.int .i64 (codeOf (x :: l))) ∧ Below w.heap.size w w' := by
  have hmf : ∀ (fn : Fn) (first cap : Array Value) (w : World), (Instr.makeFunc fn first cap).run Tryz.prog w = .ok (.func fn first cap) w := fun _ _ _ _ => rfl
  have b1 : Below w.heap.size w (w.alloc (.cells #[.int .i64 0] 40)) := (Below.refl _ _).alloc (Nat.le_refl _) _
  have h1 := (MapKept.heap_alloc w (.cells #[.int .i64 0] 40)).1
  have hc1 := cell_of_row _ w.heap.size 0 _ _ _ h1
  have HB := Lib.hid b1
  obtain ⟨t, u, hv⟩ : ∃ t u, val (x :: l) = .iface t u := by cases x <;> exact ⟨_, _, rfl⟩
  cases hA : ans (x :: l) with
  | none =>
    have FI := Lib.hid (find_none w.heap.size (.int .i64 0) _ (hG.below b1) (by simp) (hg.later b1) hc1 (Lib.frozen_of_heap h1 0) hA)
    have hco : codeOf (x :: l) = 18 := by simp only [codeOf, hA]
    rw [hv] at FI ⊢
    rw [hco]
    clear hG hg hv h1 hc1 b1 hA hco
    go_enter_defers Tryz.func11, Tryz.ntmps11
    go_wp2_with (go_at_call 30; (with_reducible refine FI.out.mono ?_); rintro e w1 ⟨rfl, hc, hf, hb⟩; have H1 := Lib.hid (HB.out.trans hb); clear hb)
    refine leaves_cons (f := 29) (args := #[.pointer (some ⟨w.heap.size, 0, none⟩)]) (by simp) (by simp [go_sem]) ?_
    refine (idle_code ⟨w.heap.size, 0, none⟩ _).mono ?_
    rintro e u' w'' ⟨rfl, rfl, rfl⟩
    have hcc : (w1.setCell ⟨w.heap.size, 0, none⟩ (.int .i64 18)).cell? ⟨w.heap.size, 0, none⟩ = some (.int .i64 18) := World.cell?_setCell_same _ _ _ hc
    simp [Leaves, settle, results, Tryz.results11, go_sem, hcc]
    exact H1.out.setCell (p := ⟨w.heap.size, 0, none⟩) (Nat.le_refl _) _
  | some n =>
    have FI := Lib.hid (find_some w.heap.size n (.int .i64 0) _ (hG.below b1) (by simp) (hg.later b1) hc1 (Lib.frozen_of_heap h1 0) hA)
    have hco : codeOf (x :: l) = n := by simp only [codeOf, hA]
    rw [hv] at FI ⊢
    rw [hco]
    clear hG hg hv h1 hc1 b1 hA hco
    go_enter_defers Tryz.func11, Tryz.ntmps11
    go_wp2_with (go_at_call 30; (with_reducible refine FI.out.mono ?_); rintro e w1 ⟨rfl, hc, hf, hb⟩; have H1 := Lib.hid (HB.out.trans hb); clear hb)
    refine leaves_cons (f := 29) (args := #[.pointer (some ⟨w.heap.size, 0, none⟩)]) (by simp) (by simp [go_sem]) ?_
    refine (idle_code ⟨w.heap.size, 0, none⟩ _).mono ?_
    rintro e u' w'' ⟨rfl, rfl, rfl⟩
    have hcc : (w1.setCell ⟨w.heap.size, 0, none⟩ (.int .i64 n)).cell? ⟨w.heap.size, 0, none⟩ = some (.int .i64 n) := World.cell?_setCell_same _ _ _ hc
    simp [Leaves, settle, results, Tryz.results11, go_sem, hcc]
    exact H1.out.setCell (p := ⟨w.heap.size, 0, none⟩) (Nat.le_refl _) _

end Go.Proofs.YtnjlganofjkpfaaGreatDoor
