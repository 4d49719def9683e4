/-
  Joined: FltLaid.
-/
import Derived.Test.YtajeelbeochojaaGreatDoorRows
import Derived.ChangeSame
import Derived.ChangeVars
import Derived.JoinedOf
import Derived.RowKit
import Derived.RowKitTokens
import Derived.LaidLaws
import Derived.LaidHandle
import Derived.Lib.LaidTab
import Derived.Stop.LaidErr
import Derived.Stop.Joined
import Derived.Test.YtajeelbeochojaaGreatDoorJAlcB32
import Derived.Test.YtajeelbeochojaaGreatDoorJAlcB15
/-
  The laid variables: what the condition gives a walk, and a start that meets it.
-/
namespace Go.Proofs.YtajeelbeochojaaGreatDoor
open Go.ChangeShapes Go.WideShapes Go.RowKit
set_option linter.unusedVariables false
set_option linter.unusedSimpArgs false

/-- the laid variables, in the rows' order -/
def laidL : List (String × DataW Unit) := [("math/bits.deBruijn32tab", Rows.laid_math_bits_deBruijn32tab), ("math/bits.deBruijn64tab", Rows.laid_math_bits_deBruijn64tab), ("internal/strconv.uint64pow10", Rows.laid_internal_strconv_uint64pow10), ("errors.errorType", Rows.laid_errors_errorType)]
def laidD : List (String × DataW Unit) := [("math/bits.deBruijn32tab", Rows.laid_math_bits_deBruijn32tab), ("math/bits.deBruijn64tab", Rows.laid_math_bits_deBruijn64tab), ("internal/strconv.uint64pow10", Rows.laid_internal_strconv_uint64pow10)]
def laidH : List (String × DataW Unit) := [("errors.errorType", Rows.laid_errors_errorType)]

theorem laid_parts {W : World} (h : laidMetH Tryz.prog laidL W) : laidMet Tryz.prog laidD W ∧ handlesMet Tryz.prog laidH W := h

theorem et_named : Tryz.prog.globalNamed "errors.errorType" = some 0 := by kernel_rfl
theorem et_type : (Tryz.prog.cutTypes.find? (·.1 == "internal/reflectlite.rtype")).map (·.2) = some 148 := by kernel_rfl
theorem et_row : ((List.range Tryz.prog.types.size).filter fun t => Tryz.prog.rowNamed t [101, 114, 114, 111, 114]) = [32] := by kernel_rfl

theorem errT_of_laid {W : World} (h : laidMetH Tryz.prog laidL W) : ErrT W := by
  obtain ⟨name, u, ty, e1, e2, e3, e4, e5⟩ := (laid_parts h).2 _ (List.mem_singleton.2 rfl)
  have en : name = [101, 114, 114, 111, 114] := (Option.some.inj e1).symm
  subst en
  obtain rfl := Option.some.inj (et_type.symm.trans e2)
  have hm : ty ∈ (List.range Tryz.prog.types.size).filter fun t => Tryz.prog.rowNamed t [101, 114, 114, 111, 114] := List.mem_filter.2 ⟨List.mem_range.2 e3, e4⟩
  rw [et_row] at hm
  obtain rfl := List.mem_singleton.1 hm
  have hh : typeHandle Tryz.prog 32 = hnd 32 := by kernel_rfl
  rw [hh] at e5
  have h9 : W.cell? ⟨0, 0, none⟩ = some (.iface 148 (.agg #[hnd 32])) := by simpa using World.var?_cell et_named e5 0
  exact h9

theorem pow_is : (Rows.laid_internal_strconv_uint64pow10 : DataW Unit) = Lib.tabData .u64 Lib.pow10Tab := by kernel_rfl
theorem pow_of_laid {W : World} (h : laidMetH Tryz.prog laidL W) : Pow W := by
  have h3 : laidMet Tryz.prog [("internal/strconv.uint64pow10", Rows.laid_internal_strconv_uint64pow10)] W := (laid_parts h).1.tail.tail
  rw [pow_is] at h3
  exact Lib.tabIs_of_head (g := 1) (t := 179) (e := 164) (n := 20) (by kernel_rfl) (by kernel_rfl) Tryz.underlying179 Tryz.underlying164 (by kernel_rfl) (by kernel_rfl) h3

/-- the cells of an array that is laid -/
def litsOf : DataW Unit → Array Value
  | .agg ds => (ds.filterMap fun
      | .lit (.int k z) => some (Value.int k z)
      | _ => none).toArray
  | _ => #[]
/-- cells laid into a variable's block -/
def layIn (cs : Array Value) : Obj → Obj
  | .cells _ t frozen => .cells cs t frozen
  | o => o
/-- blocks with the variables laid -/
def layAll (h : Array Obj) : Array Obj :=
  (((h.modify 0 (layIn #[.iface 148 (.agg #[.pointer (some ⟨4, 32, none⟩)])])).modify 1 (layIn (litsOf Rows.laid_internal_strconv_uint64pow10))).modify 2 (layIn (litsOf Rows.laid_math_bits_deBruijn32tab))).modify 3 (layIn (litsOf Rows.laid_math_bits_deBruijn64tab))

set_option maxRecDepth 100000 in
theorem laid_start (os : Os) (args : Array Value) : laidMetH Tryz.prog laidL (({ World.holding Tryz.prog os ⟨#[], #[], []⟩ with heap := layAll (World.holding Tryz.prog os ⟨#[], #[], []⟩).heap } : World).forCall (fun _ _ => 0) ⟨#[], args, []⟩).memory :=
  laidMetH_of_parts (laidMet_of_run' 8 (by kernel_rfl) (by kernel_rfl)) (by kernel_rfl)
end Go.Proofs.YtajeelbeochojaaGreatDoor
