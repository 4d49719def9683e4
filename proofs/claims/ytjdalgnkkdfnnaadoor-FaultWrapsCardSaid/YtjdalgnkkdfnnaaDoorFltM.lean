/-
  fault.Text.
-/
import Derived.Test.YtjdalgnkkdfnnaaDoorFltK
import Derived.Test.YtjdalgnkkdfnnaaDoorFltL
namespace Go.Proofs.YtjdalgnkkdfnnaaDoor
open Go.RowKit
set_option linter.unusedVariables false
set_option linter.unusedSimpArgs false

theorem idle_text (w : World) :
    CallsD Tryd.prog 21 #[] .returning w fun e u' w' => e = .returned (.tuple #[]) ∧ u' = .returning ∧ w' = w := by
  refine callsD_of_wpS Tryd.func21 rfl fun c₀ cs hu => ?_
  apply wpS_region
  cases c₀
  simp_all [wpOpsS, go_sem, recoverD, Tryd.ntmps21, Exit.thenS, bodyPostS, results, Tryd.results21]

theorem bytes_append (x y : List UInt8) : ((⟨x.toArray⟩ : ByteArray) ++ (⟨y.toArray⟩ : ByteArray)) = ⟨(x ++ y).toArray⟩ := by
  apply ByteArray.ext
  rw [ByteArray.data_append]
  simp
theorem run_add (x y : List UInt8) (h : x.length + y.length ≤ 9223372036854775807) (w : World) : (binOp .add 9 (str x) (str y)).run Tryd.prog w = .ok (str (x ++ y)) w := by
  have h2 := run_string_add_sum (P := Tryd.prog) w ⟨x.toArray⟩ ⟨y.toArray⟩ (by
    show x.toArray.size + y.toArray.size ≤ _
    simpa using h)
  simp only [str]
  simp [binOp, Sem.run_bind, run_underlying Tryd.underlying9, Result.andThen, h2, bytes_append]
theorem run_add_l (c : ByteArray) (x : List UInt8) (h : c.data.toList.length + x.length ≤ 9223372036854775807) (w : World) : (binOp .add 9 (.string c) (str x)).run Tryd.prog w = .ok (str (c.data.toList ++ x)) w := run_add c.data.toList x h w
theorem run_add_r (x : List UInt8) (c : ByteArray) (h : x.length + c.data.toList.length ≤ 9223372036854775807) (w : World) : (binOp .add 9 (str x) (.string c)).run Tryd.prog w = .ok (str (x ++ c.data.toList)) w := run_add x c.data.toList h w

/-- "block " -/
def sBlock : List UInt8 := [98, 108, 111, 99, 107, 32]
/-- ": " -/
def sColon : List UInt8 := [58, 32]
/-- "error " -/
def sError : List UInt8 := [101, 114, 114, 111, 114, 32]
/-- "other" -/
def sOther : List UInt8 := [111, 116, 104, 101, 114]

/-- the text of an error -/
def textOf : List Node → List UInt8
  | [] => []
  | .flt b _ :: l => (sBlock ++ Lib.itoa b ++ sColon) ++ textOf l
  | .oth :: _ => sOther
  | .num n :: _ => sError ++ Lib.itoa n

/-- its numbers are Go's ints -/
def Fits : List Node → Prop
  | [] => True
  | .flt b _ :: l => (-9223372036854775808 ≤ b ∧ b ≤ 9223372036854775807) ∧ Fits l
  | .oth :: l => Fits l
  | .num n :: l => (-9223372036854775808 ≤ n ∧ n ≤ 9223372036854775807) ∧ Fits l

theorem textOf_le : ∀ l : List Node, Fits l → (textOf l).length ≤ 40 * l.length
  | [], _ => by simp [textOf]
  | .flt b _ :: l, h => by
    have h1 := textOf_le l h.2
    have h2 := Lib.itoa_length_le b h.1.1 h.1.2
    simp [textOf, sBlock, sColon]; omega
  | .oth :: l, _ => by simp [textOf, sOther]; omega
  | .num n :: l, h => by
    have h2 := Lib.itoa_length_le n h.1.1 h.1.2
    simp [textOf, sError]; omega

theorem numErr_any (n : Int) (h0 : -9223372036854775808 ≤ n) (h1 : n ≤ 9223372036854775807) (w : World) (hp : Pow w) :
    Calls Tryd.prog 79 #[.int .i64 n] w fun e w' => e = .returned (str (sError ++ Lib.itoa n)) ∧ Below w.heap.size w w' := by
  have IT := Lib.hid (Itoa_any n h0 h1 w hp)
  have ad := run_add_l ⟨#[101, 114, 114, 111, 114, 32]⟩ (Lib.itoa n) (by have := Lib.itoa_length_le n h0 h1; simp; omega)
  have hs : Hid (([101, 114, 114, 111, 114, 32] : List UInt8) = sError) := rfl
  clear h0 h1 hp
  generalize Lib.itoa n = x at *
  go_enter Tryd.func79, Tryd.ntmps79
  go_wp2_with (go_at_call 25; (with_reducible refine IT.out.mono ?_); rintro e w1 ⟨rfl, b1⟩)
  go_ret
  exact ⟨rfl, b1⟩

theorem othErr_any (v : Value) (w : World) :
    Calls Tryd.prog 80 #[.agg #[v]] w fun e w' => e = .returned (.string ⟨#[111, 116, 104, 101, 114]⟩) ∧ Below w.heap.size w w' := by
  go_enter Tryd.func80, Tryd.ntmps80
  go_wp2
  go_ret
  exact ⟨rfl, (Below.refl _ _).alloc (Nat.le_refl _) _⟩
end Go.Proofs.YtjdalgnkkdfnnaaDoor
