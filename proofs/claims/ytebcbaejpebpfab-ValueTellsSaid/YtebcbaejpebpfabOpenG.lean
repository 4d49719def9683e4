/-
  Structs of four and of three integers by value, opened.
-/
import Derived.Test.YtebcbaejpebpfabOpenE
namespace Go.Proofs.Ytebcbaejpebpfab
open Go.ChangeShapes Go.WideShapes Go.ChangeAt Go.RowKit Go.Deep
set_option linter.unusedVariables false
set_option linter.unusedSimpArgs false

section
variable {H : Type} {enc : TypeId × Value → H} {P : Program} {w : World} {base : Nat} {held : Bool}

/-- a struct of four integers -/
theorem open_four {r : Reach} {b0 : Nat} {t : TypeId} {fs : Array Field} {v : Value} {d : DataW H} {p : List MemPlace} (he : P.underlying t = some (.struct fs)) (hn : fs.size = 4)
    (hone : oneCellFields P fs = true) (hC : P.cellsOf t = 4) (hf : fs.toList.map (fun f => P.underlying f.type) = List.replicate 4 (some (.int .i64)))
    (hv : Value.okWide P w r b0 t v) (h : DataW.Trod enc P w base (fun _ => true) held t v d p) :
    ∃ a b c d : Int, v = .agg #[.int .i64 a, .int .i64 b, .int .i64 c, .int .i64 d] ∧ (-9223372036854775808 ≤ a ∧ a ≤ 9223372036854775807) ∧ (-9223372036854775808 ≤ b ∧ b ≤ 9223372036854775807) ∧ (-9223372036854775808 ≤ c ∧ c ≤ 9223372036854775807) ∧ (-9223372036854775808 ≤ d ∧ d ≤ 9223372036854775807) := by
  obtain ⟨cs, f, rfl, hsz, hk⟩ := open_istruct he hone (hC.trans hn.symm) (by rw [hn]; exact hf) hv h
  rw [hn] at hsz hk
  refine ⟨f 0, f 1, f 2, f 3, ?_, (hk 0 (by omega)).2, (hk 1 (by omega)).2, (hk 2 (by omega)).2, (hk 3 (by omega)).2⟩
  congr 1
  apply Array.ext_getElem?
  intro i
  by_cases hi : i < 4
  · rw [(hk i hi).1]
    rcases (show i = 0 ∨ i = 1 ∨ i = 2 ∨ i = 3 by omega) with rfl | rfl | rfl | rfl <;> rfl
  · rw [Array.getElem?_eq_none (by omega), Array.getElem?_eq_none (by simp; omega)]

/-- a struct of three integers -/
theorem open_three {r : Reach} {b0 : Nat} {t : TypeId} {fs : Array Field} {v : Value} {d : DataW H} {p : List MemPlace} (he : P.underlying t = some (.struct fs)) (hn : fs.size = 3)
    (hone : oneCellFields P fs = true) (hC : P.cellsOf t = 3) (hf : fs.toList.map (fun f => P.underlying f.type) = List.replicate 3 (some (.int .i64)))
    (hv : Value.okWide P w r b0 t v) (h : DataW.Trod enc P w base (fun _ => true) held t v d p) :
    ∃ a b c : Int, v = .agg #[.int .i64 a, .int .i64 b, .int .i64 c] ∧ (-9223372036854775808 ≤ a ∧ a ≤ 9223372036854775807) ∧ (-9223372036854775808 ≤ b ∧ b ≤ 9223372036854775807) ∧ (-9223372036854775808 ≤ c ∧ c ≤ 9223372036854775807) := by
  obtain ⟨cs, f, rfl, hsz, hk⟩ := open_istruct he hone (hC.trans hn.symm) (by rw [hn]; exact hf) hv h
  rw [hn] at hsz hk
  refine ⟨f 0, f 1, f 2, ?_, (hk 0 (by omega)).2, (hk 1 (by omega)).2, (hk 2 (by omega)).2⟩
  congr 1
  apply Array.ext_getElem?
  intro i
  by_cases hi : i < 3
  · rw [(hk i hi).1]
    rcases (show i = 0 ∨ i = 1 ∨ i = 2 by omega) with rfl | rfl | rfl <;> rfl
  · rw [Array.getElem?_eq_none (by omega), Array.getElem?_eq_none (by simp; omega)]

end
end Go.Proofs.Ytebcbaejpebpfab
