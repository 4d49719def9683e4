/-
  A struct of two integers by value, opened.
-/
import Derived.Test.YtkodddklomegfaaOpenE
namespace Go.Proofs.Ytkodddklomegfaa
open Go.ChangeShapes Go.WideShapes Go.ChangeAt Go.RowKit Go.Deep
set_option linter.unusedVariables false
set_option linter.unusedSimpArgs false

section
variable {H : Type} {enc : TypeId × Value → H} {P : Program} {w : World} {base : Nat} {held : Bool}

/-- a struct of two integers -/
theorem open_two {r : Reach} {b0 : Nat} {t : TypeId} {fs : Array Field} {v : Value} {d : DataW H} {p : List MemPlace} (he : P.underlying t = some (.struct fs)) (hn : fs.size = 2)
    (hone : oneCellFields P fs = true) (hC : P.cellsOf t = 2) (hf : fs.toList.map (fun f => P.underlying f.type) = List.replicate 2 (some (.int .i64)))
    (hv : Value.okWide P w r b0 t v) (h : DataW.Trod enc P w base (fun _ => true) held t v d p) :
    ∃ a b : Int, v = .agg #[.int .i64 a, .int .i64 b] ∧ (-9223372036854775808 ≤ a ∧ a ≤ 9223372036854775807) ∧ (-9223372036854775808 ≤ b ∧ b ≤ 9223372036854775807) := by
  obtain ⟨cs, f, rfl, hsz, hk⟩ := open_istruct he hone (hC.trans hn.symm) (by rw [hn]; exact hf) hv h
  rw [hn] at hsz hk
  refine ⟨f 0, f 1, ?_, (hk 0 (by omega)).2, (hk 1 (by omega)).2⟩
  congr 1
  apply Array.ext_getElem?
  intro i
  by_cases hi : i < 2
  · rw [(hk i hi).1]
    rcases (show i = 0 ∨ i = 1 by omega) with rfl | rfl <;> rfl
  · rw [Array.getElem?_eq_none (by omega), Array.getElem?_eq_none (by simp; omega)]

end
end Go.Proofs.Ytkodddklomegfaa
