/-
  A struct of eleven integers by value: opened, and shut again.
-/
import Derived.Test.YtkodddklomegfaaOpen
import Derived.ChangeSame
import Derived.Lib.SmallJoins
namespace Go.Proofs.Ytkodddklomegfaa
open Go.ChangeShapes Go.WideShapes Go.ChangeAt Go.RowKit Go.Deep
set_option linter.unusedVariables false
set_option linter.unusedSimpArgs false

section
variable {H : Type} {enc : TypeId × Value → H} {P : Program} {w : World} {base : Nat} {held : Bool}

/-- a struct of integers by value, opened: its cells -/
theorem open_istruct {r : Reach} {b0 : Nat} {t : TypeId} {fs : Array Field} {v : Value} {d : DataW H} {p : List MemPlace} (he : P.underlying t = some (.struct fs))
    (hone : oneCellFields P fs = true) (hC : P.cellsOf t = fs.size) (hf : fs.toList.map (fun f => P.underlying f.type) = List.replicate fs.size (some (.int .i64)))
    (hv : Value.okWide P w r b0 t v) (h : DataW.Trod enc P w base (fun _ => true) held t v d p) :
    ∃ (cs : Array Value) (f : Nat → Int), v = .agg cs ∧ cs.size = fs.size ∧ ∀ k, k < fs.size → cs[k]? = some (.int .i64 (f k)) ∧ -9223372036854775808 ≤ f k ∧ f k ≤ 9223372036854775807 := by
  obtain ⟨cs, rfl, hsz⟩ := okWide_struct he hv
  rw [hC] at hsz
  obtain ⟨fuel, hf2⟩ := h
  obtain ⟨xs, n, _, _, _, hlen, hg⟩ := DataW.trod_struct he hf2
  have each : ∀ i, i < fs.size → ∃ z : Int, cs[i]? = some (.int .i64 z) ∧ -9223372036854775808 ≤ z ∧ z ≤ 9223372036854775807 := by
    intro i hi
    have hfi : fs[i]? = some fs[i] := Array.getElem?_eq_getElem hi
    have g := hg i fs[i] hfi
    obtain ⟨o0, k0⟩ := hone_of hone i fs[i] hfi
    rw [o0, k0] at g
    have hxi : i < xs.length := by omega
    rw [List.getElem?_eq_getElem hxi] at g
    have hci : i < cs.size := by omega
    have e : ((Value.agg cs).cells.toList.drop i).take 1 = [cs[i]] := by
      show (cs.toList.drop i).take 1 = [cs[i]]
      rw [List.drop_eq_getElem_cons (by simpa using hci)]
      simp
    rw [e] at g
    have hty : P.underlying fs[i].type = some (.int .i64) := by
      have h1 : (fs.toList.map (fun f => P.underlying f.type))[i]? = some (P.underlying fs[i].type) := by simp [hi]
      rw [hf, List.getElem?_replicate, if_pos hi] at h1
      exact (Option.some.inj h1).symm
    obtain ⟨z, e1, _, w1⟩ := DataW.trod_int hty g
    simp at e1
    refine ⟨z, by rw [Array.getElem?_eq_getElem hci, e1], ?_⟩
    simpa [Lit.wf, IntKind.min, IntKind.max, IntKind.signed, IntKind.bits] using w1
  refine ⟨cs, fun k => if h : k < fs.size then Classical.choose (each k h) else 0, rfl, hsz, fun k hk => ?_⟩
  simp only [dif_pos hk]
  exact Classical.choose_spec (each k hk)

/-- a struct of eleven integers -/
theorem open_eleven {r : Reach} {b0 : Nat} {t : TypeId} {fs : Array Field} {v : Value} {d : DataW H} {p : List MemPlace} (he : P.underlying t = some (.struct fs)) (h11 : fs.size = 11)
    (hone : oneCellFields P fs = true) (hC : P.cellsOf t = 11) (hf : fs.toList.map (fun f => P.underlying f.type) = List.replicate 11 (some (.int .i64)))
    (hv : Value.okWide P w r b0 t v) (h : DataW.Trod enc P w base (fun _ => true) held t v d p) :
    ∃ f : Nat → Int, v = .agg #[.int .i64 (f 0), .int .i64 (f 1), .int .i64 (f 2), .int .i64 (f 3), .int .i64 (f 4), .int .i64 (f 5), .int .i64 (f 6), .int .i64 (f 7), .int .i64 (f 8), .int .i64 (f 9), .int .i64 (f 10)] ∧
      ∀ k, k < 11 → -9223372036854775808 ≤ f k ∧ f k ≤ 9223372036854775807 := by
  obtain ⟨cs, f, rfl, hsz, hk⟩ := open_istruct he hone (hC.trans h11.symm) (by rw [h11]; exact hf) hv h
  rw [h11] at hsz hk
  refine ⟨f, ?_, fun k h => (hk k h).2⟩
  congr 1
  apply Array.ext_getElem?
  intro i
  by_cases hi : i < 11
  · rw [(hk i hi).1]
    rcases (show i = 0 ∨ i = 1 ∨ i = 2 ∨ i = 3 ∨ i = 4 ∨ i = 5 ∨ i = 6 ∨ i = 7 ∨ i = 8 ∨ i = 9 ∨ i = 10 by omega) with rfl | rfl | rfl | rfl | rfl | rfl | rfl | rfl | rfl | rfl | rfl <;> rfl
  · rw [Array.getElem?_eq_none (by omega), Array.getElem?_eq_none (by simp; omega)]
end
end Go.Proofs.Ytkodddklomegfaa
