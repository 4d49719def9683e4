/-
  Layer 13: All, Right, Has, and the reference's Right and Has.
-/
import Derived.BigQuiet
import Derived.Test.YtkodddklomegfaaChecked
import Derived.Test.YtkodddklomegfaaSpnMath
namespace Go.Proofs.Ytkodddklomegfaa
open Go.RowKit
set_option linter.unusedVariables false
set_option linter.unusedSimpArgs false

/-- a span as a value -/
abbrev spnV (lo hi : Int) : Value := .agg #[.int .i64 lo, .int .i64 hi]

/-- a span that lies in the variable at block b -/
def SpnAt (W : World) (b : Nat) (lo hi : Int) : Prop := W.heap[b]? = some (.cells #[.int .i64 lo, .int .i64 hi] 23 (0, 0))
theorem SpnAt.lt {W : World} {b : Nat} {lo hi : Int} (h : SpnAt W b lo hi) : b < W.heap.size := block_lt h
theorem SpnAt.c0 {W : World} {b : Nat} {lo hi : Int} (h : SpnAt W b lo hi) : W.cell? ⟨b, 0, none⟩ = some (.int .i64 lo) := by rw [cell_of_row _ _ _ _ _ _ h]; rfl
theorem SpnAt.c1 {W : World} {b : Nat} {lo hi : Int} (h : SpnAt W b lo hi) : W.cell? ⟨b, 1, none⟩ = some (.int .i64 hi) := by rw [cell_of_row _ _ _ _ _ _ h]; rfl
theorem SpnAt.f0 {W : World} {b : Nat} {lo hi : Int} (h : SpnAt W b lo hi) (j : Nat) : W.frozen? ⟨b, j, none⟩ = false := frozen_of_row _ _ _ _ _ h
theorem SpnAt.below {W W' : World} {B b : Nat} {lo hi : Int} (h : SpnAt W b lo hi) (hb : Below B W W') (hlt : b < B) : SpnAt W' b lo hi := (hb.block b hlt).trans h
theorem SpnAt.later {W W' : World} {b : Nat} {lo hi : Int} (h : SpnAt W b lo hi) (hb : Below W.heap.size W W') : SpnAt W' b lo hi := h.below hb h.lt
theorem SpnAt.new (w : World) (lo hi : Int) : SpnAt (w.alloc (.cells #[.int .i64 lo, .int .i64 hi] 23)) w.heap.size lo hi := heap_alloc_new w _
theorem SpnAt.set {W : World} {b : Nat} {lo hi : Int} (h : SpnAt W b lo hi) (lo' hi' : Int) : SpnAt ((W.setCell ⟨b, 0, none⟩ (.int .i64 lo')).setCell ⟨b, 1, none⟩ (.int .i64 hi')) b lo' hi' := by
  unfold SpnAt
  rw [heap_setCell_same _ b _ _ _ _ (heap_setCell_same _ b _ _ _ _ h)]
  rfl
theorem SpnAt.other {W : World} {b q : Nat} {lo hi : Int} (h : SpnAt W b lo hi) (hne : b ≠ q) (j : Nat) (v : Value) : SpnAt (W.setCell ⟨q, j, none⟩ v) b lo hi := (heap_setCell_other _ _ b _ hne).trans h
theorem SpnAt.load {w : World} {p : Nat} {lo hi : Int} (h : SpnAt w p lo hi) : (loadVar 23 ⟨p, 0, none⟩).run Try.prog w = .ok (spnV lo hi) w := run_loadVar_row w p _ _ _ _ _ h Try.underlying23 rfl (by kernel_rfl)

theorem res1_13 {P : Program} {fn : Func} {p : Tmp} {t1 : TypeId} (h : fn.results = #[.cell p t1]) (tmps : Array Value) (w : World) {a : Addr} {v : Value}
    (hp : tmps.getD p undef = .pointer (some a)) (h1 : (loadVar t1 a).run P w = .ok v w) : (results fn tmps).run P w = .ok v w := by
  have hp' : tmps[p]?.getD undef = .pointer (some a) := by simpa using hp
  simp [results, h, hp', asAddr, h1, Result.andThen, Sem.run_bind]

set_option maxRecDepth 100000 in
theorem Right_any13 (lo hi : Int) (w : World) : Calls Try.prog 6 #[spnV lo hi] w fun e w' => e = .returned (.bool (rB13 lo hi)) ∧ Below w.heap.size w w' := by
  obtain ⟨r, hr⟩ : ∃ r, rB13 lo hi = r := ⟨_, rfl⟩
  rw [hr]
  unfold rB13 at hr
  by_cases h0 : 0 ≤ lo
  · have d0 : decide (0 ≤ lo) = true := by simpa using h0
    rw [d0, Bool.true_and] at hr
    by_cases h1 : lo ≤ hi
    · have d1 : decide (lo ≤ hi) = true := by simpa using h1
      rw [d1, Bool.true_and] at hr
      go_enter Try.func6, Try.ntmps6
      go_wp2
      go_ret
      exact ⟨rfl, (Below.refl _ _).alloc (Nat.le_refl _) _⟩
    · have d1 : decide (lo ≤ hi) = false := by simpa using h1
      rw [d1, Bool.false_and] at hr
      subst hr
      go_enter Try.func6, Try.ntmps6
      go_wp2
      go_ret
      exact ⟨rfl, (Below.refl _ _).alloc (Nat.le_refl _) _⟩
  · have d0 : decide (0 ≤ lo) = false := by simpa using h0
    rw [d0, Bool.false_and, Bool.false_and] at hr
    subst hr
    go_enter Try.func6, Try.ntmps6
    go_wp2
    go_ret
    exact ⟨rfl, (Below.refl _ _).alloc (Nat.le_refl _) _⟩

set_option maxRecDepth 100000 in
theorem refRight_any13 (lo hi : Int) (w : World) : Calls Try.prog 7 #[spnV lo hi] w fun e w' => e = .returned (.bool (rB13 lo hi)) ∧ Below w.heap.size w w' := by
  obtain ⟨r, hr⟩ : ∃ r, rB13 lo hi = r := ⟨_, rfl⟩
  rw [hr]
  unfold rB13 at hr
  by_cases h0 : 0 ≤ lo
  · have d0 : decide (0 ≤ lo) = true := by simpa using h0
    rw [d0, Bool.true_and] at hr
    by_cases h1 : lo ≤ hi
    · have d1 : decide (lo ≤ hi) = true := by simpa using h1
      rw [d1, Bool.true_and] at hr
      go_enter Try.func7, Try.ntmps7
      go_wp2
      go_ret
      exact ⟨rfl, (Below.refl _ _).alloc (Nat.le_refl _) _⟩
    · have d1 : decide (lo ≤ hi) = false := by simpa using h1
      rw [d1, Bool.false_and] at hr
      subst hr
      go_enter Try.func7, Try.ntmps7
      go_wp2
      go_ret
      exact ⟨rfl, (Below.refl _ _).alloc (Nat.le_refl _) _⟩
  · have d0 : decide (0 ≤ lo) = false := by simpa using h0
    rw [d0, Bool.false_and, Bool.false_and] at hr
    subst hr
    go_enter Try.func7, Try.ntmps7
    go_wp2
    go_ret
    exact ⟨rfl, (Below.refl _ _).alloc (Nat.le_refl _) _⟩

set_option maxRecDepth 100000 in
theorem Has_any13 (lo hi k : Int) (w : World) : Calls Try.prog 8 #[spnV lo hi, .int .i64 k] w fun e w' => e = .returned (.bool (hB13 lo hi k)) ∧ Below w.heap.size w w' := by
  obtain ⟨r, hr⟩ : ∃ r, hB13 lo hi k = r := ⟨_, rfl⟩
  rw [hr]
  unfold hB13 at hr
  by_cases h0 : lo ≤ k
  · have d0 : decide (lo ≤ k) = true := by simpa using h0
    rw [d0, Bool.true_and] at hr
    go_enter Try.func8, Try.ntmps8
    go_wp2
    go_ret
    exact ⟨rfl, (Below.refl _ _).alloc (Nat.le_refl _) _⟩
  · have d0 : decide (lo ≤ k) = false := by simpa using h0
    rw [d0, Bool.false_and] at hr
    subst hr
    go_enter Try.func8, Try.ntmps8
    go_wp2
    go_ret
    exact ⟨rfl, (Below.refl _ _).alloc (Nat.le_refl _) _⟩

set_option maxRecDepth 100000 in
theorem refHas_any13 (lo hi k : Int) (w : World) : Calls Try.prog 9 #[spnV lo hi, .int .i64 k] w fun e w' => e = .returned (.bool (hB13 lo hi k)) ∧ Below w.heap.size w w' := by
  obtain ⟨r, hr⟩ : ∃ r, hB13 lo hi k = r := ⟨_, rfl⟩
  rw [hr]
  unfold hB13 at hr
  by_cases h0 : lo ≤ k
  · have d0 : decide (lo ≤ k) = true := by simpa using h0
    rw [d0, Bool.true_and] at hr
    go_enter Try.func9, Try.ntmps9
    go_wp2
    go_ret
    exact ⟨rfl, (Below.refl _ _).alloc (Nat.le_refl _) _⟩
  · have d0 : decide (lo ≤ k) = false := by simpa using h0
    rw [d0, Bool.false_and] at hr
    subst hr
    go_enter Try.func9, Try.ntmps9
    go_wp2
    go_ret
    exact ⟨rfl, (Below.refl _ _).alloc (Nat.le_refl _) _⟩

set_option maxRecDepth 100000 in
theorem All_any13 (w : World) : Calls Try.prog 16 #[] w fun e w' => e = .returned (spnV 0 281474976710656) ∧ Below w.heap.size w w' := by
  go_enter Try.func16, Try.ntmps16
  go_wp2
  refine bodyPost_ret (res1_13 Try.results16 _ _ rfl (SpnAt.new w 0 281474976710656).load) rfl ?_
  exact ⟨rfl, (Below.refl w.heap.size w).alloc (Nat.le_refl _) _⟩

end Go.Proofs.Ytkodddklomegfaa
