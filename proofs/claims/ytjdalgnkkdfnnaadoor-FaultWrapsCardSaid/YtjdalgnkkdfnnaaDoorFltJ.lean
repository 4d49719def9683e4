/-
  fault.Code and fault.Is.
-/
import Derived.Test.YtjdalgnkkdfnnaaDoorFltH
import Derived.Test.YtjdalgnkkdfnnaaDoorFltI
namespace Go.Proofs.YtjdalgnkkdfnnaaDoor
open Go.RowKit
set_option linter.unusedVariables false
set_option linter.unusedSimpArgs false

theorem idle_code (p : Addr) (w : World) :
    CallsD Tryd.prog 30 #[.pointer (some p)] .returning w fun e u' w' => e = .returned (.tuple #[]) ∧ u' = .returning ∧ w' = w := by
  refine callsD_of_wpS Tryd.func30 rfl fun c₀ cs hu => ?_
  apply wpS_seq
  apply wpS_region
  simp [wpOpsS, go_sem, recoverD, hu, Tryd.ntmps30, Exit.thenS]
  refine wpS_cond (t := false) (by simp [Act.eval, Array.replicate]) ?_
  simp only [Bool.false_eq_true, if_false]
  refine wpS_of_wp (wp_skip ?_)
  cases c₀
  simp_all [bodyPostS, results, Tryd.results30]
theorem idle_is (w : World) :
    CallsD Tryd.prog 26 #[] .returning w fun e u' w' => e = .returned (.tuple #[]) ∧ u' = .returning ∧ w' = w := by
  refine callsD_of_wpS Tryd.func26 rfl fun c₀ cs hu => ?_
  apply wpS_region
  cases c₀
  simp_all [wpOpsS, go_sem, recoverD, Tryd.ntmps26, Exit.thenS, bodyPostS, results, Tryd.results26]

/-- Code's answer -/
def codeOf : List Node → Int
  | [] => 0
  | x :: l => match ans (x :: l) with
    | some n => n
    | none => 18

theorem Code_nil (w : World) :
    Calls Tryd.prog 17 #[.nilIface] w fun e w' => e = .returned (.int .i64 0) ∧ Below w.heap.size w w' := by
  have hmf : ∀ (fn : Fn) (first cap : Array Value) (w : World), (Instr.makeFunc fn first cap).run Tryd.prog w = .ok (.func fn first cap) w := fun _ _ _ _ => rfl
  go_enter_defers Tryd.func17, Tryd.ntmps17
  go_wp2
  simp [bodyPostD, Leaves, settle, results, Tryd.results17, go_sem]
  exact (Below.refl _ _).alloc (Nat.le_refl _) _

theorem find_none {l : List Node} (c : Nat) (old : Value) (w : World) (hG : Good w l) (hne : l ≠ []) (hg : ErrT w) (hc : w.cell? ⟨c, 0, none⟩ = some old) (hf : w.frozen? ⟨c, 0, none⟩ = false) (ha : ans l = none) :
    Calls Tryd.prog 27 #[val l, .func (.func 31) #[] #[.pointer (some ⟨c, 0, none⟩)]] w fun e w' => e = .returned (.bool false) ∧ w'.cell? ⟨c, 0, none⟩ = some old ∧ w'.frozen? ⟨c, 0, none⟩ = false ∧ Below c w w' := by
  refine (find_code c old w hG hne hg hc hf).mono ?_
  rintro e w' (⟨_, rfl, h⟩ | ⟨n, w1, h, _⟩)
  · exact ⟨rfl, (h.cell (p := ⟨c, 0, none⟩) (cell_lt hc)).trans hc, (h.frozen (p := ⟨c, 0, none⟩) (cell_lt hc)).trans hf, h.mono (Nat.le_of_lt (cell_lt hc))⟩
  · rw [ha] at h; cases h
theorem find_some {l : List Node} (c : Nat) (n : Int) (old : Value) (w : World) (hG : Good w l) (hne : l ≠ []) (hg : ErrT w) (hc : w.cell? ⟨c, 0, none⟩ = some old) (hf : w.frozen? ⟨c, 0, none⟩ = false) (ha : ans l = some n) :
    Calls Tryd.prog 27 #[val l, .func (.func 31) #[] #[.pointer (some ⟨c, 0, none⟩)]] w fun e w' => e = .returned (.bool true) ∧ w'.cell? ⟨c, 0, none⟩ = some (.int .i64 n) ∧ w'.frozen? ⟨c, 0, none⟩ = false ∧ Below c w w' := by
  refine (find_code c old w hG hne hg hc hf).mono ?_
  rintro e w' (⟨h, _⟩ | ⟨m, w1, h1, rfl, rfl, hb⟩)
  · rw [ha] at h; cases h
  · rw [ha] at h1
    injection h1 with h1
    subst h1
    have hc1 := (hb.cell (p := ⟨c, 0, none⟩) (cell_lt hc)).trans hc
    exact ⟨rfl, World.cell?_setCell_same _ _ _ hc1, by rw [World.frozen?_setCell]; exact (hb.frozen (p := ⟨c, 0, none⟩) (cell_lt hc)).trans hf, (hb.mono (Nat.le_of_lt (cell_lt hc))).setCell (p := ⟨c, 0, none⟩) (Nat.le_refl _) _⟩

set_option maxRecDepth 100000 in
theorem Code_err {x : Node} {l : List Node} {w : World} (hG : Good w (x :: l)) (hg : ErrT w) :
    Calls Tryd.prog 17 #[val (x :: l)] w fun e w' => e = .returned (.int .i64 (codeOf (x :: l))) ∧ Below w.heap.size w w' := by
  have hmf : ∀ (fn : Fn) (first cap : Array Value) (w : World), (Instr.makeFunc fn first cap).run Tryd.prog w = .ok (.func fn first cap) w := fun _ _ _ _ => rfl
  have b1 : Below w.heap.size w (w.alloc (.cells #[.int .i64 0] 34)) := (Below.refl _ _).alloc (Nat.le_refl _) _
  have h1 := (MapKept.heap_alloc w (.cells #[.int .i64 0] 34)).1
  have hc1 := cell_of_row _ w.heap.size 0 _ _ _ h1
  have HB := Lib.hid b1
  obtain ⟨t, u, hv⟩ : ∃ t u, val (x :: l) = .iface t u := by cases x <;> exact ⟨_, _, rfl⟩
  cases hA : ans (x :: l) with
  | none =>
    have FI := Lib.hid (find_none w.heap.size (.int .i64 0) _ (hG.below b1) (by simp) (hg.later b1) hc1 (Lib.frozen_of_heap h1 0) hA)
    have hco : codeOf (x :: l) = 18 := by simp only [codeOf, hA]
    rw [hv] at FI ⊢
    rw [hco]
    clear hG hg hv h1 hc1 b1 hA hco
    go_enter_defers Tryd.func17, Tryd.ntmps17
    go_wp2_with (go_at_call 27; (with_reducible refine FI.out.mono ?_); rintro e w1 ⟨rfl, hc, hf, hb⟩; have H1 := Lib.hid (HB.out.trans hb); clear hb)
    refine leaves_cons (f := 30) (args := #[.pointer (some ⟨w.heap.size, 0, none⟩)]) (by simp) (by simp [go_sem]) ?_
    refine (idle_code ⟨w.heap.size, 0, none⟩ _).mono ?_
    rintro e u' w'' ⟨rfl, rfl, rfl⟩
    have hcc : (w1.setCell ⟨w.heap.size, 0, none⟩ (.int .i64 18)).cell? ⟨w.heap.size, 0, none⟩ = some (.int .i64 18) := World.cell?_setCell_same _ _ _ hc
    simp [Leaves, settle, results, Tryd.results17, go_sem, hcc]
    exact H1.out.setCell (p := ⟨w.heap.size, 0, none⟩) (Nat.le_refl _) _
  | some n =>
    have FI := Lib.hid (find_some w.heap.size n (.int .i64 0) _ (hG.below b1) (by simp) (hg.later b1) hc1 (Lib.frozen_of_heap h1 0) hA)
    have hco : codeOf (x :: l) = n := by simp only [codeOf, hA]
    rw [hv] at FI ⊢
    rw [hco]
    clear hG hg hv h1 hc1 b1 hA hco
    go_enter_defers Tryd.func17, Tryd.ntmps17
    go_wp2_with (go_at_call 27; (with_reducible refine FI.out.mono ?_); rintro e w1 ⟨rfl, hc, hf, hb⟩; have H1 := Lib.hid (HB.out.trans hb); clear hb)
    refine leaves_cons (f := 30) (args := #[.pointer (some ⟨w.heap.size, 0, none⟩)]) (by simp) (by simp [go_sem]) ?_
    refine (idle_code ⟨w.heap.size, 0, none⟩ _).mono ?_
    rintro e u' w'' ⟨rfl, rfl, rfl⟩
    have hcc : (w1.setCell ⟨w.heap.size, 0, none⟩ (.int .i64 n)).cell? ⟨w.heap.size, 0, none⟩ = some (.int .i64 n) := World.cell?_setCell_same _ _ _ hc
    simp [Leaves, settle, results, Tryd.results17, go_sem, hcc]
    exact H1.out.setCell (p := ⟨w.heap.size, 0, none⟩) (Nat.le_refl _) _

theorem Is_nil (n : Int) (w : World) :
    Calls Tryd.prog 13 #[.nilIface, .int .i64 n] w fun e w' => e = .returned (.bool (n == 0)) ∧ Below w.heap.size w w' := by
  have hmf : ∀ (fn : Fn) (first cap : Array Value) (w : World), (Instr.makeFunc fn first cap).run Tryd.prog w = .ok (.func fn first cap) w := fun _ _ _ _ => rfl
  go_enter_defers Tryd.func13, Tryd.ntmps13
  go_wp2
  simp [bodyPostD, Leaves, settle, results, Tryd.results13, go_sem]
  exact (Below.refl _ _).alloc (Nat.le_refl _) _

set_option maxRecDepth 100000 in
theorem Is_err {x : Node} {l : List Node} (n : Int) {w : World} (hG : Good w (x :: l)) :
    Calls Tryd.prog 13 #[val (x :: l), .int .i64 n] w fun e w' => e = .returned (.bool (decide (ans (x :: l) = some n))) ∧ Below w.heap.size w w' := by
  have hmf : ∀ (fn : Fn) (first cap : Array Value) (w : World), (Instr.makeFunc fn first cap).run Tryd.prog w = .ok (.func fn first cap) w := fun _ _ _ _ => rfl
  have b1 : Below w.heap.size w (w.alloc (.cells #[.int .i64 n] 34)) := (Below.refl _ _).alloc (Nat.le_refl _) _
  have h1 := (MapKept.heap_alloc w (.cells #[.int .i64 n] 34)).1
  have hc1 := cell_of_row _ w.heap.size 0 _ _ _ h1
  have HB := Lib.hid b1
  obtain ⟨t, u, hv⟩ : ∃ t u, val (x :: l) = .iface t u := by cases x <;> exact ⟨_, _, rfl⟩
  have FI := Lib.hid (find_is w.heap.size n _ (hG.below b1) (by simp) hc1)
  rw [hv] at FI ⊢
  generalize decide (ans (x :: l) = some n) = r at *
  clear hG hv h1 hc1 b1
  go_enter_defers Tryd.func13, Tryd.ntmps13
  go_wp2_with (go_at_call 27; (with_reducible refine FI.out.mono ?_); rintro e w1 ⟨rfl, hb⟩; have H1 := Lib.hid (HB.out.trans (hb.mono HB.out.size)); clear hb)
  refine leaves_cons (f := 26) (args := #[]) (by simp) (by simp [go_sem]) ?_
  refine (idle_is _).mono ?_
  rintro e u' w'' ⟨rfl, rfl, rfl⟩
  simp [Leaves, settle, results, Tryd.results13, go_sem]
  exact H1.out
end Go.Proofs.YtjdalgnkkdfnnaaDoor
