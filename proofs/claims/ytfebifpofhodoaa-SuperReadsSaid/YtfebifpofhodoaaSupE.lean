/-
  Layer 6's reference: in, Right.
-/
import Derived.Test.YtfebifpofhodoaaSupD
namespace Go.Proofs.Ytfebifpofhodoaa
open Go.RowKit
set_option linter.unusedVariables false
set_option linter.unusedSimpArgs false

def inB (n lo hi : Int) : Bool := decide (lo ≤ n) && decide (n ≤ hi)

theorem refIn_any (n lo hi : Int) (W : World) (r : Bool) (h : inB n lo hi = r) : Calls Try.prog 18 #[.int .i64 n, .int .i64 lo, .int .i64 hi] W fun e w' => e = .returned (.bool r) ∧ W = w' := by
  by_cases h1 : lo ≤ n
  · have e : decide (n ≤ hi) = r := by rw [← h, inB, decide_eq_true h1, Bool.true_and]
    have HE := Lib.hid e
    clear h e
    go_enter Try.func18, Try.ntmps18
    go_wp2
    go_ret
    exact ⟨ret_bool HE.out, rfl⟩
  · have e : r = false := by rw [← h, inB, decide_eq_false h1, Bool.false_and]
    subst e
    clear h
    go_enter Try.func18, Try.ntmps18
    go_wp2
    go_ret
    exact ⟨rfl, rfl⟩

theorem inB_iff {n lo hi : Int} : inB n lo hi = true ↔ lo ≤ n ∧ n ≤ hi := by simp [inB]

theorem allB_eq (f : Nat → Int) : allB f 11 = (inB (f 0) 0 2147483647 && (inB (f 1) 0 16777215 && (inB (f 2) 1 65536 && (inB (f 3) 0 65536 && (inB (f 4) 2 14400 && (inB (f 5) 1 (f 4 - 1) && (inB (f 6) 1 (f 4 - 1) && (inB (f 7) 1 (f 4 - 1) && (inB (f 8) 1 (f 4 - 1) && (inB (f 9) 1 (f 4 - 1) && (inB (f 10) 1 (f 4 - 1)))))))))))) := by
  have e : ∀ k, okB f k = inB (f k) (loV k) (hiV (wrap64 (f 4 - 1)) k) := fun _ => rfl
  simp only [allB, e, loV, hiV, Bool.true_and, Bool.and_assoc]
  cases h4 : inB (f 4) 2 14400
  · simp
  · rw [inB_iff] at h4
    have hw : wrap64 (f 4 - 1) = f 4 - 1 := by unfold wrap64; omega
    rw [hw]

set_option maxRecDepth 100000 in
set_option maxHeartbeats 3200000 in
theorem refSRight_any (w : World) (f : Nat → Int) : Calls Try.prog 9 #[supV f] w fun e w' => e = .returned (.bool (allB f 11)) ∧ Below w.heap.size w w' := by
  have hb0 : Below w.heap.size w (w.alloc (.cells (supC f) 23)) := (Below.refl _ _).alloc (Nat.le_refl _) _
  have E := Lib.hid (allB_eq f)
  generalize allB f 11 = r at *
  simp only [supV, supC] at hb0 ⊢
  cases e0 : inB (f 0) 0 2147483647
  case false =>
    have e := E.out
    rw [e0] at e
    have I0 := Lib.hid (fun W => refIn_any _ _ _ W _ e0)
    obtain rfl : r = false := e
    clear E e0
    go_enter Try.func9, Try.ntmps9
    go_wp2_with (go_at_call 18; first
      | ((with_reducible refine (I0.out _).mono ?_); rintro e w' ⟨rfl, rfl⟩))
    go_ret
    exact ⟨rfl, hb0⟩
  cases e1 : inB (f 1) 0 16777215
  case false =>
    have e := E.out
    rw [e0, e1] at e
    have I0 := Lib.hid (fun W => refIn_any _ _ _ W _ e0)
    have I1 := Lib.hid (fun W => refIn_any _ _ _ W _ e1)
    obtain rfl : r = false := e
    clear E e0 e1
    go_enter Try.func9, Try.ntmps9
    go_wp2_with (go_at_call 18; first
      | ((with_reducible refine (I0.out _).mono ?_); rintro e w' ⟨rfl, rfl⟩)
      | ((with_reducible refine (I1.out _).mono ?_); rintro e w' ⟨rfl, rfl⟩))
    go_ret
    exact ⟨rfl, hb0⟩
  cases e2 : inB (f 2) 1 65536
  case false =>
    have e := E.out
    rw [e0, e1, e2] at e
    have I0 := Lib.hid (fun W => refIn_any _ _ _ W _ e0)
    have I1 := Lib.hid (fun W => refIn_any _ _ _ W _ e1)
    have I2 := Lib.hid (fun W => refIn_any _ _ _ W _ e2)
    obtain rfl : r = false := e
    clear E e0 e1 e2
    go_enter Try.func9, Try.ntmps9
    go_wp2_with (go_at_call 18; first
      | ((with_reducible refine (I0.out _).mono ?_); rintro e w' ⟨rfl, rfl⟩)
      | ((with_reducible refine (I1.out _).mono ?_); rintro e w' ⟨rfl, rfl⟩)
      | ((with_reducible refine (I2.out _).mono ?_); rintro e w' ⟨rfl, rfl⟩))
    go_ret
    exact ⟨rfl, hb0⟩
  cases e3 : inB (f 3) 0 65536
  case false =>
    have e := E.out
    rw [e0, e1, e2, e3] at e
    have I0 := Lib.hid (fun W => refIn_any _ _ _ W _ e0)
    have I1 := Lib.hid (fun W => refIn_any _ _ _ W _ e1)
    have I2 := Lib.hid (fun W => refIn_any _ _ _ W _ e2)
    have I3 := Lib.hid (fun W => refIn_any _ _ _ W _ e3)
    obtain rfl : r = false := e
    clear E e0 e1 e2 e3
    go_enter Try.func9, Try.ntmps9
    go_wp2_with (go_at_call 18; first
      | ((with_reducible refine (I0.out _).mono ?_); rintro e w' ⟨rfl, rfl⟩)
      | ((with_reducible refine (I1.out _).mono ?_); rintro e w' ⟨rfl, rfl⟩)
      | ((with_reducible refine (I2.out _).mono ?_); rintro e w' ⟨rfl, rfl⟩)
      | ((with_reducible refine (I3.out _).mono ?_); rintro e w' ⟨rfl, rfl⟩))
    go_ret
    exact ⟨rfl, hb0⟩
  cases e4 : inB (f 4) 2 14400
  case false =>
    have e := E.out
    rw [e0, e1, e2, e3, e4] at e
    have I0 := Lib.hid (fun W => refIn_any _ _ _ W _ e0)
    have I1 := Lib.hid (fun W => refIn_any _ _ _ W _ e1)
    have I2 := Lib.hid (fun W => refIn_any _ _ _ W _ e2)
    have I3 := Lib.hid (fun W => refIn_any _ _ _ W _ e3)
    have I4 := Lib.hid (fun W => refIn_any _ _ _ W _ e4)
    obtain rfl : r = false := e
    clear E e0 e1 e2 e3 e4
    go_enter Try.func9, Try.ntmps9
    go_wp2_with (go_at_call 18; first
      | ((with_reducible refine (I0.out _).mono ?_); rintro e w' ⟨rfl, rfl⟩)
      | ((with_reducible refine (I1.out _).mono ?_); rintro e w' ⟨rfl, rfl⟩)
      | ((with_reducible refine (I2.out _).mono ?_); rintro e w' ⟨rfl, rfl⟩)
      | ((with_reducible refine (I3.out _).mono ?_); rintro e w' ⟨rfl, rfl⟩)
      | ((with_reducible refine (I4.out _).mono ?_); rintro e w' ⟨rfl, rfl⟩))
    go_ret
    exact ⟨rfl, hb0⟩
  have h4 := inB_iff.1 e4
  obtain ⟨h41, h42⟩ := h4
  cases e5 : inB (f 5) 1 (f 4 - 1)
  case false =>
    have e := E.out
    rw [e0, e1, e2, e3, e4, e5] at e
    have I0 := Lib.hid (fun W => refIn_any _ _ _ W _ e0)
    have I1 := Lib.hid (fun W => refIn_any _ _ _ W _ e1)
    have I2 := Lib.hid (fun W => refIn_any _ _ _ W _ e2)
    have I3 := Lib.hid (fun W => refIn_any _ _ _ W _ e3)
    have I4 := Lib.hid (fun W => refIn_any _ _ _ W _ e4)
    have I5 := Lib.hid (fun W => refIn_any _ _ _ W _ e5)
    obtain rfl : r = false := e
    clear E e0 e1 e2 e3 e4 e5
    go_enter Try.func9, Try.ntmps9
    go_wp2_with (go_at_call 18; first
      | ((with_reducible refine (I0.out _).mono ?_); rintro e w' ⟨rfl, rfl⟩)
      | ((with_reducible refine (I1.out _).mono ?_); rintro e w' ⟨rfl, rfl⟩)
      | ((with_reducible refine (I2.out _).mono ?_); rintro e w' ⟨rfl, rfl⟩)
      | ((with_reducible refine (I3.out _).mono ?_); rintro e w' ⟨rfl, rfl⟩)
      | ((with_reducible refine (I4.out _).mono ?_); rintro e w' ⟨rfl, rfl⟩)
      | ((with_reducible refine (I5.out _).mono ?_); rintro e w' ⟨rfl, rfl⟩))
    go_ret
    exact ⟨rfl, hb0⟩
  cases e6 : inB (f 6) 1 (f 4 - 1)
  case false =>
    have e := E.out
    rw [e0, e1, e2, e3, e4, e5, e6] at e
    have I0 := Lib.hid (fun W => refIn_any _ _ _ W _ e0)
    have I1 := Lib.hid (fun W => refIn_any _ _ _ W _ e1)
    have I2 := Lib.hid (fun W => refIn_any _ _ _ W _ e2)
    have I3 := Lib.hid (fun W => refIn_any _ _ _ W _ e3)
    have I4 := Lib.hid (fun W => refIn_any _ _ _ W _ e4)
    have I5 := Lib.hid (fun W => refIn_any _ _ _ W _ e5)
    have I6 := Lib.hid (fun W => refIn_any _ _ _ W _ e6)
    obtain rfl : r = false := e
    clear E e0 e1 e2 e3 e4 e5 e6
    go_enter Try.func9, Try.ntmps9
    go_wp2_with (go_at_call 18; first
      | ((with_reducible refine (I0.out _).mono ?_); rintro e w' ⟨rfl, rfl⟩)
      | ((with_reducible refine (I1.out _).mono ?_); rintro e w' ⟨rfl, rfl⟩)
      | ((with_reducible refine (I2.out _).mono ?_); rintro e w' ⟨rfl, rfl⟩)
      | ((with_reducible refine (I3.out _).mono ?_); rintro e w' ⟨rfl, rfl⟩)
      | ((with_reducible refine (I4.out _).mono ?_); rintro e w' ⟨rfl, rfl⟩)
      | ((with_reducible refine (I5.out _).mono ?_); rintro e w' ⟨rfl, rfl⟩)
      | ((with_reducible refine (I6.out _).mono ?_); rintro e w' ⟨rfl, rfl⟩))
    go_ret
    exact ⟨rfl, hb0⟩
  cases e7 : inB (f 7) 1 (f 4 - 1)
  case false =>
    have e := E.out
    rw [e0, e1, e2, e3, e4, e5, e6, e7] at e
    have I0 := Lib.hid (fun W => refIn_any _ _ _ W _ e0)
    have I1 := Lib.hid (fun W => refIn_any _ _ _ W _ e1)
    have I2 := Lib.hid (fun W => refIn_any _ _ _ W _ e2)
    have I3 := Lib.hid (fun W => refIn_any _ _ _ W _ e3)
    have I4 := Lib.hid (fun W => refIn_any _ _ _ W _ e4)
    have I5 := Lib.hid (fun W => refIn_any _ _ _ W _ e5)
    have I6 := Lib.hid (fun W => refIn_any _ _ _ W _ e6)
    have I7 := Lib.hid (fun W => refIn_any _ _ _ W _ e7)
    obtain rfl : r = false := e
    clear E e0 e1 e2 e3 e4 e5 e6 e7
    go_enter Try.func9, Try.ntmps9
    go_wp2_with (go_at_call 18; first
      | ((with_reducible refine (I0.out _).mono ?_); rintro e w' ⟨rfl, rfl⟩)
      | ((with_reducible refine (I1.out _).mono ?_); rintro e w' ⟨rfl, rfl⟩)
      | ((with_reducible refine (I2.out _).mono ?_); rintro e w' ⟨rfl, rfl⟩)
      | ((with_reducible refine (I3.out _).mono ?_); rintro e w' ⟨rfl, rfl⟩)
      | ((with_reducible refine (I4.out _).mono ?_); rintro e w' ⟨rfl, rfl⟩)
      | ((with_reducible refine (I5.out _).mono ?_); rintro e w' ⟨rfl, rfl⟩)
      | ((with_reducible refine (I6.out _).mono ?_); rintro e w' ⟨rfl, rfl⟩)
      | ((with_reducible refine (I7.out _).mono ?_); rintro e w' ⟨rfl, rfl⟩))
    go_ret
    exact ⟨rfl, hb0⟩
  cases e8 : inB (f 8) 1 (f 4 - 1)
  case false =>
    have e := E.out
    rw [e0, e1, e2, e3, e4, e5, e6, e7, e8] at e
    have I0 := Lib.hid (fun W => refIn_any _ _ _ W _ e0)
    have I1 := Lib.hid (fun W => refIn_any _ _ _ W _ e1)
    have I2 := Lib.hid (fun W => refIn_any _ _ _ W _ e2)
    have I3 := Lib.hid (fun W => refIn_any _ _ _ W _ e3)
    have I4 := Lib.hid (fun W => refIn_any _ _ _ W _ e4)
    have I5 := Lib.hid (fun W => refIn_any _ _ _ W _ e5)
    have I6 := Lib.hid (fun W => refIn_any _ _ _ W _ e6)
    have I7 := Lib.hid (fun W => refIn_any _ _ _ W _ e7)
    have I8 := Lib.hid (fun W => refIn_any _ _ _ W _ e8)
    obtain rfl : r = false := e
    clear E e0 e1 e2 e3 e4 e5 e6 e7 e8
    go_enter Try.func9, Try.ntmps9
    go_wp2_with (go_at_call 18; first
      | ((with_reducible refine (I0.out _).mono ?_); rintro e w' ⟨rfl, rfl⟩)
      | ((with_reducible refine (I1.out _).mono ?_); rintro e w' ⟨rfl, rfl⟩)
      | ((with_reducible refine (I2.out _).mono ?_); rintro e w' ⟨rfl, rfl⟩)
      | ((with_reducible refine (I3.out _).mono ?_); rintro e w' ⟨rfl, rfl⟩)
      | ((with_reducible refine (I4.out _).mono ?_); rintro e w' ⟨rfl, rfl⟩)
      | ((with_reducible refine (I5.out _).mono ?_); rintro e w' ⟨rfl, rfl⟩)
      | ((with_reducible refine (I6.out _).mono ?_); rintro e w' ⟨rfl, rfl⟩)
      | ((with_reducible refine (I7.out _).mono ?_); rintro e w' ⟨rfl, rfl⟩)
      | ((with_reducible refine (I8.out _).mono ?_); rintro e w' ⟨rfl, rfl⟩))
    go_ret
    exact ⟨rfl, hb0⟩
  cases e9 : inB (f 9) 1 (f 4 - 1)
  case false =>
    have e := E.out
    rw [e0, e1, e2, e3, e4, e5, e6, e7, e8, e9] at e
    have I0 := Lib.hid (fun W => refIn_any _ _ _ W _ e0)
    have I1 := Lib.hid (fun W => refIn_any _ _ _ W _ e1)
    have I2 := Lib.hid (fun W => refIn_any _ _ _ W _ e2)
    have I3 := Lib.hid (fun W => refIn_any _ _ _ W _ e3)
    have I4 := Lib.hid (fun W => refIn_any _ _ _ W _ e4)
    have I5 := Lib.hid (fun W => refIn_any _ _ _ W _ e5)
    have I6 := Lib.hid (fun W => refIn_any _ _ _ W _ e6)
    have I7 := Lib.hid (fun W => refIn_any _ _ _ W _ e7)
    have I8 := Lib.hid (fun W => refIn_any _ _ _ W _ e8)
    have I9 := Lib.hid (fun W => refIn_any _ _ _ W _ e9)
    obtain rfl : r = false := e
    clear E e0 e1 e2 e3 e4 e5 e6 e7 e8 e9
    go_enter Try.func9, Try.ntmps9
    go_wp2_with (go_at_call 18; first
      | ((with_reducible refine (I0.out _).mono ?_); rintro e w' ⟨rfl, rfl⟩)
      | ((with_reducible refine (I1.out _).mono ?_); rintro e w' ⟨rfl, rfl⟩)
      | ((with_reducible refine (I2.out _).mono ?_); rintro e w' ⟨rfl, rfl⟩)
      | ((with_reducible refine (I3.out _).mono ?_); rintro e w' ⟨rfl, rfl⟩)
      | ((with_reducible refine (I4.out _).mono ?_); rintro e w' ⟨rfl, rfl⟩)
      | ((with_reducible refine (I5.out _).mono ?_); rintro e w' ⟨rfl, rfl⟩)
      | ((with_reducible refine (I6.out _).mono ?_); rintro e w' ⟨rfl, rfl⟩)
      | ((with_reducible refine (I7.out _).mono ?_); rintro e w' ⟨rfl, rfl⟩)
      | ((with_reducible refine (I8.out _).mono ?_); rintro e w' ⟨rfl, rfl⟩)
      | ((with_reducible refine (I9.out _).mono ?_); rintro e w' ⟨rfl, rfl⟩))
    go_ret
    exact ⟨rfl, hb0⟩
  cases e10 : inB (f 10) 1 (f 4 - 1)
  case false =>
    have e := E.out
    rw [e0, e1, e2, e3, e4, e5, e6, e7, e8, e9, e10] at e
    have I0 := Lib.hid (fun W => refIn_any _ _ _ W _ e0)
    have I1 := Lib.hid (fun W => refIn_any _ _ _ W _ e1)
    have I2 := Lib.hid (fun W => refIn_any _ _ _ W _ e2)
    have I3 := Lib.hid (fun W => refIn_any _ _ _ W _ e3)
    have I4 := Lib.hid (fun W => refIn_any _ _ _ W _ e4)
    have I5 := Lib.hid (fun W => refIn_any _ _ _ W _ e5)
    have I6 := Lib.hid (fun W => refIn_any _ _ _ W _ e6)
    have I7 := Lib.hid (fun W => refIn_any _ _ _ W _ e7)
    have I8 := Lib.hid (fun W => refIn_any _ _ _ W _ e8)
    have I9 := Lib.hid (fun W => refIn_any _ _ _ W _ e9)
    have I10 := Lib.hid (fun W => refIn_any _ _ _ W _ e10)
    obtain rfl : r = false := e
    clear E e0 e1 e2 e3 e4 e5 e6 e7 e8 e9 e10
    go_enter Try.func9, Try.ntmps9
    go_wp2_with (go_at_call 18; first
      | ((with_reducible refine (I0.out _).mono ?_); rintro e w' ⟨rfl, rfl⟩)
      | ((with_reducible refine (I1.out _).mono ?_); rintro e w' ⟨rfl, rfl⟩)
      | ((with_reducible refine (I2.out _).mono ?_); rintro e w' ⟨rfl, rfl⟩)
      | ((with_reducible refine (I3.out _).mono ?_); rintro e w' ⟨rfl, rfl⟩)
      | ((with_reducible refine (I4.out _).mono ?_); rintro e w' ⟨rfl, rfl⟩)
      | ((with_reducible refine (I5.out _).mono ?_); rintro e w' ⟨rfl, rfl⟩)
      | ((with_reducible refine (I6.out _).mono ?_); rintro e w' ⟨rfl, rfl⟩)
      | ((with_reducible refine (I7.out _).mono ?_); rintro e w' ⟨rfl, rfl⟩)
      | ((with_reducible refine (I8.out _).mono ?_); rintro e w' ⟨rfl, rfl⟩)
      | ((with_reducible refine (I9.out _).mono ?_); rintro e w' ⟨rfl, rfl⟩)
      | ((with_reducible refine (I10.out _).mono ?_); rintro e w' ⟨rfl, rfl⟩))
    go_ret
    exact ⟨rfl, hb0⟩
  have e := E.out
  rw [e0, e1, e2, e3, e4, e5, e6, e7, e8, e9, e10] at e
  have I0 := Lib.hid (fun W => refIn_any _ _ _ W _ e0)
  have I1 := Lib.hid (fun W => refIn_any _ _ _ W _ e1)
  have I2 := Lib.hid (fun W => refIn_any _ _ _ W _ e2)
  have I3 := Lib.hid (fun W => refIn_any _ _ _ W _ e3)
  have I4 := Lib.hid (fun W => refIn_any _ _ _ W _ e4)
  have I5 := Lib.hid (fun W => refIn_any _ _ _ W _ e5)
  have I6 := Lib.hid (fun W => refIn_any _ _ _ W _ e6)
  have I7 := Lib.hid (fun W => refIn_any _ _ _ W _ e7)
  have I8 := Lib.hid (fun W => refIn_any _ _ _ W _ e8)
  have I9 := Lib.hid (fun W => refIn_any _ _ _ W _ e9)
  have I10 := Lib.hid (fun W => refIn_any _ _ _ W _ e10)
  obtain rfl : r = true := e
  clear E e0 e1 e2 e3 e4 e5 e6 e7 e8 e9 e10
  go_enter Try.func9, Try.ntmps9
  go_wp2_with (go_at_call 18; first
    | ((with_reducible refine (I0.out _).mono ?_); rintro e w' ⟨rfl, rfl⟩)
    | ((with_reducible refine (I1.out _).mono ?_); rintro e w' ⟨rfl, rfl⟩)
    | ((with_reducible refine (I2.out _).mono ?_); rintro e w' ⟨rfl, rfl⟩)
    | ((with_reducible refine (I3.out _).mono ?_); rintro e w' ⟨rfl, rfl⟩)
    | ((with_reducible refine (I4.out _).mono ?_); rintro e w' ⟨rfl, rfl⟩)
    | ((with_reducible refine (I5.out _).mono ?_); rintro e w' ⟨rfl, rfl⟩)
    | ((with_reducible refine (I6.out _).mono ?_); rintro e w' ⟨rfl, rfl⟩)
    | ((with_reducible refine (I7.out _).mono ?_); rintro e w' ⟨rfl, rfl⟩)
    | ((with_reducible refine (I8.out _).mono ?_); rintro e w' ⟨rfl, rfl⟩)
    | ((with_reducible refine (I9.out _).mono ?_); rintro e w' ⟨rfl, rfl⟩)
    | ((with_reducible refine (I10.out _).mono ?_); rintro e w' ⟨rfl, rfl⟩))
  go_ret
  exact ⟨rfl, hb0⟩

end Go.Proofs.Ytfebifpofhodoaa
