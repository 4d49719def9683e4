/-
  Joined: CodeA.
-/
import Derived.Test.YtoacgoelhidmbaaRows
import Derived.WalkKit
import Derived.WalkSpells
import Derived.Lib.Hide
import Derived.WalkLawsBesides
import Derived.Test.YtoacgoelhidmbaaJTly01
/-
  The small helpers of layer 1 and of its reference: widths, room, fits.
-/
namespace Go.Proofs.Ytoacgoelhidmbaa
open Go.RowKit
set_option linter.unusedVariables false
set_option linter.unusedSimpArgs false

def isW (x : Int) : Bool := x == 1 || x == 2 || x == 4 || x == 8

theorem isW_cases {x : Int} (h : isW x = true) : x = 1 ∨ x = 2 ∨ x = 4 ∨ x = 8 := by
  simp only [isW, Bool.or_eq_true, beq_iff_eq] at h
  omega

set_option maxRecDepth 100000 in
theorem isWidth_any (x : Int) (w : World) (r : Bool) (hr : isW x = r) :
    Calls Try.prog 35 #[.int .i64 x] w fun e w' => e = .returned (.bool r) ∧ w = w' := by
  subst hr
  go_enter Try.func35, Try.ntmps35
  go_wp2
  all_goals go_ret
  all_goals first | exact ⟨rfl, rfl⟩ | (refine ⟨?_, rfl⟩; simp [isW, *])

set_option maxRecDepth 100000 in
theorem width_any (x : Int) (w : World) (r : Bool) (hr : isW x = r) :
    Calls Try.prog 42 #[.int .i64 x] w fun e w' => e = .returned (.bool r) ∧ w = w' := by
  subst hr
  go_enter Try.func42, Try.ntmps42
  go_wp2
  all_goals go_ret
  all_goals first | exact ⟨rfl, rfl⟩ | (refine ⟨?_, rfl⟩; simp [isW, *])


/-- the error of a place: ErrArg, ErrEnd, OK -/
def roomE (n : Nat) (i wd : Int) : Int := if isW wd = false then 1 else if i < 0 ∨ (n : Int) - wd < i then 3 else 0

set_option maxRecDepth 100000 in
theorem place_any (A : Option Addr) (n c : Nat) (i wd : Int) (w : World) (hn : n ≤ 9223372036854775807) (hi : -9223372036854775808 ≤ i ∧ i ≤ 9223372036854775807) (r : Int) (hr : roomE n i wd = r) :
    Calls Try.prog 40 #[.slice A n c, .int .i64 i, .int .i64 wd] w fun e w' => e = .returned (.int .i64 r) ∧ w = w' := by
  obtain ⟨hi1, hi2⟩ := hi
  cases hw : isW wd with
  | false =>
    obtain rfl : 1 = r := by rw [← hr]; simp [roomE, hw]
    have Hw := Lib.hid hw
    clear hw hr
    go_enter Try.func40, Try.ntmps40
    go_wp2_with (go_at_call 35; refine (isWidth_any _ _ _ Hw.out).mono ?_; rintro e w' ⟨rfl, rfl⟩)
    go_ret
    exact ⟨rfl, rfl⟩
  | true =>
    have hb : 1 ≤ wd ∧ wd ≤ 8 := by rcases isW_cases hw with h | h | h | h <;> omega
    obtain ⟨hb1, hb2⟩ := hb
    have Hw := Lib.hid hw
    have Hr : Hid ((if i < 0 ∨ (n : Int) - wd < i then 3 else 0) = r) := by rw [← hr]; simp [roomE, hw, Hid]
    clear hw hr
    go_enter Try.func40, Try.ntmps40
    go_wp2_with (go_at_call 35; refine (isWidth_any _ _ _ Hw.out).mono ?_; rintro e w' ⟨rfl, rfl⟩)
    all_goals go_ret
    all_goals exact ⟨ret_int (by rw [← Hr.out]; split <;> omega), rfl⟩

set_option maxRecDepth 100000 in
theorem room_any (A : Option Addr) (n c : Nat) (i wd : Int) (w : World) (hn : n ≤ 9223372036854775807) (hi : -9223372036854775808 ≤ i ∧ i ≤ 9223372036854775807) (r : Int) (hr : roomE n i wd = r) :
    Calls Try.prog 39 #[.slice A n c, .int .i64 i, .int .i64 wd] w fun e w' => e = .returned (.int .i64 r) ∧ w = w' := by
  obtain ⟨hi1, hi2⟩ := hi
  cases hw : isW wd with
  | false =>
    obtain rfl : 1 = r := by rw [← hr]; simp [roomE, hw]
    have Hw := Lib.hid hw
    clear hw hr
    go_enter Try.func39, Try.ntmps39
    go_wp2_with (go_at_call 42; refine (width_any _ _ _ Hw.out).mono ?_; rintro e w' ⟨rfl, rfl⟩)
    go_ret
    exact ⟨rfl, rfl⟩
  | true =>
    have hb : 1 ≤ wd ∧ wd ≤ 8 := by rcases isW_cases hw with h | h | h | h <;> omega
    obtain ⟨hb1, hb2⟩ := hb
    have Hw := Lib.hid hw
    have Hr : Hid ((if i < 0 ∨ (n : Int) - wd < i then 3 else 0) = r) := by rw [← hr]; simp [roomE, hw, Hid]
    clear hw hr
    go_enter Try.func39, Try.ntmps39
    go_wp2_with (go_at_call 42; refine (width_any _ _ _ Hw.out).mono ?_; rintro e w' ⟨rfl, rfl⟩)
    all_goals go_ret
    all_goals exact ⟨ret_int (by rw [← Hr.out]; split <;> omega), rfl⟩

/-- does a number fit in a width -/
def fitsB (n wd : Int) : Bool := decide (0 ≤ n) && (wd == 8 || decide (n < 256 ^ wd.toNat))

set_option maxRecDepth 100000 in
theorem fits_any (n wd : Int) (w : World) (hw : isW wd = true) (hn : -9223372036854775808 ≤ n ∧ n ≤ 9223372036854775807) (r : Bool) (hr : fitsB n wd = r) :
    Calls Try.prog 36 #[.int .i64 n, .int .i64 wd] w fun e w' => e = .returned (.bool r) ∧ w = w' := by
  obtain ⟨hn1, hn2⟩ := hn
  have Hr := Lib.hid hr
  clear hr
  by_cases h0 : 0 ≤ n
  · rcases isW_cases hw with rfl | rfl | rfl | rfl
    all_goals clear hw
    all_goals go_enter Try.func36, Try.ntmps36
    all_goals go_wp2
    all_goals go_ret
    all_goals exact ⟨ret_bool (by rw [← Hr.out, Bool.eq_iff_iff]; simp [fitsB, h0]; try omega), rfl⟩
  · have hneg : n < 0 := by omega
    go_enter Try.func36, Try.ntmps36
    go_wp2
    go_ret
    exact ⟨ret_bool (by rw [← Hr.out]; simp [fitsB]; omega), rfl⟩

end Go.Proofs.Ytoacgoelhidmbaa
