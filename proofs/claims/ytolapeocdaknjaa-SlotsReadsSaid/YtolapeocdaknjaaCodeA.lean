/-
  The small helpers of layer 1 and of its reference: widths, room, fits.
-/
import Derived.Test.YtolapeocdaknjaaRows
import Derived.Test.YtolapeocdaknjaaMem
import Derived.WalkKit
import Derived.WalkSpells
import Derived.Lib.Hide
import Derived.WalkLawsBesides
namespace Go.Proofs.Ytolapeocdaknjaa
open Go.RowKit
set_option linter.unusedVariables false
set_option linter.unusedSimpArgs false

def isW (x : Int) : Bool := x == 1 || x == 2 || x == 4 || x == 8

theorem isW_cases {x : Int} (h : isW x = true) : x = 1 ∨ x = 2 ∨ x = 4 ∨ x = 8 := by
  simp only [isW, Bool.or_eq_true, beq_iff_eq] at h
  omega

theorem isWidth_any (x : Int) (w : World) (r : Bool) (hr : isW x = r) :
    Calls Try.prog 34 #[.int .i64 x] w fun e w' => e = .returned (.bool r) ∧ w = w' := by
  subst hr
  go_enter Try.func34, Try.ntmps34
  go_wp2
  all_goals go_ret
  all_goals first | exact ⟨rfl, rfl⟩ | (refine ⟨?_, rfl⟩; simp [isW, *])

theorem width_any (x : Int) (w : World) (r : Bool) (hr : isW x = r) :
    Calls Try.prog 38 #[.int .i64 x] w fun e w' => e = .returned (.bool r) ∧ w = w' := by
  subst hr
  go_enter Try.func38, Try.ntmps38
  go_wp2
  all_goals go_ret
  all_goals first | exact ⟨rfl, rfl⟩ | (refine ⟨?_, rfl⟩; simp [isW, *])


/-- the error of a place: ErrArg, ErrEnd, OK -/
def roomE (n : Nat) (i wd : Int) : Int := if isW wd = false then 1 else if i < 0 ∨ (n : Int) - wd < i then 3 else 0

theorem place_any (A : Option Addr) (n c : Nat) (i wd : Int) (w : World) (hn : n ≤ 9223372036854775807) (hi : -9223372036854775808 ≤ i ∧ i ≤ 9223372036854775807) (r : Int) (hr : roomE n i wd = r) :
    Calls Try.prog 23 #[.slice A n c, .int .i64 i, .int .i64 wd] w fun e w' => e = .returned (.int .i64 r) ∧ w = w' := by
  obtain ⟨hi1, hi2⟩ := hi
  cases hw : isW wd with
  | false =>
    obtain rfl : 1 = r := by rw [← hr]; simp [roomE, hw]
    have Hw := Lib.hid hw
    clear hw hr
    go_enter Try.func23, Try.ntmps23
    go_wp2_with (go_at_call 34; refine (isWidth_any _ _ _ Hw.out).mono ?_; rintro e w' ⟨rfl, rfl⟩)
    go_ret
    exact ⟨rfl, rfl⟩
  | true =>
    have hb : 1 ≤ wd ∧ wd ≤ 8 := by rcases isW_cases hw with h | h | h | h <;> omega
    obtain ⟨hb1, hb2⟩ := hb
    have Hw := Lib.hid hw
    have Hr : Hid ((if i < 0 ∨ (n : Int) - wd < i then 3 else 0) = r) := by rw [← hr]; simp [roomE, hw, Hid]
    clear hw hr
    go_enter Try.func23, Try.ntmps23
    go_wp2_with (go_at_call 34; refine (isWidth_any _ _ _ Hw.out).mono ?_; rintro e w' ⟨rfl, rfl⟩)
    all_goals go_ret
    all_goals exact ⟨ret_int (by rw [← Hr.out]; split <;> omega), rfl⟩

theorem room_any (A : Option Addr) (n c : Nat) (i wd : Int) (w : World) (hn : n ≤ 9223372036854775807) (hi : -9223372036854775808 ≤ i ∧ i ≤ 9223372036854775807) (r : Int) (hr : roomE n i wd = r) :
    Calls Try.prog 32 #[.slice A n c, .int .i64 i, .int .i64 wd] w fun e w' => e = .returned (.int .i64 r) ∧ w = w' := by
  obtain ⟨hi1, hi2⟩ := hi
  cases hw : isW wd with
  | false =>
    obtain rfl : 1 = r := by rw [← hr]; simp [roomE, hw]
    have Hw := Lib.hid hw
    clear hw hr
    go_enter Try.func32, Try.ntmps32
    go_wp2_with (go_at_call 38; refine (width_any _ _ _ Hw.out).mono ?_; rintro e w' ⟨rfl, rfl⟩)
    go_ret
    exact ⟨rfl, rfl⟩
  | true =>
    have hb : 1 ≤ wd ∧ wd ≤ 8 := by rcases isW_cases hw with h | h | h | h <;> omega
    obtain ⟨hb1, hb2⟩ := hb
    have Hw := Lib.hid hw
    have Hr : Hid ((if i < 0 ∨ (n : Int) - wd < i then 3 else 0) = r) := by rw [← hr]; simp [roomE, hw, Hid]
    clear hw hr
    go_enter Try.func32, Try.ntmps32
    go_wp2_with (go_at_call 38; refine (width_any _ _ _ Hw.out).mono ?_; rintro e w' ⟨rfl, rfl⟩)
    all_goals go_ret
    all_goals exact ⟨ret_int (by rw [← Hr.out]; split <;> omega), rfl⟩

/-- does a number fit in a width -/
def fitsB (n wd : Int) : Bool := decide (0 ≤ n) && (wd == 8 || decide (n < 256 ^ wd.toNat))

theorem fits_any (n wd : Int) (w : World) (hw : isW wd = true) (hn : -9223372036854775808 ≤ n ∧ n ≤ 9223372036854775807) (r : Bool) (hr : fitsB n wd = r) :
    Calls Try.prog 24 #[.int .i64 n, .int .i64 wd] w fun e w' => e = .returned (.bool r) ∧ w = w' := by
  obtain ⟨hn1, hn2⟩ := hn
  have Hr := Lib.hid hr
  clear hr
  by_cases h0 : 0 ≤ n
  · rcases isW_cases hw with rfl | rfl | rfl | rfl
    all_goals clear hw
    all_goals go_enter Try.func24, Try.ntmps24
    all_goals go_wp2
    all_goals go_ret
    all_goals exact ⟨ret_bool (by rw [← Hr.out, Bool.eq_iff_iff]; simp [fitsB, h0]; try omega), rfl⟩
  · have hneg : n < 0 := by omega
    go_enter Try.func24, Try.ntmps24
    go_wp2
    go_ret
    exact ⟨ret_bool (by rw [← Hr.out]; simp [fitsB]; omega), rfl⟩

end Go.Proofs.Ytolapeocdaknjaa
