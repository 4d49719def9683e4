/-
  Layer 4's small functions: isKind, isNumber, Salt, unless, stored, sum; the reference's Salt and known.
-/
import Derived.Test.YtldgdgkojlohfaaSealMath
import Derived.Test.YtldgdgkojlohfaaCrcE
import Derived.Test.YtldgdgkojlohfaaInfo
import Derived.WalkSpells
import Derived.WalkLawsBesides
namespace Go.Proofs.Ytldgdgkojlohfaa
open Go.RowKit
set_option linter.unusedVariables false
set_option linter.unusedSimpArgs false

theorem isKind_any (x : Int) (w : World) (r : Bool) (hr : kindB x = r) :
    Calls Try.prog 16 #[.int .i64 x] w fun e w' => e = .returned (.bool r) ∧ w = w' := by
  subst hr
  go_enter Try.func16, Try.ntmps16
  go_wp2
  all_goals go_ret
  all_goals refine ⟨ret_bool ?_, rfl⟩
  all_goals (simp [kindB]; try omega)

theorem isNumber_any (x : Int) (w : World) (r : Bool) (hr : numB x = r) :
    Calls Try.prog 17 #[.int .i64 x] w fun e w' => e = .returned (.bool r) ∧ w = w' := by
  subst hr
  go_enter Try.func17, Try.ntmps17
  go_wp2
  all_goals go_ret
  all_goals refine ⟨ret_bool ?_, rfl⟩
  all_goals (simp [numB]; try omega)

theorem unless_any (b : Bool) (x : Int) (y : Int) (hy : (if b = true then 0 else x) = y) (w : World) :
    Calls Try.prog 34 #[.bool b, .int .i64 x] w fun e w' => e = .returned (.int .i64 y) ∧ w = w' := by
  cases b
  case' true => obtain rfl : 0 = y := hy
  case' false => obtain rfl : x = y := hy
  all_goals try clear hy
  all_goals go_enter Try.func34, Try.ntmps34
  all_goals go_wp2
  all_goals go_ret
  all_goals exact ⟨rfl, rfl⟩

theorem Salt_any (x : Int) (w : World) :
    Calls Try.prog 9 #[.int .i64 x] w fun e w' => e = .returned (.int .i64 (saltN x : Int)) ∧ w = w' := by
  by_cases h1 : x = 1
  · subst h1
    go_enter Try.func9, Try.ntmps9
    go_wp2
    go_ret
    exact ⟨rfl, rfl⟩
  by_cases h2 : x = 2
  · subst h2
    go_enter Try.func9, Try.ntmps9
    go_wp2
    go_ret
    exact ⟨rfl, rfl⟩
  by_cases h3 : x = 3
  · subst h3
    go_enter Try.func9, Try.ntmps9
    go_wp2
    go_ret
    exact ⟨rfl, rfl⟩
  by_cases h4 : x = 4
  · subst h4
    go_enter Try.func9, Try.ntmps9
    go_wp2
    go_ret
    exact ⟨rfl, rfl⟩
  · have q1 : (x == 1) = false := by simpa using h1
    have q2 : (x == 2) = false := by simpa using h2
    have q3 : (x == 3) = false := by simpa using h3
    have q4 : (x == 4) = false := by simpa using h4
    have E : Hid (saltN x = 0) := by simp [Hid, saltN, h1, h2, h3, h4]
    clear h1 h2 h3 h4
    go_enter Try.func9, Try.ntmps9
    go_wp2
    go_ret
    exact ⟨ret_int (by rw [E.out]; rfl), rfl⟩

theorem refKnown_any (k no : Int) (w : World) (r : Bool) (hr : knownB k no = r) :
    Calls Try.prog 21 #[.int .i64 k, .int .i64 no] w fun e w' => e = .returned (.bool r) ∧ w = w' := by
  subst hr
  go_enter Try.func21, Try.ntmps21
  go_wp2
  all_goals go_ret
  all_goals refine ⟨ret_bool ?_, rfl⟩
  all_goals (rw [Bool.eq_iff_iff]; simp [knownB, kindB, numB]; try omega)

theorem refSalt_any (x : Int) (w : World) :
    Calls Try.prog 10 #[.int .i64 x] w fun e w' => e = .returned (.int .i64 (saltN x : Int)) ∧ Below w.heap.size w w' := by
  by_cases h0 : x < 0
  · have E : Hid (saltN x = 0) := by simp only [Hid, saltN]; rw [if_neg (by omega), if_neg (by omega), if_neg (by omega), if_neg (by omega)]
    go_enter Try.func10, Try.ntmps10
    go_wp2
    go_ret
    exact ⟨ret_int (by rw [E.out]; rfl), (Below.refl _ _).alloc (Nat.le_refl _) _⟩
  by_cases h5 : 4 < x
  · have E : Hid (saltN x = 0) := by simp only [Hid, saltN]; rw [if_neg (by omega), if_neg (by omega), if_neg (by omega), if_neg (by omega)]
    go_enter Try.func10, Try.ntmps10
    go_wp2
    go_ret
    exact ⟨ret_int (by rw [E.out]; rfl), (Below.refl _ _).alloc (Nat.le_refl _) _⟩
  rcases (show x = 0 ∨ x = 1 ∨ x = 2 ∨ x = 3 ∨ x = 4 by omega) with rfl | rfl | rfl | rfl | rfl
  all_goals clear h0 h5
  all_goals go_enter Try.func10, Try.ntmps10
  all_goals go_wp2
  all_goals go_ret
  all_goals exact ⟨rfl, (Below.refl _ _).alloc (Nat.le_refl _) _⟩

/-- -9223372036854775808 up to 9223372036854775807 -/
theorem getE_cases (l : List UInt8) (i wd : Int) : getE l i wd = 0 ∨ getE l i wd ≠ 0 := by omega

theorem getE_small (l : List UInt8) (i wd : Int) : 0 ≤ getE l i wd ∧ getE l i wd ≤ 3 := by
  unfold getE
  rcases roomE_cases l.length i wd with h | h | ⟨h, _⟩ <;> rw [h] <;> simp <;> split <;> omega

set_option maxHeartbeats 400000 in
theorem stored_any (A : Option Addr) (n c : Nat) (l : List UInt8) (i wd : Int) (w : World) (h : Bytes8 w A n c l) (hi : -9223372036854775808 ≤ i ∧ i ≤ 9223372036854775807) :
    Calls Try.prog 26 #[.slice A n c, .int .i64 i, .int .i64 wd] w fun e w' => e = .returned (.int .i64 (storedN l i wd)) ∧ Below w.heap.size w w' := by
  have G := Lib.hid (Get_any A n c l i wd w h hi)
  have hx := getE_small l i wd
  have E : Hid (storedN l i wd = if getE l i wd = 0 then getN l i wd else -1) := rfl
  clear h hi
  generalize getE l i wd = x at *
  generalize getN l i wd = y at *
  obtain ⟨hx0, hx3⟩ := hx
  by_cases h0 : x = 0
  · subst h0
    go_enter Try.func26, Try.ntmps26
    go_wp2_with (go_at_call 41; refine (G.out).mono ?_; rintro e w' ⟨rfl, hb⟩)
    go_ret
    exact ⟨ret_int (by rw [E.out]; rfl), hb⟩
  · have q : (x != 0) = true := by simpa using h0
    have E2 : Hid (storedN l i wd = -1) := by have := E.out; rw [if_neg h0] at this; exact this
    clear E h0
    go_enter Try.func26, Try.ntmps26
    go_wp2_with (go_at_call 41; refine (G.out).mono ?_; rintro e w' ⟨rfl, hb⟩)
    go_ret
    exact ⟨ret_int (by rw [E2.out]), hb⟩

theorem xor_salt (a b : Nat) (ha : a < 4294967296) (hb : b < 4294967296) : bits .xor .i64 (a : Int) (b : Int) = ((a ^^^ b : Nat) : Int) := i64_xor_nat a b (by omega) (by omega)

set_option maxHeartbeats 400000 in
theorem sum_any (A : Option Addr) (n c : Nat) (l : List UInt8) (k : Int) (w : World) (h : Bytes8 w A n c l) (hn : 252 ≤ n) :
    Calls Try.prog 20 #[.slice A n c, .int .i64 k] w fun e w' => e = .returned (.int .i64 (sumN l k : Int)) ∧ Below w.heap.size w w' := by
  have hc := h.cap
  have hm := h.most
  have hB : Bytes8 w A 252 c (l.take 252) := ⟨by rw [List.length_take, h.len]; omega, by omega, hm, by have := h.row.take 252; rwa [u8s_take] at this⟩
  have S := Lib.hid (Sum_one A 252 c (l.take 252) w hB)
  have T := Lib.hid (fun W => Salt_any k W)
  have hx := xor_salt (Crc.sum (l.take 252)) (saltN k) (Crc.sum_lt _) (saltN_lt k)
  have E : Hid (Crc.sum (l.take 252) ^^^ saltN k = sumN l k) := rfl
  clear hB
  generalize Crc.sum (l.take 252) = a at *
  generalize saltN k = b at *
  generalize a ^^^ b = z at *
  clear h
  go_enter Try.func20, Try.ntmps20
  go_wp2_with (first
    | (go_at_call 31; (with_reducible refine (S.out).mono ?_); rintro e w' ⟨rfl, hb⟩)
    | (go_at_call 9; refine (T.out _).mono ?_; rintro e w2 ⟨rfl, rfl⟩))
  go_ret
  exact ⟨ret_int (by rw [E.out]), hb⟩

end Go.Proofs.Ytldgdgkojlohfaa
