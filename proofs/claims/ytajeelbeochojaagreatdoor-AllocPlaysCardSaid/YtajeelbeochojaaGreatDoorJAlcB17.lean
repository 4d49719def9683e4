/-
  Joined: BitB, BitC, SealA, SealF.
-/
import Derived.Test.YtajeelbeochojaaGreatDoorJAlcB16
import Derived.Test.YtajeelbeochojaaGreatDoorJAlcB12
import Derived.Test.YtajeelbeochojaaGreatDoorJAlcB11
import Derived.WalkSpells
import Derived.WalkLawsBesides
import Derived.Test.YtajeelbeochojaaGreatDoorJAlcB06
import Derived.Test.YtajeelbeochojaaGreatDoorJAlcB08
import Derived.LoopTactic
import Derived.Test.YtajeelbeochojaaGreatDoorJAlcB02
/-
  Layer 9: Put.
-/
namespace Go.Proofs.YtajeelbeochojaaGreatDoor
open Go.RowKit
set_option linter.unusedVariables false
set_option linter.unusedSimpArgs false

/-! ### the document's example -/
end Go.Proofs.YtajeelbeochojaaGreatDoor

/-
  Layer 9: Read.
-/
namespace Go.Proofs.YtajeelbeochojaaGreatDoor
open Go.RowKit
set_option linter.unusedVariables false
set_option linter.unusedSimpArgs false

theorem readBE9_cases (b : List UInt8) : (readBE9 b = 0 ∧ readBL9 b = readBits b ∧ b.length = 244 ∧ numB b ≤ 960 ∧ encBits (readBits b) = b) ∨ (readBE9 b = 7 ∧ readBL9 b = [] ∧ ¬ (b.length = 244 ∧ numB b ≤ 960 ∧ encBits (readBits b) = b)) := by
  by_cases h : b.length = 244 ∧ numB b ≤ 960 ∧ encBits (readBits b) = b
  · have e : readBE9 b = 0 := by rw [readBE9, if_pos h]
    exact .inl ⟨e, by rw [readBL9, if_pos e], h⟩
  · have e : readBE9 b = 7 := by rw [readBE9, if_neg h]
    exact .inr ⟨e, by rw [readBL9, if_neg (by rw [e]; decide)], h⟩

end Go.Proofs.YtajeelbeochojaaGreatDoor

/-
  Layer 4's small functions: isKind, isNumber, Salt, unless, stored, sum; the reference's Salt and known.
-/
namespace Go.Proofs.YtajeelbeochojaaGreatDoor
open Go.RowKit
set_option linter.unusedVariables false
set_option linter.unusedSimpArgs false

set_option maxRecDepth 100000 in
theorem isKind_any (x : Int) (w : World) (r : Bool) (hr : kindB x = r) :
    Calls Tryz.prog 69 #[.int .i64 x] w fun e w' => e = .returned (.bool r) ∧ w = w' := by
  subst hr
  go_enter Tryz.func69, Tryz.ntmps69
  go_wp2
  all_goals go_ret
  all_goals refine ⟨ret_bool ?_, rfl⟩
  all_goals (simp [kindB]; try omega)

set_option maxRecDepth 100000 in
theorem isNumber_any (x : Int) (w : World) (r : Bool) (hr : snumB x = r) :
    Calls Tryz.prog 70 #[.int .i64 x] w fun e w' => e = .returned (.bool r) ∧ w = w' := by
  subst hr
  go_enter Tryz.func70, Tryz.ntmps70
  go_wp2
  all_goals go_ret
  all_goals refine ⟨ret_bool ?_, rfl⟩
  all_goals (simp [snumB]; try omega)

set_option maxRecDepth 100000 in
theorem Salt_any (x : Int) (w : World) :
    Calls Tryz.prog 94 #[.int .i64 x] w fun e w' => e = .returned (.int .i64 (saltN x : Int)) ∧ w = w' := by
  by_cases h1 : x = 1
  · subst h1
    go_enter Tryz.func94, Tryz.ntmps94
    go_wp2
    go_ret
    exact ⟨rfl, rfl⟩
  by_cases h2 : x = 2
  · subst h2
    go_enter Tryz.func94, Tryz.ntmps94
    go_wp2
    go_ret
    exact ⟨rfl, rfl⟩
  by_cases h3 : x = 3
  · subst h3
    go_enter Tryz.func94, Tryz.ntmps94
    go_wp2
    go_ret
    exact ⟨rfl, rfl⟩
  by_cases h4 : x = 4
  · subst h4
    go_enter Tryz.func94, Tryz.ntmps94
    go_wp2
    go_ret
    exact ⟨rfl, rfl⟩
  · have q1 : (x == 1) = false := by simpa using h1
    have q2 : (x == 2) = false := by simpa using h2
    have q3 : (x == 3) = false := by simpa using h3
    have q4 : (x == 4) = false := by simpa using h4
    have E : Hid (saltN x = 0) := by simp [Hid, saltN, h1, h2, h3, h4]
    clear h1 h2 h3 h4
    go_enter Tryz.func94, Tryz.ntmps94
    go_wp2
    go_ret
    exact ⟨ret_int (by rw [E.out]; rfl), rfl⟩

theorem xor_salt (a b : Nat) (ha : a < 4294967296) (hb : b < 4294967296) : bits .xor .i64 (a : Int) (b : Int) = ((a ^^^ b : Nat) : Int) := i64_xor_nat a b (by omega) (by omega)

set_option maxRecDepth 100000 in
set_option maxHeartbeats 400000 in
theorem sum_any (A : Option Addr) (n c : Nat) (l : List UInt8) (k : Int) (w : World) (h : Bytes8 w A n c l) (hn : 252 ≤ n) :
    Calls Tryz.prog 73 #[.slice A n c, .int .i64 k] w fun e w' => e = .returned (.int .i64 (sumN l k : Int)) ∧ Below w.heap.size w w' := by
  have hc := h.cap
  have hm := h.most
  have hB : Bytes8 w A 252 c (l.take 252) := ⟨by rw [List.length_take, h.len]; omega, by omega, hm, by have := h.row.take 252; rwa [u8s_take] at this⟩
  have S := Lib.hid (Sum_one A 252 c (l.take 252) w hB)
  have T := Lib.hid (fun W => Salt_any k W)
  have hx := xor_salt (Crc.sum (l.take 252)) (saltN k) (Crc.sum_lt _) (saltN_lt k)
  have E : Hid (Crc.sum (l.take 252) ^^^ saltN k = sumN l k) := rfl
  clear hB
  generalize Crc.sum (l.take 252) = a at *
  generalize saltN k = b at *
  generalize a ^^^ b = z at *
  clear h
  go_enter Tryz.func73, Tryz.ntmps73
  go_wp2_with (first
    | (go_at_call 93; (with_reducible refine (S.out).mono ?_); rintro e w' ⟨rfl, hb⟩)
    | (go_at_call 94; refine (T.out _).mono ?_; rintro e w2 ⟨rfl, rfl⟩))
  go_ret
  exact ⟨ret_int (by rw [E.out]), hb⟩

end Go.Proofs.YtajeelbeochojaaGreatDoor

/-
  The reference's Seal.
-/
namespace Go.Proofs.YtajeelbeochojaaGreatDoor
open Go.RowKit
set_option linter.unusedVariables false
set_option linter.unusedSimpArgs false

end Go.Proofs.YtajeelbeochojaaGreatDoor
