/-
  Layer 4's Which.
-/
import Derived.Test.YtldgdgkojlohfaaSealC
namespace Go.Proofs.Ytldgdgkojlohfaa
open Go.RowKit
set_option linter.unusedVariables false
set_option linter.unusedSimpArgs false

/-- the kind and the number with which a block is opened -/
def whichE (l : List UInt8) : Int := openE l (storedN l 4 2) (storedN l 0 4)
def whichB (l : List UInt8) : Bool := whichE l == 0
def whichK (l : List UInt8) : Int := if whichB l = true then storedN l 4 2 else 0
def whichN (l : List UInt8) : Int := if whichB l = true then storedN l 0 4 else 0

set_option maxHeartbeats 800000 in
theorem Which_any (A : Option Addr) (n c : Nat) (l : List UInt8) (w : World) (h : Bytes8 w A n c l) :
    Calls Try.prog 14 #[.slice A n c] w fun e w' => e = .returned (.tuple #[.int .i64 (whichK l), .int .i64 (whichN l), .bool (whichB l)]) ∧ Below w.heap.size w w' := by
  have S0 : Hid (∀ W, Bytes8 W A n c l → Calls Try.prog 26 #[.slice A n c, .int .i64 0, .int .i64 4] W fun e w' => e = .returned (.int .i64 (storedN l 0 4)) ∧ Below W.heap.size W w') := fun W hW => stored_any A n c l 0 4 W hW (by omega)
  have S4 : Hid (∀ W, Bytes8 W A n c l → Calls Try.prog 26 #[.slice A n c, .int .i64 4, .int .i64 2] W fun e w' => e = .returned (.int .i64 (storedN l 4 2)) ∧ Below W.heap.size W w') := fun W hW => stored_any A n c l 4 2 W hW (by omega)
  have HB := Lib.hid h
  have O : Hid (∀ W, Bytes8 W A n c l → Calls Try.prog 12 #[.slice A n c, .int .i64 (storedN l 4 2), .int .i64 (storedN l 0 4)] W fun e w' => ∃ A' m c', e = .returned (.tuple #[.slice A' m c', .int .i64 (whichE l)]) ∧ Below W.heap.size W w') :=
    fun W hW => (Open_any A n c l _ _ W hW).mono fun e w' ⟨A', m, c', h1, _, h3⟩ => ⟨A', m, c', h1, h3⟩
  have EK : Hid (whichK l = if (whichE l == 0) = true then storedN l 4 2 else 0) := rfl
  have EN : Hid (whichN l = if (whichE l == 0) = true then storedN l 0 4 else 0) := rfl
  have EB : Hid (whichB l = (whichE l == 0)) := rfl
  clear h
  generalize whichE l = x at *
  generalize storedN l 4 2 = y at *
  generalize storedN l 0 4 = z at *
  by_cases hx : x = 0
  · subst hx
    have FK : Hid (whichK l = y) := EK.out
    have FN : Hid (whichN l = z) := EN.out
    have FB : Hid (whichB l = true) := EB.out
    clear EK EN EB
    go_enter Try.func14, Try.ntmps14
    go_wp2_with (first
      | (go_at_call 26; (with_reducible refine (S0.out _ HB.out).mono ?_); rintro e w1 ⟨rfl, hb1⟩; have HB1 := Lib.hid (HB.out.below hb1))
      | (go_at_call 26; (with_reducible refine (S4.out _ HB1.out).mono ?_); rintro e w2 ⟨rfl, hb2⟩; have HB2 := Lib.hid (HB1.out.below hb2))
      | (go_at_call 12; (with_reducible refine (O.out _ HB2.out).mono ?_); rintro e w3 ⟨A3, m3, c3, rfl, hb3⟩))
    go_ret3
    have h12 := hb1.trans (hb2.mono hb1.size)
    exact ⟨by rw [FK.out, FN.out, FB.out]; rfl, h12.trans (hb3.mono h12.size)⟩
  · have q : (x != 0) = true := by simpa using hx
    have q2 : (x == 0) = false := by simpa using hx
    have FK : Hid (whichK l = 0) := by have := EK.out; rw [q2] at this; exact this
    have FN : Hid (whichN l = 0) := by have := EN.out; rw [q2] at this; exact this
    have FB : Hid (whichB l = false) := by have := EB.out; rw [q2] at this; exact this
    clear EK EN EB hx q2
    go_enter Try.func14, Try.ntmps14
    go_wp2_with (first
      | (go_at_call 26; (with_reducible refine (S0.out _ HB.out).mono ?_); rintro e w1 ⟨rfl, hb1⟩; have HB1 := Lib.hid (HB.out.below hb1))
      | (go_at_call 26; (with_reducible refine (S4.out _ HB1.out).mono ?_); rintro e w2 ⟨rfl, hb2⟩; have HB2 := Lib.hid (HB1.out.below hb2))
      | (go_at_call 12; (with_reducible refine (O.out _ HB2.out).mono ?_); rintro e w3 ⟨A3, m3, c3, rfl, hb3⟩))
    go_ret3
    have h12 := hb1.trans (hb2.mono hb1.size)
    exact ⟨by rw [FK.out, FN.out, FB.out]; rfl, h12.trans (hb3.mono h12.size)⟩

end Go.Proofs.Ytldgdgkojlohfaa
