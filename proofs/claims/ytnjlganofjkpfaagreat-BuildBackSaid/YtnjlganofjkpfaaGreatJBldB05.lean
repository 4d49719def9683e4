/-
  Joined: SupA, CodeA, CrcA.
-/
import Derived.LoopTactic
import Derived.Test.YtnjlganofjkpfaaGreatChecked
import Derived.Test.YtnjlganofjkpfaaGreatJBldB02
import Derived.Test.YtnjlganofjkpfaaGreatRows
import Derived.WalkKit
import Derived.WalkSpells
import Derived.Lib.Hide
import Derived.WalkLawsBesides
import Derived.Laws.BitsAllLaws
import Derived.Test.YtnjlganofjkpfaaGreatJBldB01
/-
  Layer 6's visit: what an action does to each field in turn, whatever the action is.
-/
namespace Go.Proofs.YtnjlganofjkpfaaGreat
open Go.RowKit
set_option linter.unusedVariables false
set_option linter.unusedSimpArgs false

/-- every row of pointers stands as it stood -/
def Ptrs (w w' : World) : Prop := ∀ (g : Nat) (cs : Array Value) (fr : Nat × Nat), w.heap[g]? = some (Obj.cells cs 88 fr) → w'.heap[g]? = some (Obj.cells cs 88 fr)
theorem Ptrs.refl (w : World) : Ptrs w w := fun _ _ _ h => h
theorem Ptrs.trans {a b c : World} (h : Ptrs a b) (k : Ptrs b c) : Ptrs a c := fun g cs fr e => k g cs fr (h g cs fr e)
theorem Ptrs.of_below {w w' : World} (hb : Below w.heap.size w w') : Ptrs w w' := fun g cs fr e => (hb.block g (block_lt e)).trans e

end Go.Proofs.YtnjlganofjkpfaaGreat

/-
  The small helpers of layer 1 and of its reference: widths, room, fits.
-/
namespace Go.Proofs.YtnjlganofjkpfaaGreat
open Go.RowKit
set_option linter.unusedVariables false
set_option linter.unusedSimpArgs false

def isW (x : Int) : Bool := x == 1 || x == 2 || x == 4 || x == 8

theorem isW_cases {x : Int} (h : isW x = true) : x = 1 ∨ x = 2 ∨ x = 4 ∨ x = 8 := by
  simp only [isW, Bool.or_eq_true, beq_iff_eq] at h
  omega

set_option maxRecDepth 100000 in
theorem isWidth_any (x : Int) (w : World) (r : Bool) (hr : isW x = r) :
    Calls Tryz.prog 66 #[.int .i64 x] w fun e w' => e = .returned (.bool r) ∧ w = w' := by
  subst hr
  go_enter Tryz.func66, Tryz.ntmps66
  go_wp2
  all_goals go_ret
  all_goals first | exact ⟨rfl, rfl⟩ | (refine ⟨?_, rfl⟩; simp [isW, *])

/-- the error of a place: ErrArg, ErrEnd, OK -/
def roomE (n : Nat) (i wd : Int) : Int := if isW wd = false then 1 else if i < 0 ∨ (n : Int) - wd < i then 3 else 0

set_option maxRecDepth 100000 in
theorem place_any (A : Option Addr) (n c : Nat) (i wd : Int) (w : World) (hn : n ≤ 9223372036854775807) (hi : -9223372036854775808 ≤ i ∧ i ≤ 9223372036854775807) (r : Int) (hr : roomE n i wd = r) :
    Calls Tryz.prog 94 #[.slice A n c, .int .i64 i, .int .i64 wd] w fun e w' => e = .returned (.int .i64 r) ∧ w = w' := by
  obtain ⟨hi1, hi2⟩ := hi
  cases hw : isW wd with
  | false =>
    obtain rfl : 1 = r := by rw [← hr]; simp [roomE, hw]
    have Hw := Lib.hid hw
    clear hw hr
    go_enter Tryz.func94, Tryz.ntmps94
    go_wp2_with (go_at_call 66; refine (isWidth_any _ _ _ Hw.out).mono ?_; rintro e w' ⟨rfl, rfl⟩)
    go_ret
    exact ⟨rfl, rfl⟩
  | true =>
    have hb : 1 ≤ wd ∧ wd ≤ 8 := by rcases isW_cases hw with h | h | h | h <;> omega
    obtain ⟨hb1, hb2⟩ := hb
    have Hw := Lib.hid hw
    have Hr : Hid ((if i < 0 ∨ (n : Int) - wd < i then 3 else 0) = r) := by rw [← hr]; simp [roomE, hw, Hid]
    clear hw hr
    go_enter Tryz.func94, Tryz.ntmps94
    go_wp2_with (go_at_call 66; refine (isWidth_any _ _ _ Hw.out).mono ?_; rintro e w' ⟨rfl, rfl⟩)
    all_goals go_ret
    all_goals exact ⟨ret_int (by rw [← Hr.out]; split <;> omega), rfl⟩

/-- does a number fit in a width -/
def fitsB (n wd : Int) : Bool := decide (0 ≤ n) && (wd == 8 || decide (n < 256 ^ wd.toNat))

set_option maxRecDepth 100000 in
theorem fits_any (n wd : Int) (w : World) (hw : isW wd = true) (hn : -9223372036854775808 ≤ n ∧ n ≤ 9223372036854775807) (r : Bool) (hr : fitsB n wd = r) :
    Calls Tryz.prog 67 #[.int .i64 n, .int .i64 wd] w fun e w' => e = .returned (.bool r) ∧ w = w' := by
  obtain ⟨hn1, hn2⟩ := hn
  have Hr := Lib.hid hr
  clear hr
  by_cases h0 : 0 ≤ n
  · rcases isW_cases hw with rfl | rfl | rfl | rfl
    all_goals clear hw
    all_goals go_enter Tryz.func67, Tryz.ntmps67
    all_goals go_wp2
    all_goals go_ret
    all_goals exact ⟨ret_bool (by rw [← Hr.out, Bool.eq_iff_iff]; simp [fitsB, h0]; try omega), rfl⟩
  · have hneg : n < 0 := by omega
    go_enter Tryz.func67, Tryz.ntmps67
    go_wp2
    go_ret
    exact ⟨ret_bool (by rw [← Hr.out]; simp [fitsB]; omega), rfl⟩

end Go.Proofs.YtnjlganofjkpfaaGreat

/-
  Layer 2's step, and the reference's eight steps.
-/
namespace Go.Proofs.YtnjlganofjkpfaaGreat
open Go.RowKit
set_option linter.unusedVariables false
set_option linter.unusedSimpArgs false


theorem and_one_u32 (n : Nat) (h : n < 4294967296) : bits .and .u32 (n : Int) 1 = ((n % 2 : Nat) : Int) := by
  have := u32_and_nat n 1 h (by omega)
  rw [Nat.and_one_is_mod] at this
  exact this

theorem step_odd (n : Nat) (h : n < 4294967296) (ho : n % 2 = 1) : bits .xor .u32 ((n : Int) / 2) 2197175160 = (Crc.step n : Int) := by
  have := u32_xor_nat (n / 2) 2197175160 (by omega) (by omega)
  rw [show ((n / 2 : Nat) : Int) = (n : Int) / 2 by omega] at this
  rw [show Crc.step n = n / 2 ^^^ 2197175160 by simp [Crc.step, Crc.poly, ho]]
  exact this

theorem step_even (n : Nat) (ho : n % 2 = 0) : (n : Int) / 2 = (Crc.step n : Int) := by
  simp [Crc.step, ho]

theorem i64_xor_nat (a b : Nat) (ha : a < 9223372036854775808) (hb : b < 9223372036854775808) : bits .xor .i64 (a : Int) (b : Int) = ((a ^^^ b : Nat) : Int) := by
  have hx : a ^^^ b < 2 ^ 63 := Nat.xor_lt_two_pow (by omega) (by omega)
  show IntKind.i64.wrap ((BitVec.ofInt 64 (a : Int) ^^^ BitVec.ofInt 64 (b : Int)).toNat : Int) = _
  rw [BitVec.toNat_xor, ofInt_u64 a (by omega), ofInt_u64 b (by omega), IntKind.wrap_i64]
  omega

set_option maxRecDepth 100000 in
set_option maxHeartbeats 400000 in
theorem step_any (n : Nat) (h : n < 4294967296) (w : World) :
    Calls Tryz.prog 112 #[.int .u32 (n : Int)] w fun e w' => e = .returned (.int .u32 (Crc.step n : Int)) ∧ w = w' := by
  have ea := and_one_u32 n h
  rcases Nat.mod_two_eq_zero_or_one n with ho | ho
  · have Hs := Lib.hid (step_even n ho)
    rw [ho] at ea
    clear ho
    go_enter Tryz.func112, Tryz.ntmps112
    go_wp2
    go_ret
    exact ⟨ret_int Hs.out, rfl⟩
  · have Hs := Lib.hid (step_odd n h ho)
    rw [ho] at ea
    clear ho
    go_enter Tryz.func112, Tryz.ntmps112
    go_wp2
    go_ret
    exact ⟨ret_int Hs.out, rfl⟩

end Go.Proofs.YtnjlganofjkpfaaGreat
