/-
  Joined: SupA, CodeA, CrcA.
-/
import Derived.LoopTactic
import Derived.Test.YtbeobbanppkmhaaGreatDoorChecked
import Derived.Test.YtbeobbanppkmhaaGreatDoorJBlkC02
import Derived.Test.YtbeobbanppkmhaaGreatDoorRows
import Derived.WalkKit
import Derived.WalkSpells
import Derived.Lib.Hide
import Derived.WalkLawsBesides
import Derived.Laws.BitsAllLaws
import Derived.Test.YtbeobbanppkmhaaGreatDoorJBlkC01
/-
  Layer 6's visit: what an action does to each field in turn, whatever the action is.
-/
namespace Go.Proofs.YtbeobbanppkmhaaGreatDoor
open Go.RowKit
set_option linter.unusedVariables false
set_option linter.unusedSimpArgs false

/-- the fields of a superblock as cells -/
def supC (f : Nat → Int) : Array Value := #[.int .i64 (f 0), .int .i64 (f 1), .int .i64 (f 2), .int .i64 (f 3), .int .i64 (f 4), .int .i64 (f 5), .int .i64 (f 6), .int .i64 (f 7), .int .i64 (f 8), .int .i64 (f 9), .int .i64 (f 10)]

/-- the bounds of the fields; X: the number of blocks, Y: one less -/
def loV : Nat → Int
  | 0 => 0
  | 1 => 0
  | 2 => 1
  | 3 => 0
  | 4 => 2
  | _ => 1
def hiV (Y : Int) : Nat → Int
  | 0 => 2147483647
  | 1 => 16777215
  | 2 => 65536
  | 3 => 65536
  | 4 => 14400
  | _ => Y

/-- every row of pointers stands as it stood -/
def Ptrs (w w' : World) : Prop := ∀ (g : Nat) (cs : Array Value) (fr : Nat × Nat), w.heap[g]? = some (Obj.cells cs 152 fr) → w'.heap[g]? = some (Obj.cells cs 152 fr)
theorem Ptrs.refl (w : World) : Ptrs w w := fun _ _ _ h => h
theorem Ptrs.trans {a b c : World} (h : Ptrs a b) (k : Ptrs b c) : Ptrs a c := fun g cs fr e => k g cs fr (h g cs fr e)
theorem Ptrs.of_below {w w' : World} (hb : Below w.heap.size w w') : Ptrs w w' := fun g cs fr e => (hb.block g (block_lt e)).trans e

/-- the pointers to the roots -/
def rootP (p : Nat) : List Value := [.pointer (some ⟨p, 5, none⟩), .pointer (some ⟨p, 6, none⟩), .pointer (some ⟨p, 7, none⟩), .pointer (some ⟨p, 8, none⟩), .pointer (some ⟨p, 9, none⟩), .pointer (some ⟨p, 10, none⟩)]

set_option maxRecDepth 100000 in
set_option maxHeartbeats 1600000 in
theorem visit_any (w : World) (p F : Nat) (cap : Value) (X : Int) (hF : ∀ (args : Array Value) (W : World), (callFunc F args).run Tryz.prog W = .ok (.enter F args) W) (I : Nat → World → Prop)
    (hX : ∀ k W, 5 ≤ k → I k W → W.cell? ⟨p, 4, none⟩ = some (.int .i64 X))
    (hB : ∀ k W W', I k W → Below W.heap.size W W' → I k W')
    (hS : ∀ k W, k < 11 → I k W → Calls Tryz.prog F #[.pointer (some ⟨p, k, none⟩), .int .i64 (loV k), .int .i64 (hiV (wrap64 (X - 1)) k), cap] W fun e W' => e = .returned (.tuple #[]) ∧ I (k + 1) W' ∧ Ptrs W W')
    (h0 : I 0 w) :
    Calls Tryz.prog 80 #[.pointer (some ⟨p, 0, none⟩), .func (.func F) #[] #[cap]] w fun e w' => e = .returned (.tuple #[]) ∧ I 11 w' := by
  have HX := Lib.hid hX
  have HB := Lib.hid hB
  have HS := Lib.hid hS
  have S0 := Lib.hid (show ∀ W, I 0 W → Calls Tryz.prog F #[.pointer (some ⟨p, 0, none⟩), .int .i64 0, .int .i64 2147483647, cap] W fun e W' => e = .returned (.tuple #[]) ∧ I 1 W' ∧ Ptrs W W' from fun W h => hS 0 W (by omega) h)
  have S1 := Lib.hid (show ∀ W, I 1 W → Calls Tryz.prog F #[.pointer (some ⟨p, 1, none⟩), .int .i64 0, .int .i64 16777215, cap] W fun e W' => e = .returned (.tuple #[]) ∧ I 2 W' ∧ Ptrs W W' from fun W h => hS 1 W (by omega) h)
  have S2 := Lib.hid (show ∀ W, I 2 W → Calls Tryz.prog F #[.pointer (some ⟨p, 2, none⟩), .int .i64 1, .int .i64 65536, cap] W fun e W' => e = .returned (.tuple #[]) ∧ I 3 W' ∧ Ptrs W W' from fun W h => hS 2 W (by omega) h)
  have S3 := Lib.hid (show ∀ W, I 3 W → Calls Tryz.prog F #[.pointer (some ⟨p, 3, none⟩), .int .i64 0, .int .i64 65536, cap] W fun e W' => e = .returned (.tuple #[]) ∧ I 4 W' ∧ Ptrs W W' from fun W h => hS 3 W (by omega) h)
  have S4 := Lib.hid (show ∀ W, I 4 W → Calls Tryz.prog F #[.pointer (some ⟨p, 4, none⟩), .int .i64 2, .int .i64 14400, cap] W fun e W' => e = .returned (.tuple #[]) ∧ I 5 W' ∧ Ptrs W W' from fun W h => hS 4 W (by omega) h)
  have S5 := Lib.hid (show ∀ j W, j < 6 → I (5 + j) W → Calls Tryz.prog F #[.pointer (some ⟨p, 5 + j, none⟩), .int .i64 1, .int .i64 (wrap64 (X - 1)), cap] W fun e W' => e = .returned (.tuple #[]) ∧ I (5 + j + 1) W' ∧ Ptrs W W' from fun j W hj h => by
    have := hS (5 + j) W (by omega) h
    rcases (show j = 0 ∨ j = 1 ∨ j = 2 ∨ j = 3 ∨ j = 4 ∨ j = 5 by omega) with rfl | rfl | rfl | rfl | rfl | rfl
    all_goals exact this)
  clear hX hB hS HS
  go_enter Tryz.func80, Tryz.ntmps80
  go_wp2_with (first
    | ((with_reducible refine (S4.out _ h4).mono ?_); rintro e w5 ⟨rfl, h5, _⟩)
    | ((with_reducible refine (S3.out _ h3).mono ?_); rintro e w4 ⟨rfl, h4, _⟩)
    | ((with_reducible refine (S2.out _ h2).mono ?_); rintro e w3 ⟨rfl, h3, _⟩)
    | ((with_reducible refine (S1.out _ h1).mono ?_); rintro e w2 ⟨rfl, h2, _⟩)
    | ((with_reducible refine (S0.out _ h0).mono ?_); rintro e w1 ⟨rfl, h1, _⟩))
  go_region
  go_wp2
  have hb6 : Below w5.heap.size w5 (w5.alloc (.cells (rootP p).toArray 152)).drew := ((Below.refl _ _).alloc (Nat.le_refl _) _).drew
  have H6 := Lib.hid (HB.out 5 _ _ h5 hb6)
  have HR6 : Hid ((w5.alloc (.cells (rootP p).toArray 152)).drew.heap[w5.heap.size]? = some (.cells (rootP p).toArray 152 (0, 0))) := heap_alloc_new w5 (.cells (rootP p).toArray 152)
  generalize w5.heap.size = g at *
  clear h0 h1 h2 h3 h4 h5 hb6 S0 S1 S2 S3 S4
  go_loopw [53] (fun i wr => ∃ j : Nat, j ≤ 6 ∧ i = .int .i64 j ∧ Hid (I (5 + j) wr) ∧ Hid (wr.heap[g]? = some (.cells (rootP p).toArray 152 (0, 0)))) (fun i _ => 6 - (intOf i).toNat)
  case atStart => exact ⟨0, by omega, rfl, H6, HR6⟩
  case round =>
    clear H6 HR6
    obtain ⟨j, hj, rfl, HI, HR⟩ := hrel
    by_cases hlt : j < 6
    · have hX4 := HX.out _ _ (by omega) HI.out
      have hcj : wr.cell? ⟨g, j, none⟩ = some (.pointer (some ⟨p, 5 + j, none⟩)) := by
        rw [cell_of_row wr g j _ _ _ HR.out]
        rcases (show j = 0 ∨ j = 1 ∨ j = 2 ∨ j = 3 ∨ j = 4 ∨ j = 5 by omega) with rfl | rfl | rfl | rfl | rfl | rfl <;> rfl
      go_wp2_with ((with_reducible refine (S5.out j _ hlt HI.out).mono ?_); rintro e w7 ⟨rfl, h7, hp7⟩; have HI7 := Lib.hid h7; have HR7 := Lib.hid (hp7 _ _ _ HR.out); clear h7 hp7)
      go_roundw
      case rel => exact ⟨j + 1, by omega, by go_num, HI7, HR7⟩
      case measure => simp [intOf]; omega
    · obtain rfl : j = 6 := by omega
      go_wp2
      go_end0
      exact ⟨rfl, HI.out⟩

end Go.Proofs.YtbeobbanppkmhaaGreatDoor

/-
  The small helpers of layer 1 and of its reference: widths, room, fits.
-/
namespace Go.Proofs.YtbeobbanppkmhaaGreatDoor
open Go.RowKit
set_option linter.unusedVariables false
set_option linter.unusedSimpArgs false

def isW (x : Int) : Bool := x == 1 || x == 2 || x == 4 || x == 8

theorem isW_cases {x : Int} (h : isW x = true) : x = 1 ∨ x = 2 ∨ x = 4 ∨ x = 8 := by
  simp only [isW, Bool.or_eq_true, beq_iff_eq] at h
  omega

set_option maxRecDepth 100000 in
theorem isWidth_any (x : Int) (w : World) (r : Bool) (hr : isW x = r) :
    Calls Tryz.prog 116 #[.int .i64 x] w fun e w' => e = .returned (.bool r) ∧ w = w' := by
  subst hr
  go_enter Tryz.func116, Tryz.ntmps116
  go_wp2
  all_goals go_ret
  all_goals first | exact ⟨rfl, rfl⟩ | (refine ⟨?_, rfl⟩; simp [isW, *])

set_option maxRecDepth 100000 in
theorem width_any (x : Int) (w : World) (r : Bool) (hr : isW x = r) :
    Calls Tryz.prog 155 #[.int .i64 x] w fun e w' => e = .returned (.bool r) ∧ w = w' := by
  subst hr
  go_enter Tryz.func155, Tryz.ntmps155
  go_wp2
  all_goals go_ret
  all_goals first | exact ⟨rfl, rfl⟩ | (refine ⟨?_, rfl⟩; simp [isW, *])


/-- the error of a place: ErrArg, ErrEnd, OK -/
def roomE (n : Nat) (i wd : Int) : Int := if isW wd = false then 1 else if i < 0 ∨ (n : Int) - wd < i then 3 else 0

set_option maxRecDepth 100000 in
theorem place_any (A : Option Addr) (n c : Nat) (i wd : Int) (w : World) (hn : n ≤ 9223372036854775807) (hi : -9223372036854775808 ≤ i ∧ i ≤ 9223372036854775807) (r : Int) (hr : roomE n i wd = r) :
    Calls Tryz.prog 128 #[.slice A n c, .int .i64 i, .int .i64 wd] w fun e w' => e = .returned (.int .i64 r) ∧ w = w' := by
  obtain ⟨hi1, hi2⟩ := hi
  cases hw : isW wd with
  | false =>
    obtain rfl : 1 = r := by rw [← hr]; simp [roomE, hw]
    have Hw := Lib.hid hw
    clear hw hr
    go_enter Tryz.func128, Tryz.ntmps128
    go_wp2_with (go_at_call 116; refine (isWidth_any _ _ _ Hw.out).mono ?_; rintro e w' ⟨rfl, rfl⟩)
    go_ret
    exact ⟨rfl, rfl⟩
  | true =>
    have hb : 1 ≤ wd ∧ wd ≤ 8 := by rcases isW_cases hw with h | h | h | h <;> omega
    obtain ⟨hb1, hb2⟩ := hb
    have Hw := Lib.hid hw
    have Hr : Hid ((if i < 0 ∨ (n : Int) - wd < i then 3 else 0) = r) := by rw [← hr]; simp [roomE, hw, Hid]
    clear hw hr
    go_enter Tryz.func128, Tryz.ntmps128
    go_wp2_with (go_at_call 116; refine (isWidth_any _ _ _ Hw.out).mono ?_; rintro e w' ⟨rfl, rfl⟩)
    all_goals go_ret
    all_goals exact ⟨ret_int (by rw [← Hr.out]; split <;> omega), rfl⟩

set_option maxRecDepth 100000 in
theorem room_any (A : Option Addr) (n c : Nat) (i wd : Int) (w : World) (hn : n ≤ 9223372036854775807) (hi : -9223372036854775808 ≤ i ∧ i ≤ 9223372036854775807) (r : Int) (hr : roomE n i wd = r) :
    Calls Tryz.prog 133 #[.slice A n c, .int .i64 i, .int .i64 wd] w fun e w' => e = .returned (.int .i64 r) ∧ w = w' := by
  obtain ⟨hi1, hi2⟩ := hi
  cases hw : isW wd with
  | false =>
    obtain rfl : 1 = r := by rw [← hr]; simp [roomE, hw]
    have Hw := Lib.hid hw
    clear hw hr
    go_enter Tryz.func133, Tryz.ntmps133
    go_wp2_with (go_at_call 155; refine (width_any _ _ _ Hw.out).mono ?_; rintro e w' ⟨rfl, rfl⟩)
    go_ret
    exact ⟨rfl, rfl⟩
  | true =>
    have hb : 1 ≤ wd ∧ wd ≤ 8 := by rcases isW_cases hw with h | h | h | h <;> omega
    obtain ⟨hb1, hb2⟩ := hb
    have Hw := Lib.hid hw
    have Hr : Hid ((if i < 0 ∨ (n : Int) - wd < i then 3 else 0) = r) := by rw [← hr]; simp [roomE, hw, Hid]
    clear hw hr
    go_enter Tryz.func133, Tryz.ntmps133
    go_wp2_with (go_at_call 155; refine (width_any _ _ _ Hw.out).mono ?_; rintro e w' ⟨rfl, rfl⟩)
    all_goals go_ret
    all_goals exact ⟨ret_int (by rw [← Hr.out]; split <;> omega), rfl⟩

/-- does a number fit in a width -/
def fitsB (n wd : Int) : Bool := decide (0 ≤ n) && (wd == 8 || decide (n < 256 ^ wd.toNat))

set_option maxRecDepth 100000 in
theorem fits_any (n wd : Int) (w : World) (hw : isW wd = true) (hn : -9223372036854775808 ≤ n ∧ n ≤ 9223372036854775807) (r : Bool) (hr : fitsB n wd = r) :
    Calls Tryz.prog 117 #[.int .i64 n, .int .i64 wd] w fun e w' => e = .returned (.bool r) ∧ w = w' := by
  obtain ⟨hn1, hn2⟩ := hn
  have Hr := Lib.hid hr
  clear hr
  by_cases h0 : 0 ≤ n
  · rcases isW_cases hw with rfl | rfl | rfl | rfl
    all_goals clear hw
    all_goals go_enter Tryz.func117, Tryz.ntmps117
    all_goals go_wp2
    all_goals go_ret
    all_goals exact ⟨ret_bool (by rw [← Hr.out, Bool.eq_iff_iff]; simp [fitsB, h0]; try omega), rfl⟩
  · have hneg : n < 0 := by omega
    go_enter Tryz.func117, Tryz.ntmps117
    go_wp2
    go_ret
    exact ⟨ret_bool (by rw [← Hr.out]; simp [fitsB]; omega), rfl⟩

end Go.Proofs.YtbeobbanppkmhaaGreatDoor

/-
  Layer 2's step, and the reference's eight steps.
-/
namespace Go.Proofs.YtbeobbanppkmhaaGreatDoor
open Go.RowKit
set_option linter.unusedVariables false
set_option linter.unusedSimpArgs false


theorem and_one_u32 (n : Nat) (h : n < 4294967296) : bits .and .u32 (n : Int) 1 = ((n % 2 : Nat) : Int) := by
  have := u32_and_nat n 1 h (by omega)
  rw [Nat.and_one_is_mod] at this
  exact this

theorem step_odd (n : Nat) (h : n < 4294967296) (ho : n % 2 = 1) : bits .xor .u32 ((n : Int) / 2) 2197175160 = (Crc.step n : Int) := by
  have := u32_xor_nat (n / 2) 2197175160 (by omega) (by omega)
  rw [show ((n / 2 : Nat) : Int) = (n : Int) / 2 by omega] at this
  rw [show Crc.step n = n / 2 ^^^ 2197175160 by simp [Crc.step, Crc.poly, ho]]
  exact this

theorem step_even (n : Nat) (ho : n % 2 = 0) : (n : Int) / 2 = (Crc.step n : Int) := by
  simp [Crc.step, ho]

theorem i64_xor_nat (a b : Nat) (ha : a < 9223372036854775808) (hb : b < 9223372036854775808) : bits .xor .i64 (a : Int) (b : Int) = ((a ^^^ b : Nat) : Int) := by
  have hx : a ^^^ b < 2 ^ 63 := Nat.xor_lt_two_pow (by omega) (by omega)
  show IntKind.i64.wrap ((BitVec.ofInt 64 (a : Int) ^^^ BitVec.ofInt 64 (b : Int)).toNat : Int) = _
  rw [BitVec.toNat_xor, ofInt_u64 a (by omega), ofInt_u64 b (by omega), IntKind.wrap_i64]
  omega

theorem step_odd64 (n : Nat) (h : n < 4294967296) (ho : n % 2 = 1) : bits .xor .i64 ((n : Int) / 2) 2197175160 = (Crc.step n : Int) := by
  have := i64_xor_nat (n / 2) 2197175160 (by omega) (by omega)
  rw [show ((n / 2 : Nat) : Int) = (n : Int) / 2 by omega] at this
  rw [show Crc.step n = n / 2 ^^^ 2197175160 by simp [Crc.step, Crc.poly, ho]]
  exact this

set_option maxRecDepth 100000 in
set_option maxHeartbeats 400000 in
theorem step_any (n : Nat) (h : n < 4294967296) (w : World) :
    Calls Tryz.prog 168 #[.int .u32 (n : Int)] w fun e w' => e = .returned (.int .u32 (Crc.step n : Int)) ∧ w = w' := by
  have ea := and_one_u32 n h
  rcases Nat.mod_two_eq_zero_or_one n with ho | ho
  · have Hs := Lib.hid (step_even n ho)
    rw [ho] at ea
    clear ho
    go_enter Tryz.func168, Tryz.ntmps168
    go_wp2
    go_ret
    exact ⟨ret_int Hs.out, rfl⟩
  · have Hs := Lib.hid (step_odd n h ho)
    rw [ho] at ea
    clear ho
    go_enter Tryz.func168, Tryz.ntmps168
    go_wp2
    go_ret
    exact ⟨ret_int Hs.out, rfl⟩

set_option maxRecDepth 100000 in
set_option maxHeartbeats 400000 in
theorem refStep_any (n : Nat) (h : n < 4294967296) (w : World) :
    Calls Tryz.prog 162 #[.int .i64 (n : Int)] w fun e w' => e = .returned (.int .i64 (Crc.it 8 n : Int)) ∧ w = w' := by
  go_enter Tryz.func162, Tryz.ntmps162
  go_wp2
  go_loop [0, 3] (fun r i => ∃ k m : Nat, k ≤ 8 ∧ i = .int .i64 k ∧ r = .int .i64 m ∧ m < 4294967296 ∧ Hid (m = Crc.it k n)) (fun _ i => 8 - (intOf i).toNat)
  case atStart => exact ⟨0, n, by omega, rfl, rfl, h, rfl⟩
  case round =>
    obtain ⟨k, m, hk, rfl, rfl, hm, HM⟩ := hrel
    by_cases hlt : k < 8
    · have HS : Hid (Crc.step m = Crc.it (k + 1) n) := by rw [Crc.it_succ, ← HM.out]; rfl
      have hl := Crc.step_lt hm
      rcases Nat.mod_two_eq_zero_or_one m with ho | ho
      · have Hs := Lib.hid (step_even m ho)
        have hz : (m : Int) % 2 = 0 := by omega
        go_wp2
        go_round
        case rel => exact ⟨k + 1, Crc.step m, by omega, by go_num, by rw [← Hs.out], hl, HS⟩
        case measure => simp [intOf]; omega
      · have Hs := Lib.hid (step_odd64 m hm ho)
        have hz : (m : Int) % 2 = 1 := by omega
        go_wp2
        go_round
        case rel => exact ⟨k + 1, Crc.step m, by omega, by go_num, by rw [← Hs.out], hl, HS⟩
        case measure => simp [intOf]; omega
    · obtain rfl : k = 8 := by omega
      go_wp2
      go_ret
      exact ⟨ret_int (by rw [HM.out]), rfl⟩

end Go.Proofs.YtbeobbanppkmhaaGreatDoor
