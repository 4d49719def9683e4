/-
  Layer 6's visit: what an action does to each field in turn, whatever the action is.
-/
import Derived.Test.YtfebifpofhodoaaMem
import Derived.LoopTactic
import Derived.Test.YtfebifpofhodoaaChecked
namespace Go.Proofs.Ytfebifpofhodoaa
open Go.RowKit
set_option linter.unusedVariables false
set_option linter.unusedSimpArgs false

/-- the fields of a superblock as cells -/
def supC (f : Nat → Int) : Array Value := #[.int .i64 (f 0), .int .i64 (f 1), .int .i64 (f 2), .int .i64 (f 3), .int .i64 (f 4), .int .i64 (f 5), .int .i64 (f 6), .int .i64 (f 7), .int .i64 (f 8), .int .i64 (f 9), .int .i64 (f 10)]

/-- the bounds of the fields; X: the number of blocks, Y: one less -/
def loV : Nat → Int
  | 0 => 0
  | 1 => 0
  | 2 => 1
  | 3 => 0
  | 4 => 2
  | _ => 1
def hiV (Y : Int) : Nat → Int
  | 0 => 2147483647
  | 1 => 16777215
  | 2 => 65536
  | 3 => 65536
  | 4 => 14400
  | _ => Y

/-- every row of pointers stands as it stood -/
def Ptrs (w w' : World) : Prop := ∀ (g : Nat) (cs : Array Value) (fr : Nat × Nat), w.heap[g]? = some (Obj.cells cs 43 fr) → w'.heap[g]? = some (Obj.cells cs 43 fr)
theorem Ptrs.refl (w : World) : Ptrs w w := fun _ _ _ h => h
theorem Ptrs.trans {a b c : World} (h : Ptrs a b) (k : Ptrs b c) : Ptrs a c := fun g cs fr e => k g cs fr (h g cs fr e)
theorem Ptrs.of_below {w w' : World} (hb : Below w.heap.size w w') : Ptrs w w' := fun g cs fr e => (hb.block g (block_lt e)).trans e

/-- the pointers to the roots -/
def rootP (p : Nat) : List Value := [.pointer (some ⟨p, 5, none⟩), .pointer (some ⟨p, 6, none⟩), .pointer (some ⟨p, 7, none⟩), .pointer (some ⟨p, 8, none⟩), .pointer (some ⟨p, 9, none⟩), .pointer (some ⟨p, 10, none⟩)]

set_option maxRecDepth 100000 in
set_option maxHeartbeats 1600000 in
theorem visit_any (w : World) (p F : Nat) (cap : Value) (X : Int) (hF : ∀ (args : Array Value) (W : World), (callFunc F args).run Try.prog W = .ok (.enter F args) W) (I : Nat → World → Prop)
    (hX : ∀ k W, 5 ≤ k → I k W → W.cell? ⟨p, 4, none⟩ = some (.int .i64 X))
    (hB : ∀ k W W', I k W → Below W.heap.size W W' → I k W')
    (hS : ∀ k W, k < 11 → I k W → Calls Try.prog F #[.pointer (some ⟨p, k, none⟩), .int .i64 (loV k), .int .i64 (hiV (wrap64 (X - 1)) k), cap] W fun e W' => e = .returned (.tuple #[]) ∧ I (k + 1) W' ∧ Ptrs W W')
    (h0 : I 0 w) :
    Calls Try.prog 13 #[.pointer (some ⟨p, 0, none⟩), .func (.func F) #[] #[cap]] w fun e w' => e = .returned (.tuple #[]) ∧ I 11 w' := by
  have HX := Lib.hid hX
  have HB := Lib.hid hB
  have HS := Lib.hid hS
  have S0 := Lib.hid (show ∀ W, I 0 W → Calls Try.prog F #[.pointer (some ⟨p, 0, none⟩), .int .i64 0, .int .i64 2147483647, cap] W fun e W' => e = .returned (.tuple #[]) ∧ I 1 W' ∧ Ptrs W W' from fun W h => hS 0 W (by omega) h)
  have S1 := Lib.hid (show ∀ W, I 1 W → Calls Try.prog F #[.pointer (some ⟨p, 1, none⟩), .int .i64 0, .int .i64 16777215, cap] W fun e W' => e = .returned (.tuple #[]) ∧ I 2 W' ∧ Ptrs W W' from fun W h => hS 1 W (by omega) h)
  have S2 := Lib.hid (show ∀ W, I 2 W → Calls Try.prog F #[.pointer (some ⟨p, 2, none⟩), .int .i64 1, .int .i64 65536, cap] W fun e W' => e = .returned (.tuple #[]) ∧ I 3 W' ∧ Ptrs W W' from fun W h => hS 2 W (by omega) h)
  have S3 := Lib.hid (show ∀ W, I 3 W → Calls Try.prog F #[.pointer (some ⟨p, 3, none⟩), .int .i64 0, .int .i64 65536, cap] W fun e W' => e = .returned (.tuple #[]) ∧ I 4 W' ∧ Ptrs W W' from fun W h => hS 3 W (by omega) h)
  have S4 := Lib.hid (show ∀ W, I 4 W → Calls Try.prog F #[.pointer (some ⟨p, 4, none⟩), .int .i64 2, .int .i64 14400, cap] W fun e W' => e = .returned (.tuple #[]) ∧ I 5 W' ∧ Ptrs W W' from fun W h => hS 4 W (by omega) h)
  have S5 := Lib.hid (show ∀ j W, j < 6 → I (5 + j) W → Calls Try.prog F #[.pointer (some ⟨p, 5 + j, none⟩), .int .i64 1, .int .i64 (wrap64 (X - 1)), cap] W fun e W' => e = .returned (.tuple #[]) ∧ I (5 + j + 1) W' ∧ Ptrs W W' from fun j W hj h => by
    have := hS (5 + j) W (by omega) h
    rcases (show j = 0 ∨ j = 1 ∨ j = 2 ∨ j = 3 ∨ j = 4 ∨ j = 5 by omega) with rfl | rfl | rfl | rfl | rfl | rfl
    all_goals exact this)
  clear hX hB hS HS
  go_enter Try.func13, Try.ntmps13
  go_wp2_with (first
    | ((with_reducible refine (S4.out _ h4).mono ?_); rintro e w5 ⟨rfl, h5, _⟩)
    | ((with_reducible refine (S3.out _ h3).mono ?_); rintro e w4 ⟨rfl, h4, _⟩)
    | ((with_reducible refine (S2.out _ h2).mono ?_); rintro e w3 ⟨rfl, h3, _⟩)
    | ((with_reducible refine (S1.out _ h1).mono ?_); rintro e w2 ⟨rfl, h2, _⟩)
    | ((with_reducible refine (S0.out _ h0).mono ?_); rintro e w1 ⟨rfl, h1, _⟩))
  go_region
  go_wp2
  have hb6 : Below w5.heap.size w5 (w5.alloc (.cells (rootP p).toArray 43)).drew := ((Below.refl _ _).alloc (Nat.le_refl _) _).drew
  have H6 := Lib.hid (HB.out 5 _ _ h5 hb6)
  have HR6 : Hid ((w5.alloc (.cells (rootP p).toArray 43)).drew.heap[w5.heap.size]? = some (.cells (rootP p).toArray 43 (0, 0))) := heap_alloc_new w5 (.cells (rootP p).toArray 43)
  generalize w5.heap.size = g at *
  clear h0 h1 h2 h3 h4 h5 hb6 S0 S1 S2 S3 S4
  go_loopw [53] (fun i wr => ∃ j : Nat, j ≤ 6 ∧ i = .int .i64 j ∧ Hid (I (5 + j) wr) ∧ Hid (wr.heap[g]? = some (.cells (rootP p).toArray 43 (0, 0)))) (fun i _ => 6 - (intOf i).toNat)
  case atStart => exact ⟨0, by omega, rfl, H6, HR6⟩
  case round =>
    clear H6 HR6
    obtain ⟨j, hj, rfl, HI, HR⟩ := hrel
    by_cases hlt : j < 6
    · have hX4 := HX.out _ _ (by omega) HI.out
      have hcj : wr.cell? ⟨g, j, none⟩ = some (.pointer (some ⟨p, 5 + j, none⟩)) := by
        rw [cell_of_row wr g j _ _ _ HR.out]
        rcases (show j = 0 ∨ j = 1 ∨ j = 2 ∨ j = 3 ∨ j = 4 ∨ j = 5 by omega) with rfl | rfl | rfl | rfl | rfl | rfl <;> rfl
      go_wp2_with ((with_reducible refine (S5.out j _ hlt HI.out).mono ?_); rintro e w7 ⟨rfl, h7, hp7⟩; have HI7 := Lib.hid h7; have HR7 := Lib.hid (hp7 _ _ _ HR.out); clear h7 hp7)
      go_roundw
      case rel => exact ⟨j + 1, by omega, by go_num, HI7, HR7⟩
      case measure => simp [intOf]; omega
    · obtain rfl : j = 6 := by omega
      go_wp2
      go_end0
      exact ⟨rfl, HI.out⟩

end Go.Proofs.Ytfebifpofhodoaa
