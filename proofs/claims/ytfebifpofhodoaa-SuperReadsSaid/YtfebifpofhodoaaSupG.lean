/-
  Layer 6's Read: the action that decodes the fields.
-/
import Derived.Test.YtfebifpofhodoaaSupD
import Derived.Test.YtfebifpofhodoaaCodeC
import Derived.LoopTactic
namespace Go.Proofs.Ytfebifpofhodoaa
open Go.RowKit
set_option linter.unusedVariables false
set_option linter.unusedSimpArgs false

set_option maxRecDepth 100000 in
set_option maxHeartbeats 1600000 in
theorem visit_any2 (w : World) (p F : Nat) (cap cap2 : Value) (X : Int) (hF : ∀ (args : Array Value) (W : World), (callFunc F args).run Try.prog W = .ok (.enter F args) W) (I : Nat → World → Prop)
    (hX : ∀ k W, 5 ≤ k → I k W → W.cell? ⟨p, 4, none⟩ = some (.int .i64 X))
    (hB : ∀ k W W', I k W → Below W.heap.size W W' → I k W')
    (hS : ∀ k W, k < 11 → I k W → Calls Try.prog F #[.pointer (some ⟨p, k, none⟩), .int .i64 (loV k), .int .i64 (hiV (wrap64 (X - 1)) k), cap, cap2] W fun e W' => e = .returned (.tuple #[]) ∧ I (k + 1) W' ∧ Ptrs W W')
    (h0 : I 0 w) :
    Calls Try.prog 13 #[.pointer (some ⟨p, 0, none⟩), .func (.func F) #[] #[cap, cap2]] w fun e w' => e = .returned (.tuple #[]) ∧ I 11 w' := by
  have HX := Lib.hid hX
  have HB := Lib.hid hB
  have HS := Lib.hid hS
  have S0 := Lib.hid (show ∀ W, I 0 W → Calls Try.prog F #[.pointer (some ⟨p, 0, none⟩), .int .i64 0, .int .i64 2147483647, cap, cap2] W fun e W' => e = .returned (.tuple #[]) ∧ I 1 W' ∧ Ptrs W W' from fun W h => hS 0 W (by omega) h)
  have S1 := Lib.hid (show ∀ W, I 1 W → Calls Try.prog F #[.pointer (some ⟨p, 1, none⟩), .int .i64 0, .int .i64 16777215, cap, cap2] W fun e W' => e = .returned (.tuple #[]) ∧ I 2 W' ∧ Ptrs W W' from fun W h => hS 1 W (by omega) h)
  have S2 := Lib.hid (show ∀ W, I 2 W → Calls Try.prog F #[.pointer (some ⟨p, 2, none⟩), .int .i64 1, .int .i64 65536, cap, cap2] W fun e W' => e = .returned (.tuple #[]) ∧ I 3 W' ∧ Ptrs W W' from fun W h => hS 2 W (by omega) h)
  have S3 := Lib.hid (show ∀ W, I 3 W → Calls Try.prog F #[.pointer (some ⟨p, 3, none⟩), .int .i64 0, .int .i64 65536, cap, cap2] W fun e W' => e = .returned (.tuple #[]) ∧ I 4 W' ∧ Ptrs W W' from fun W h => hS 3 W (by omega) h)
  have S4 := Lib.hid (show ∀ W, I 4 W → Calls Try.prog F #[.pointer (some ⟨p, 4, none⟩), .int .i64 2, .int .i64 14400, cap, cap2] W fun e W' => e = .returned (.tuple #[]) ∧ I 5 W' ∧ Ptrs W W' from fun W h => hS 4 W (by omega) h)
  have S5 := Lib.hid (show ∀ j W, j < 6 → I (5 + j) W → Calls Try.prog F #[.pointer (some ⟨p, 5 + j, none⟩), .int .i64 1, .int .i64 (wrap64 (X - 1)), cap, cap2] W fun e W' => e = .returned (.tuple #[]) ∧ I (5 + j + 1) W' ∧ Ptrs W W' from fun j W hj h => by
    have := hS (5 + j) W (by omega) h
    rcases (show j = 0 ∨ j = 1 ∨ j = 2 ∨ j = 3 ∨ j = 4 ∨ j = 5 by omega) with rfl | rfl | rfl | rfl | rfl | rfl
    all_goals exact this)
  clear hX hB hS HS
  go_enter Try.func13, Try.ntmps13
  go_wp2_with (first
    | ((with_reducible refine (S4.out _ h4).mono ?_); rintro e w5 ⟨rfl, h5, _⟩)
    | ((with_reducible refine (S3.out _ h3).mono ?_); rintro e w4 ⟨rfl, h4, _⟩)
    | ((with_reducible refine (S2.out _ h2).mono ?_); rintro e w3 ⟨rfl, h3, _⟩)
    | ((with_reducible refine (S1.out _ h1).mono ?_); rintro e w2 ⟨rfl, h2, _⟩)
    | ((with_reducible refine (S0.out _ h0).mono ?_); rintro e w1 ⟨rfl, h1, _⟩))
  go_region
  go_wp2
  have hb6 : Below w5.heap.size w5 (w5.alloc (.cells (rootP p).toArray 43)).drew := ((Below.refl _ _).alloc (Nat.le_refl _) _).drew
  have H6 := Lib.hid (HB.out 5 _ _ h5 hb6)
  have HR6 : Hid ((w5.alloc (.cells (rootP p).toArray 43)).drew.heap[w5.heap.size]? = some (.cells (rootP p).toArray 43 (0, 0))) := heap_alloc_new w5 (.cells (rootP p).toArray 43)
  generalize w5.heap.size = g at *
  clear h0 h1 h2 h3 h4 h5 hb6 S0 S1 S2 S3 S4
  go_loopw [53] (fun i wr => ∃ j : Nat, j ≤ 6 ∧ i = .int .i64 j ∧ Hid (I (5 + j) wr) ∧ Hid (wr.heap[g]? = some (.cells (rootP p).toArray 43 (0, 0)))) (fun i _ => 6 - (intOf i).toNat)
  case atStart => exact ⟨0, by omega, rfl, H6, HR6⟩
  case round =>
    clear H6 HR6
    obtain ⟨j, hj, rfl, HI, HR⟩ := hrel
    by_cases hlt : j < 6
    · have hX4 := HX.out _ _ (by omega) HI.out
      have hcj : wr.cell? ⟨g, j, none⟩ = some (.pointer (some ⟨p, 5 + j, none⟩)) := by
        rw [cell_of_row wr g j _ _ _ HR.out]
        rcases (show j = 0 ∨ j = 1 ∨ j = 2 ∨ j = 3 ∨ j = 4 ∨ j = 5 by omega) with rfl | rfl | rfl | rfl | rfl | rfl <;> rfl
      go_wp2_with ((with_reducible refine (S5.out j _ hlt HI.out).mono ?_); rintro e w7 ⟨rfl, h7, hp7⟩; have HI7 := Lib.hid h7; have HR7 := Lib.hid (hp7 _ _ _ HR.out); clear h7 hp7)
      go_roundw
      case rel => exact ⟨j + 1, by omega, by go_num, HI7, HR7⟩
      case measure => simp [intOf]; omega
    · obtain rfl : j = 6 := by omega
      go_wp2
      go_end0
      exact ⟨rfl, HI.out⟩


/-- the fields that lie in the bytes -/
def readF (l : List UInt8) : Nat → Int := fun k => getN l ((12 + 4 * k : Nat) : Int) 4
/-- the first k of them, and zeros -/
def readK (l : List UInt8) (k : Nat) : Nat → Int := fun j => if j < k then readF l j else 0

theorem supC_congr {f g : Nat → Int} (h : ∀ k, k < 11 → f k = g k) : supC f = supC g := by
  simp only [supC, h 0 (by omega), h 1 (by omega), h 2 (by omega), h 3 (by omega), h 4 (by omega), h 5 (by omega), h 6 (by omega), h 7 (by omega), h 8 (by omega), h 9 (by omega), h 10 (by omega)]

theorem supC_set (f : Nat → Int) (x : Int) {k : Nat} (hk : k < 11) : (supC f).setIfInBounds k (.int .i64 x) = supC (fun j => if j = k then x else f j) := by
  rcases (show k = 0 ∨ k = 1 ∨ k = 2 ∨ k = 3 ∨ k = 4 ∨ k = 5 ∨ k = 6 ∨ k = 7 ∨ k = 8 ∨ k = 9 ∨ k = 10 by omega) with rfl | rfl | rfl | rfl | rfl | rfl | rfl | rfl | rfl | rfl | rfl <;> rfl

theorem SupAt.set {w : World} {p : Nat} {f : Nat → Int} (h : SupAt w p f) {k : Nat} (hk : k < 11) (x : Int) : SupAt (w.setCell ⟨p, k, none⟩ (.int .i64 x)) p (fun j => if j = k then x else f j) := by
  rw [SupAt, heap_setCell_same w p k _ _ _ h, supC_set f x hk]

set_option maxHeartbeats 400000 in
theorem gact_any (w : World) (p k gi ga : Nat) (f : Nat → Int) (at_ : Nat) (lo hi : Int) (A : Option Addr) (n c : Nat) (l : List UInt8) (hk : k < 11) (hp : SupAt w p f) (hi_ : w.heap[gi]? = some (.cells #[.slice A n c] 24 (0, 0)))
    (ha : w.heap[ga]? = some (.cells #[.int .i64 (at_ : Int)] 3 (0, 0))) (hB : Bytes8 w A n c l) (hat : at_ ≤ 1000) (hpa : p ≠ ga) :
    Calls Try.prog 19 #[.pointer (some ⟨p, k, none⟩), .int .i64 lo, .int .i64 hi, .pointer (some ⟨gi, 0, none⟩), .pointer (some ⟨ga, 0, none⟩)] w fun e w' => e = .returned (.tuple #[]) ∧
      ∃ w1, Below w.heap.size w w1 ∧ w' = (w1.setCell ⟨p, k, none⟩ (.int .i64 (getN l at_ 4))).setCell ⟨ga, 0, none⟩ (.int .i64 ((at_ + 4 : Nat) : Int)) := by
  have G := Lib.hid (Get_any A n c l at_ 4 w hB (by omega))
  have ci : w.cell? ⟨gi, 0, none⟩ = some (.slice A n c) := by rw [cell_of_row w gi 0 _ _ _ hi_]; rfl
  have ca : w.cell? ⟨ga, 0, none⟩ = some (.int .i64 (at_ : Int)) := by rw [cell_of_row w ga 0 _ _ _ ha]; rfl
  have HP := Lib.hid hp
  have HA := Lib.hid ha
  generalize getN l at_ 4 = x at *
  generalize getE l at_ 4 = y at *
  clear hp ha hi_ hB
  go_enter Try.func19, Try.ntmps19
  go_wp2_with (go_at_call 20; (with_reducible refine (G.out).mono ?_); rintro e w1 ⟨rfl, hb1⟩; have hp1 := (hb1.block p (block_lt HP.out)).trans HP.out; have ha1 := (hb1.block ga (block_lt HA.out)).trans HA.out; have cp1 := SupAt.cell (f := f) hp1 hk; have fp1 := Lib.frozen_of_heap hp1 k; have ca1 : (w1.setCell ⟨p, k, none⟩ (.int .i64 x)).cell? ⟨ga, 0, none⟩ = some (.int .i64 (at_ : Int)) := (by rw [cell_of_row _ ga 0 _ _ _ ((heap_setCell_other w1 ⟨p, k, none⟩ ga _ (fun e => hpa e.symm)).trans ha1)]; rfl); have fa1 := Lib.frozen_of_heap ha1 0; have cb1 : w1.cell? ⟨ga, 0, none⟩ = some (.int .i64 (at_ : Int)) := (by rw [cell_of_row _ ga 0 _ _ _ ha1]; rfl))
  go_end0
  refine ⟨rfl, w1, hb1, ?_⟩
  rfl

/-- what Read's action keeps -/
structure ReadI (w0 w : World) (p gi ga r : Nat) (A : Option Addr) (n c : Nat) (l : List UInt8) (k : Nat) : Prop where
  bel : Below w0.heap.size w0 w
  sup : SupAt w p (readK l k)
  inn : w.heap[gi]? = some (Obj.cells #[.slice A n c] 24 (0, 0))
  at_ : w.heap[ga]? = some (Obj.cells #[.int .i64 ((12 + 4 * k : Nat) : Int)] 3 (0, 0))
  res : SupAt w r (fun _ => 0)

theorem callF19 (args : Array Value) (W : World) : (callFunc 19 args).run Try.prog W = .ok (.enter 19 args) W := by kernel_rfl

theorem read_visit {w0 w : World} {p gi ga r : Nat} {A : Option Addr} {n c : Nat} {l : List UInt8} (hB : Bytes8 w0 A n c l) (h1 : w0.heap.size ≤ p) (h2 : w0.heap.size ≤ ga) (hpg : p ≠ ga) (hpi : gi ≠ p) (hai : gi ≠ ga) (hrp : r ≠ p) (hra : r ≠ ga) (h : ReadI w0 w p gi ga r A n c l 0) :
    Calls Try.prog 13 #[.pointer (some ⟨p, 0, none⟩), .func (.func 19) #[] #[.pointer (some ⟨gi, 0, none⟩), .pointer (some ⟨ga, 0, none⟩)]] w fun e w' => e = .returned (.tuple #[]) ∧ ReadI w0 w' p gi ga r A n c l 11 := by
  refine visit_any2 w p 19 (.pointer (some ⟨gi, 0, none⟩)) (.pointer (some ⟨ga, 0, none⟩)) (readF l 4) callF19 (fun k W => ReadI w0 W p gi ga r A n c l k) ?_ ?_ ?_ h
  · intro k W hk hI
    have := hI.sup.cell (k := 4) (by omega)
    rwa [readK, if_pos (by omega)] at this
  · intro k W W' hI hb
    exact ⟨hI.bel.trans (hb.mono hI.bel.size), (hb.block p (block_lt hI.sup)).trans hI.sup, (hb.block gi (block_lt hI.inn)).trans hI.inn, (hb.block ga (block_lt hI.at_)).trans hI.at_, (hb.block r (block_lt hI.res)).trans hI.res⟩
  · intro k W hk hI
    refine (gact_any W p k gi ga _ (12 + 4 * k) _ _ A n c l hk hI.sup hI.inn hI.at_ (hB.below hI.bel) (by omega) hpg).mono ?_
    rintro e W' ⟨rfl, W1, hb, rfl⟩
    have s1 : SupAt W1 p (readK l k) := (hb.block p (block_lt hI.sup)).trans hI.sup
    have a1 := (hb.block ga (block_lt hI.at_)).trans hI.at_
    have i1 := (hb.block gi (block_lt hI.inn)).trans hI.inn
    have a2 : (W1.setCell ⟨p, k, none⟩ (.int .i64 (getN l (12 + 4 * k : Nat) 4))).heap[ga]? = _ := (heap_setCell_other W1 ⟨p, k, none⟩ ga _ (fun e => hpg e.symm)).trans a1
    refine ⟨rfl, ⟨?_, ?_, ?_, ?_, ?_⟩, ((Ptrs.of_below hb).trans (Ptrs.set s1 (by decide) k _)).trans (Ptrs.set a2 (by decide) 0 _)⟩
    · exact ((hI.bel.trans (hb.mono hI.bel.size)).setCell (p := ⟨p, k, none⟩) h1 _).setCell (p := ⟨ga, 0, none⟩) h2 _
    · rw [SupAt, heap_setCell_other _ ⟨ga, 0, none⟩ p _ hpg, s1.set hk, ]
      congr 2
      apply supC_congr
      intro j hj
      simp only [readK]
      by_cases e : j = k
      · subst e; rw [if_pos rfl, if_pos (by omega)]; rfl
      · rw [if_neg e]
        by_cases e2 : j < k
        · rw [if_pos e2, if_pos (by omega)]
        · rw [if_neg e2, if_neg (by omega)]
    · rw [heap_setCell_other _ ⟨ga, 0, none⟩ gi _ hai, heap_setCell_other _ ⟨p, k, none⟩ gi _ hpi]
      exact i1
    · exact one_setCell a2
    · rw [SupAt, heap_setCell_other _ ⟨ga, 0, none⟩ r _ hra, heap_setCell_other _ ⟨p, k, none⟩ r _ hrp]
      exact (hb.block r (block_lt hI.res)).trans hI.res

end Go.Proofs.Ytfebifpofhodoaa
