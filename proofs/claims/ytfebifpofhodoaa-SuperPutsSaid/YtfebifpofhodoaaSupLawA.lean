/-
  Layer 6: lives, and the walk of SuperPuts.
-/
import Derived.Test.YtfebifpofhodoaaSupF
import Derived.Deep.RegionHeld3
namespace Go.Proofs.Ytfebifpofhodoaa
open Go.RowKit
set_option linter.unusedVariables false
set_option linter.unusedSimpArgs false

/-- the least superblock -/
def f0 : Nat → Int
  | 2 => 1
  | 4 => 2
  | 5 => 1
  | 6 => 1
  | 7 => 1
  | 8 => 1
  | 9 => 1
  | 10 => 1
  | _ => 0

theorem f0_begins : (encS f0).take 12 = [83, 67, 65, 78, 84, 76, 73, 78, 1, 0, 0, 0] := by decide +kernel

set_option maxHeartbeats 400000 in
theorem lives6_any (w : World) : Calls Try.prog 10 #[] w fun e w' => e = .returned (.bool true) ∧ Below w.heap.size w w' := by
  have S : Hid (Calls Try.prog 6 #[.agg #[.int .i64 0, .int .i64 0, .int .i64 1, .int .i64 0, .int .i64 2, .int .i64 1, .int .i64 1, .int .i64 1, .int .i64 1, .int .i64 1, .int .i64 1]] w fun e w' => ∃ g, e = .returned (.tuple #[.slice (some ⟨g, 0, none⟩) 244 244, .int .i64 0]) ∧
      (convert 24 9 (.slice (some ⟨g, 0, none⟩) 12 244)).run Try.prog w' = .ok (.string ⟨#[83, 67, 65, 78, 84, 76, 73, 78, 1, 0, 0, 0]⟩) w' ∧ Below w.heap.size w w') :=
    (SPut_good w f0 (by decide +kernel)).mono fun e w' ⟨g, h1, h2, h3⟩ => by
      have hB := h2.bytes (n := 244) (encS_length f0) (by omega)
      have hB2 : Bytes8 w' (some ⟨g, 0, none⟩) 12 244 [83, 67, 65, 78, 84, 76, 73, 78, 1, 0, 0, 0] := by
        refine ⟨rfl, by omega, by omega, ?_⟩
        have := hB.row.take 12
        rw [u8s_take, f0_begins] at this
        exact this
      exact ⟨g, h1, run_str hB2, h3⟩
  go_enter Try.func10, Try.ntmps10
  go_wp2_with (go_at_call 6; (with_reducible refine (S.out).mono ?_); rintro e w1 ⟨g, rfl, hc, hb1⟩)
  go_ret
  exact ⟨rfl, hb1⟩

/-- what SuperPuts holds while its last line is reckoned -/
structure PutsSt (w W : World) (p : Nat) (f : Nat → Int) (A1 : Option Addr) (c1 : Nat) (A2 : Option Addr) (n c2 : Nat) (L : List UInt8) : Prop where
  bel : Below w.heap.size w W
  sup : SupAt W p f
  b1 : Bytes8 W A1 n c1 L
  b2 : Bytes8 W A2 n c2 L

theorem PutsSt.later {w W W' : World} {p : Nat} {f : Nat → Int} {A1 A2 : Option Addr} {c1 n c2 : Nat} {L : List UInt8} (h : PutsSt w W p f A1 c1 A2 n c2 L) (hb : Below W.heap.size W W') : PutsSt w W' p f A1 c1 A2 n c2 L :=
  ⟨h.bel.trans (hb.mono h.bel.size), (hb.block p (block_lt h.sup)).trans h.sup, h.b1.below hb, h.b2.below hb⟩

/-- the cells of a superblock -/
def SupCells (W : World) (p : Nat) (f : Nat → Int) : Prop :=
  W.cell? ⟨p, 0, none⟩ = some (.int .i64 (f 0)) ∧ W.cell? ⟨p, 1, none⟩ = some (.int .i64 (f 1)) ∧ W.cell? ⟨p, 2, none⟩ = some (.int .i64 (f 2)) ∧ W.cell? ⟨p, 3, none⟩ = some (.int .i64 (f 3)) ∧ W.cell? ⟨p, 4, none⟩ = some (.int .i64 (f 4)) ∧ W.cell? ⟨p, 5, none⟩ = some (.int .i64 (f 5)) ∧
  W.cell? ⟨p, 6, none⟩ = some (.int .i64 (f 6)) ∧ W.cell? ⟨p, 7, none⟩ = some (.int .i64 (f 7)) ∧ W.cell? ⟨p, 8, none⟩ = some (.int .i64 (f 8)) ∧ W.cell? ⟨p, 9, none⟩ = some (.int .i64 (f 9)) ∧ W.cell? ⟨p, 10, none⟩ = some (.int .i64 (f 10))
theorem SupAt.cells {W : World} {p : Nat} {f : Nat → Int} (h : SupAt W p f) : SupCells W p f :=
  ⟨h.cell (by omega), h.cell (by omega), h.cell (by omega), h.cell (by omega), h.cell (by omega), h.cell (by omega), h.cell (by omega), h.cell (by omega), h.cell (by omega), h.cell (by omega), h.cell (by omega)⟩

set_option maxRecDepth 100000 in
set_option maxHeartbeats 3200000 in
theorem superputs_walk (f : Nat → Int) (w : World) (_hf : ∀ k, k < 11 → -9223372036854775808 ≤ f k ∧ f k ≤ 9223372036854775807) :
    Calls Try.prog 3 #[supV f] w fun e w' => e = .returned (.bool true) ∧ Below w.heap.size w w' := by
  have hsup := heap_alloc_new w (.cells (supC f) 23)
  have hb0 : Below w.heap.size w (w.alloc (.cells (supC f) 23)) := (Below.refl _ _).alloc (Nat.le_refl _) _
  have P1 : Hid (Calls Try.prog 6 #[supV f] (w.alloc (.cells (supC f) 23)) fun e w' => ∃ A m c, e = .returned (.tuple #[.slice A m c, .int .i64 (putSE f)]) ∧ Bytes8 w' A m c (putSB f) ∧ Below w.heap.size w w' ∧ SupAt w' w.heap.size f) := (SPut_any _ f).mono fun e w' ⟨A, m, c, h1, h2, h3⟩ =>
    ⟨A, m, c, h1, h2, hb0.trans (h3.mono hb0.size), (h3.block _ (block_lt hsup)).trans hsup⟩
  have P2 : Hid (∀ W A1 n c1, Below w.heap.size w W → SupAt W w.heap.size f → Bytes8 W A1 n c1 (putSB f) → Calls Try.prog 7 #[supV f] W fun e w' => ∃ A c, e = .returned (.tuple #[.slice A n c, .int .i64 (putSE f)]) ∧ PutsSt w w' w.heap.size f A1 c1 A n c (putSB f)) := fun W A1 n c1 hb hs hB => (refSPut_any _ f).mono fun e w' ⟨A, m, c, h1, h2, h3⟩ => by
    obtain rfl : n = m := hB.len.symm.trans h2.len
    exact ⟨A, c, h1, hb.trans (h3.mono hb.size), (h3.block _ (block_lt hs)).trans hs, hB.below h3, h2⟩
  have R1 := Lib.hid (fun W => SRight_any W f)
  have R2 := Lib.hid (fun W => refSRight_any W f)
  generalize allB f 11 = r at *
  generalize putSE f = pe at *
  generalize putSB f = pb at *
  clear hsup hb0
  simp only [supV, supC] at P1 P2 R1 R2 ⊢
  go_enter Try.func3, Try.ntmps3
  go_wp2_with (first
    | (go_at_call 6; (with_reducible refine (P1.out).mono ?_); rintro e w1 ⟨A1, m1, c1, rfl, hB1, hb1, hs1⟩; have hq1 := SupAt.cells hs1; simp only [SupCells] at hq1; obtain ⟨k0, k1, k2, k3, k4, k5, k6, k7, k8, k9, k10⟩ := hq1; have HB1 := Lib.hid hB1; have HS1 := Lib.hid hs1; clear hB1 hs1)
    | (go_at_call 7; (with_reducible refine (P2.out _ _ _ _ hb1 HS1.out HB1.out).mono ?_); rintro e w2 ⟨A2, c2, rfl, hST⟩))
  have hST0 : PutsSt w w2.drew w.heap.size f A1 c1 A2 m1 c2 pb := hST.later ((Below.refl _ _).drew)
  have hfd := hST0.sup.cells
  have cv1 := run_str hST0.b1
  have cv2 := run_str hST0.b2
  have AR1 : Hid (∀ W, PutsSt w W w.heap.size f A1 c1 A2 m1 c2 pb → Calls Try.prog 8 #[.agg #[.int .i64 (f 0), .int .i64 (f 1), .int .i64 (f 2), .int .i64 (f 3), .int .i64 (f 4), .int .i64 (f 5), .int .i64 (f 6), .int .i64 (f 7), .int .i64 (f 8), .int .i64 (f 9), .int .i64 (f 10)]] W fun e w' => e = .returned (.bool r) ∧ PutsSt w w' w.heap.size f A1 c1 A2 m1 c2 pb) := fun W hW => (R1.out W).mono fun e w' ⟨h1, h2⟩ => ⟨h1, hW.later h2⟩
  have AR2 : Hid (∀ W, PutsSt w W w.heap.size f A1 c1 A2 m1 c2 pb → Calls Try.prog 9 #[.agg #[.int .i64 (f 0), .int .i64 (f 1), .int .i64 (f 2), .int .i64 (f 3), .int .i64 (f 4), .int .i64 (f 5), .int .i64 (f 6), .int .i64 (f 7), .int .i64 (f 8), .int .i64 (f 9), .int .i64 (f 10)]] W fun e w' => e = .returned (.bool r) ∧ PutsSt w w' w.heap.size f A1 c1 A2 m1 c2 pb) := fun W hW => (R2.out W).mono fun e w' ⟨h1, h2⟩ => ⟨h1, hW.later h2⟩
  have AL : Hid (∀ W, PutsSt w W w.heap.size f A1 c1 A2 m1 c2 pb → Calls Try.prog 10 #[] W fun e w' => e = .returned (.bool true) ∧ PutsSt w w' w.heap.size f A1 c1 A2 m1 c2 pb) := fun W hW => (lives6_any W).mono fun e w' ⟨h1, h2⟩ => ⟨h1, hW.later h2⟩
  have FX : Hid (∀ W, PutsSt w W w.heap.size f A1 c1 A2 m1 c2 pb → (SupCells W w.heap.size f ∧ (convert 24 9 (.slice A1 m1 c1)).run Try.prog W = .ok (.string ⟨pb.toArray⟩) W ∧ (convert 24 9 (.slice A2 m1 c2)).run Try.prog W = .ok (.string ⟨pb.toArray⟩) W)) := fun W hW => ⟨hW.sup.cells, run_str hW.b1, run_str hW.b2⟩
  have hF0 := FX.out _ hST0
  clear R1 R2 P1 P2 k0 k1 k2 k3 k4 k5 k6 k7 k8 k9 k10 hfd cv1 cv2 hST HB1 HS1 hb1
  simp only [SupCells] at FX hF0
  generalize (⟨pb.toArray⟩ : ByteArray) = sx at *
  go_region_held3 (fun W => (W.cell? ⟨w.heap.size, 0, none⟩ = some (.int .i64 (f 0)) ∧ W.cell? ⟨w.heap.size, 1, none⟩ = some (.int .i64 (f 1)) ∧ W.cell? ⟨w.heap.size, 2, none⟩ = some (.int .i64 (f 2)) ∧ W.cell? ⟨w.heap.size, 3, none⟩ = some (.int .i64 (f 3)) ∧ W.cell? ⟨w.heap.size, 4, none⟩ = some (.int .i64 (f 4)) ∧ W.cell? ⟨w.heap.size, 5, none⟩ = some (.int .i64 (f 5)) ∧
      W.cell? ⟨w.heap.size, 6, none⟩ = some (.int .i64 (f 6)) ∧ W.cell? ⟨w.heap.size, 7, none⟩ = some (.int .i64 (f 7)) ∧ W.cell? ⟨w.heap.size, 8, none⟩ = some (.int .i64 (f 8)) ∧ W.cell? ⟨w.heap.size, 9, none⟩ = some (.int .i64 (f 9)) ∧ W.cell? ⟨w.heap.size, 10, none⟩ = some (.int .i64 (f 10))) ∧
      (convert 24 9 (.slice A1 m1 c1)).run Try.prog W = .ok (.string sx) W ∧ (convert 24 9 (.slice A2 m1 c2)).run Try.prog W = .ok (.string sx) W)
    (assumption)
    (first
    | (go_at_call 8; (with_reducible refine (AR1.out _ (by assumption)).mono ?_); rintro e w5 ⟨rfl, hN5⟩; have hf5 := FX.out _ hN5)
    | (go_at_call 9; (with_reducible refine (AR2.out _ (by assumption)).mono ?_); rintro e w6 ⟨rfl, hN6⟩; have hf6 := FX.out _ hN6)
    | (go_at_call 10; (with_reducible refine (AL.out _ (by assumption)).mono ?_); rintro e w7 ⟨rfl, hN7⟩; have hf7 := FX.out _ hN7))
  all_goals go_wp2
  all_goals go_ret
  all_goals exact ⟨rfl, (by assumption : PutsSt _ _ _ _ _ _ _ _ _ _).bel⟩

end Go.Proofs.Ytfebifpofhodoaa
