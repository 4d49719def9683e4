/-
  The walk of SuperBack.
-/
import Derived.Test.YtfebifpofhodoaaSupI
import Derived.Test.YtfebifpofhodoaaSupLives
namespace Go.Proofs.Ytfebifpofhodoaa
open Go.RowKit
set_option linter.unusedVariables false
set_option linter.unusedSimpArgs false

theorem put_back {l : List UInt8} {q : Nat} {w W : World} (e0 : readE l = 0) (hl : l.length = q) (hW : Below w.heap.size w W) :
    Calls Try.prog 6 #[supV (readF l)] W fun e w' => ∃ A2 c2, e = .returned (.tuple #[.slice A2 q c2, .int .i64 0]) ∧ Bytes8 w' A2 q c2 l ∧ Below w.heap.size w w' := by
  have h : allB (readF l) 11 = true ∧ encS (readF l) = l := by
    rw [readE] at e0
    split at e0
    · assumption
    · omega
  refine (SPut_any W (readF l)).mono fun e w' ⟨A2, m, c2, h1, h2, h3⟩ => ?_
  rw [putSE, if_pos h.1] at h1
  rw [putSB, if_pos h.1, h.2] at h2
  obtain rfl : q = m := hl.symm.trans h2.len
  exact ⟨A2, c2, h1, h2, hW.trans (h3.mono hW.size)⟩

set_option maxRecDepth 100000 in
set_option maxHeartbeats 3200000 in
theorem superback_walk (f : Nat → Int) (A : Option Addr) (n c : Nat) (l0 : List UInt8) (w : World) (_hf : ∀ k, k < 11 → -9223372036854775808 ≤ f k ∧ f k ≤ 9223372036854775807) (h : Bytes8 w A n c l0) :
    Calls Try.prog 5 #[supV f, .slice A n c] w fun e w' => e = .returned (.bool true) ∧ Below w.heap.size w w' := by
  obtain ⟨q, l, hB, hq, hcase⟩ := cut_bytes 600 h
  have hb0 : Below w.heap.size w (w.alloc (.cells (supC f) 23)) := (Below.refl _ _).alloc (Nat.le_refl _) _
  have hsup := heap_alloc_new w (.cells (supC f) 23)
  have HB := Lib.hid hB
  have R : Hid (∀ W, Below w.heap.size w W → Calls Try.prog 11 #[.slice A q c] W fun e w' => e = .returned (.tuple #[supV (readS l), .int .i64 (readE l)]) ∧ Below w.heap.size w w') := fun W hW => (SRead_any A q c l W (hB.below hW)).mono fun e w' ⟨h1, h2⟩ => ⟨h1, hW.trans (h2.mono hW.size)⟩
  have LV : Hid (∀ W, Below w.heap.size w W → Calls Try.prog 10 #[] W fun e w' => e = .returned (.bool true) ∧ Below w.heap.size w w') := fun W hW => (lives6_any W).mono fun e w' ⟨h1, h2⟩ => ⟨h1, hW.trans (h2.mono hW.size)⟩
  clear h hB
  cases hr : allB f 11 with
  | false =>
    have P1 : Hid (Calls Try.prog 6 #[supV f] (w.alloc (.cells (supC f) 23)) fun e w' => e = .returned (.tuple #[.slice none 0 0, .int .i64 1]) ∧ Below w.heap.size w w') := (SPut_bad _ f hr).mono fun e w' ⟨h1, h2⟩ => ⟨h1, hb0.trans (h2.mono hb0.size)⟩
    clear hr hsup hb0
    rcases readE_cases l with e0 | e7
    · have P2 : Hid (∀ W, Below w.heap.size w W → Calls Try.prog 6 #[supV (readF l)] W fun e w' => ∃ A2 c2, e = .returned (.tuple #[.slice A2 q c2, .int .i64 0]) ∧ Bytes8 w' A2 q c2 l ∧ Below w.heap.size w w') := fun W hW => put_back e0 HB.out.len hW
      have e2 : readS l = readF l := by rw [readS, if_pos e0]
      rw [e2, e0] at R
      clear e2 e0
      simp only [supV, supC] at P1 P2 R  ⊢
      generalize readF l = F at *
      rcases hcase with ⟨h1, h2, rfl⟩ | ⟨h1, rfl⟩
      all_goals go_enter Try.func5, Try.ntmps5
      all_goals go_wp2_with (first
        | (go_at_call 6; (with_reducible refine (P1.out).mono ?_); rintro e w1 ⟨rfl, hb1⟩)
        | (go_at_call 11; (with_reducible refine (R.out _ (by first | exact hb1)).mono ?_); rintro e w5 ⟨rfl, hb5⟩)
        | (go_at_call 6; (with_reducible refine (P2.out _ (by first | exact hb5.alloc hb5.size _ | exact hb5)).mono ?_); rintro e w6 ⟨A6, c6, rfl, hB6, hb6⟩; have cv6 := run_str hB6; have cv7 := run_str (HB.out.below hb6); clear hB6)
        | (go_at_call 10; (with_reducible refine (LV.out _ (by first | exact hb6 | exact hb6.drew)).mono ?_); rintro e w7 ⟨rfl, hb7⟩))
      all_goals go_ret
      all_goals exact ⟨rfl, hb7⟩
    · rw [readS_wrong e7, e7] at R
      clear e7
      simp only [supV, supC] at P1 R  ⊢
      rcases hcase with ⟨h1, h2, rfl⟩ | ⟨h1, rfl⟩
      all_goals go_enter Try.func5, Try.ntmps5
      all_goals go_wp2_with (first
        | (go_at_call 6; (with_reducible refine (P1.out).mono ?_); rintro e w1 ⟨rfl, hb1⟩)
        | (go_at_call 11; (with_reducible refine (R.out _ (by first | exact hb1)).mono ?_); rintro e w5 ⟨rfl, hb5⟩)
        | (go_at_call 10; (with_reducible refine (LV.out _ (by first | exact hb5.alloc hb5.size _ | exact hb5)).mono ?_); rintro e w7 ⟨rfl, hb7⟩))
      all_goals go_ret
      all_goals exact ⟨rfl, hb7⟩
  | true =>
    have P1 : Hid (Calls Try.prog 6 #[supV f] (w.alloc (.cells (supC f) 23)) fun e w' => ∃ g, e = .returned (.tuple #[.slice (some ⟨g, 0, none⟩) 244 244, .int .i64 0]) ∧ Bytes8 w' (some ⟨g, 0, none⟩) 244 244 (encS f) ∧ Below w.heap.size w w' ∧ SupAt w' w.heap.size f) := (SPut_good _ f hr).mono fun e w' ⟨g, h1, h2, h3⟩ =>
      ⟨g, h1, h2.bytes (encS_length f) (by omega), hb0.trans (h3.mono hb0.size), (h3.block _ (block_lt hsup)).trans hsup⟩
    have R1 : Hid (∀ W g, Bytes8 W (some ⟨g, 0, none⟩) 244 244 (encS f) → Calls Try.prog 11 #[.slice (some ⟨g, 0, none⟩) 244 244] W fun e w' => e = .returned (.tuple #[supV f, .int .i64 0]) ∧ Below W.heap.size W w') := fun W g hW => (SRead_any _ _ _ _ W hW).mono fun e w' ⟨h1, h2⟩ => by
      rw [readE_encS hr, readS_encS hr] at h1
      exact ⟨h1, h2⟩
    have R2 : Hid (∀ w2 g, Bytes8 w2 (some ⟨g, 0, none⟩) 244 244 (encS f) → SupAt w2 w.heap.size f → Below w.heap.size w w2 → Calls Try.prog 11 #[.slice (some ⟨g, 0, none⟩) 243 244] (w2.alloc (.cells (supC f) 23)) fun e w' => e = .returned (.tuple #[supV (fun _ => 0), .int .i64 7]) ∧ Below w.heap.size w w' ∧ SupAt w' w.heap.size f ∧ SupAt w' w2.heap.size f) := fun w2 g hW hs hb => by
      have hal : Below w2.heap.size w2 (w2.alloc (.cells (supC f) 23)) := (Below.refl _ _).alloc (Nat.le_refl _) _
      have hnew := heap_alloc_new w2 (.cells (supC f) 23)
      have hB2 : Bytes8 w2 (some ⟨g, 0, none⟩) 243 244 ((encS f).take 243) := by
        refine ⟨by rw [List.length_take, encS_length]; rfl, by omega, by omega, ?_⟩
        have := hW.row.take 243
        rwa [u8s_take] at this
      have e7 := readE_short (l := (encS f).take 243) (by rw [hB2.len]; omega)
      refine (SRead_any _ _ _ _ _ (hB2.below hal)).mono fun e w' ⟨h1, h2⟩ => ?_
      rw [e7, readS_wrong e7] at h1
      have hall := hb.trans (hal.mono hb.size)
      exact ⟨h1, hall.trans (h2.mono hall.size), (h2.block _ (block_lt ((hal.block _ (block_lt hs)).trans hs))).trans ((hal.block _ (block_lt hs)).trans hs), (h2.block _ (block_lt hnew)).trans hnew⟩
    have R1' : Hid (∀ W g, Bytes8 W (some ⟨g, 0, none⟩) 244 244 (encS f) → SupAt W w.heap.size f → Below w.heap.size w W → Calls Try.prog 11 #[.slice (some ⟨g, 0, none⟩) 244 244] W fun e w' => e = .returned (.tuple #[supV f, .int .i64 0]) ∧ Bytes8 w' (some ⟨g, 0, none⟩) 244 244 (encS f) ∧ SupAt w' w.heap.size f ∧ Below w.heap.size w w') := fun W g hB hs hb => (R1.out W g hB).mono fun e w' ⟨h1, h2⟩ => ⟨h1, hB.below h2, (h2.block _ (block_lt hs)).trans hs, hb.trans (h2.mono hb.size)⟩
    clear hr hsup hb0 R1
    generalize encS f = es at *
    rcases readE_cases l with e0 | e7
    · have P2 : Hid (∀ W, Below w.heap.size w W → Calls Try.prog 6 #[supV (readF l)] W fun e w' => ∃ A2 c2, e = .returned (.tuple #[.slice A2 q c2, .int .i64 0]) ∧ Bytes8 w' A2 q c2 l ∧ Below w.heap.size w w') := fun W hW => put_back e0 HB.out.len hW
      have e2 : readS l = readF l := by rw [readS, if_pos e0]
      rw [e2, e0] at R
      clear e2 e0
      simp only [supV, supC] at P1 P2 R R1' R2 ⊢
      generalize readF l = F at *
      rcases hcase with ⟨h1, h2, rfl⟩ | ⟨h1, rfl⟩
      all_goals go_enter Try.func5, Try.ntmps5
      all_goals go_wp2_with (first
        | (go_at_call 6; (with_reducible refine (P1.out).mono ?_); rintro e w1 ⟨g, rfl, hB1, hb1, hs1⟩; have HB1 := Lib.hid hB1; have HS1 := Lib.hid hs1; clear hB1; have q0 := SupAt.cell (f := f) hs1 (k := 0) (by omega); have q1 := SupAt.cell (f := f) hs1 (k := 1) (by omega); have q2 := SupAt.cell (f := f) hs1 (k := 2) (by omega); have q3 := SupAt.cell (f := f) hs1 (k := 3) (by omega); have q4 := SupAt.cell (f := f) hs1 (k := 4) (by omega); have q5 := SupAt.cell (f := f) hs1 (k := 5) (by omega); have q6 := SupAt.cell (f := f) hs1 (k := 6) (by omega); have q7 := SupAt.cell (f := f) hs1 (k := 7) (by omega); have q8 := SupAt.cell (f := f) hs1 (k := 8) (by omega); have q9 := SupAt.cell (f := f) hs1 (k := 9) (by omega); have q10 := SupAt.cell (f := f) hs1 (k := 10) (by omega))
        | (go_at_call 11; (with_reducible refine (R1'.out _ _ HB1.out HS1.out hb1).mono ?_); rintro e w2 ⟨rfl, hB2, hs2, hb2⟩; have HB2 := Lib.hid hB2; have HS2 := Lib.hid hs2; clear hB2 hs2)
        | (go_at_call 11; (with_reducible refine (R2.out _ _ HB2.out HS2.out hb2).mono ?_); rintro e w3 ⟨rfl, hb14, hs3', ht3'⟩; have ha3 : Below w3.heap.size w3 (w3.alloc (.cells #[.int .i64 0, .int .i64 0, .int .i64 0, .int .i64 0, .int .i64 0, .int .i64 0, .int .i64 0, .int .i64 0, .int .i64 0, .int .i64 0, .int .i64 0] 23)) := (Below.refl _ _).alloc (Nat.le_refl _) _; have hs3 := (ha3.block _ (block_lt hs3')).trans hs3'; have ht3 := (ha3.block _ (block_lt ht3')).trans ht3'; clear ha3; have r0 := SupAt.cell (f := f) hs3 (k := 0) (by omega); have t0 := SupAt.cell (f := f) ht3 (k := 0) (by omega); have r1 := SupAt.cell (f := f) hs3 (k := 1) (by omega); have t1 := SupAt.cell (f := f) ht3 (k := 1) (by omega); have r2 := SupAt.cell (f := f) hs3 (k := 2) (by omega); have t2 := SupAt.cell (f := f) ht3 (k := 2) (by omega); have r3 := SupAt.cell (f := f) hs3 (k := 3) (by omega); have t3 := SupAt.cell (f := f) ht3 (k := 3) (by omega); have r4 := SupAt.cell (f := f) hs3 (k := 4) (by omega); have t4 := SupAt.cell (f := f) ht3 (k := 4) (by omega); have r5 := SupAt.cell (f := f) hs3 (k := 5) (by omega); have t5 := SupAt.cell (f := f) ht3 (k := 5) (by omega); have r6 := SupAt.cell (f := f) hs3 (k := 6) (by omega); have t6 := SupAt.cell (f := f) ht3 (k := 6) (by omega); have r7 := SupAt.cell (f := f) hs3 (k := 7) (by omega); have t7 := SupAt.cell (f := f) ht3 (k := 7) (by omega); have r8 := SupAt.cell (f := f) hs3 (k := 8) (by omega); have t8 := SupAt.cell (f := f) ht3 (k := 8) (by omega); have r9 := SupAt.cell (f := f) hs3 (k := 9) (by omega); have t9 := SupAt.cell (f := f) ht3 (k := 9) (by omega); have r10 := SupAt.cell (f := f) hs3 (k := 10) (by omega); have t10 := SupAt.cell (f := f) ht3 (k := 10) (by omega); clear hs3 ht3 hs3' ht3')
        | (go_at_call 11; (with_reducible refine (R.out _ (by first | exact hb14.alloc hb14.size _ | exact hb14)).mono ?_); rintro e w5 ⟨rfl, hb5⟩)
        | (go_at_call 6; (with_reducible refine (P2.out _ (by first | exact hb5.alloc hb5.size _ | exact hb5)).mono ?_); rintro e w6 ⟨A6, c6, rfl, hB6, hb6⟩; have cv6 := run_str hB6; have cv7 := run_str (HB.out.below hb6); clear hB6)
        | (go_at_call 10; (with_reducible refine (LV.out _ (by first | exact hb6 | exact hb6.drew)).mono ?_); rintro e w7 ⟨rfl, hb7⟩))
      all_goals go_ret
      all_goals exact ⟨rfl, hb7⟩
    · rw [readS_wrong e7, e7] at R
      clear e7
      simp only [supV, supC] at P1 R R1' R2 ⊢
      rcases hcase with ⟨h1, h2, rfl⟩ | ⟨h1, rfl⟩
      all_goals go_enter Try.func5, Try.ntmps5
      all_goals go_wp2_with (first
        | (go_at_call 6; (with_reducible refine (P1.out).mono ?_); rintro e w1 ⟨g, rfl, hB1, hb1, hs1⟩; have HB1 := Lib.hid hB1; have HS1 := Lib.hid hs1; clear hB1; have q0 := SupAt.cell (f := f) hs1 (k := 0) (by omega); have q1 := SupAt.cell (f := f) hs1 (k := 1) (by omega); have q2 := SupAt.cell (f := f) hs1 (k := 2) (by omega); have q3 := SupAt.cell (f := f) hs1 (k := 3) (by omega); have q4 := SupAt.cell (f := f) hs1 (k := 4) (by omega); have q5 := SupAt.cell (f := f) hs1 (k := 5) (by omega); have q6 := SupAt.cell (f := f) hs1 (k := 6) (by omega); have q7 := SupAt.cell (f := f) hs1 (k := 7) (by omega); have q8 := SupAt.cell (f := f) hs1 (k := 8) (by omega); have q9 := SupAt.cell (f := f) hs1 (k := 9) (by omega); have q10 := SupAt.cell (f := f) hs1 (k := 10) (by omega))
        | (go_at_call 11; (with_reducible refine (R1'.out _ _ HB1.out HS1.out hb1).mono ?_); rintro e w2 ⟨rfl, hB2, hs2, hb2⟩; have HB2 := Lib.hid hB2; have HS2 := Lib.hid hs2; clear hB2 hs2)
        | (go_at_call 11; (with_reducible refine (R2.out _ _ HB2.out HS2.out hb2).mono ?_); rintro e w3 ⟨rfl, hb14, hs3', ht3'⟩; have ha3 : Below w3.heap.size w3 (w3.alloc (.cells #[.int .i64 0, .int .i64 0, .int .i64 0, .int .i64 0, .int .i64 0, .int .i64 0, .int .i64 0, .int .i64 0, .int .i64 0, .int .i64 0, .int .i64 0] 23)) := (Below.refl _ _).alloc (Nat.le_refl _) _; have hs3 := (ha3.block _ (block_lt hs3')).trans hs3'; have ht3 := (ha3.block _ (block_lt ht3')).trans ht3'; clear ha3; have r0 := SupAt.cell (f := f) hs3 (k := 0) (by omega); have t0 := SupAt.cell (f := f) ht3 (k := 0) (by omega); have r1 := SupAt.cell (f := f) hs3 (k := 1) (by omega); have t1 := SupAt.cell (f := f) ht3 (k := 1) (by omega); have r2 := SupAt.cell (f := f) hs3 (k := 2) (by omega); have t2 := SupAt.cell (f := f) ht3 (k := 2) (by omega); have r3 := SupAt.cell (f := f) hs3 (k := 3) (by omega); have t3 := SupAt.cell (f := f) ht3 (k := 3) (by omega); have r4 := SupAt.cell (f := f) hs3 (k := 4) (by omega); have t4 := SupAt.cell (f := f) ht3 (k := 4) (by omega); have r5 := SupAt.cell (f := f) hs3 (k := 5) (by omega); have t5 := SupAt.cell (f := f) ht3 (k := 5) (by omega); have r6 := SupAt.cell (f := f) hs3 (k := 6) (by omega); have t6 := SupAt.cell (f := f) ht3 (k := 6) (by omega); have r7 := SupAt.cell (f := f) hs3 (k := 7) (by omega); have t7 := SupAt.cell (f := f) ht3 (k := 7) (by omega); have r8 := SupAt.cell (f := f) hs3 (k := 8) (by omega); have t8 := SupAt.cell (f := f) ht3 (k := 8) (by omega); have r9 := SupAt.cell (f := f) hs3 (k := 9) (by omega); have t9 := SupAt.cell (f := f) ht3 (k := 9) (by omega); have r10 := SupAt.cell (f := f) hs3 (k := 10) (by omega); have t10 := SupAt.cell (f := f) ht3 (k := 10) (by omega); clear hs3 ht3 hs3' ht3')
        | (go_at_call 11; (with_reducible refine (R.out _ (by first | exact hb14.alloc hb14.size _ | exact hb14)).mono ?_); rintro e w5 ⟨rfl, hb5⟩)
        | (go_at_call 10; (with_reducible refine (LV.out _ (by first | exact hb5.alloc hb5.size _ | exact hb5)).mono ?_); rintro e w7 ⟨rfl, hb7⟩))
      all_goals go_ret
      all_goals exact ⟨rfl, hb7⟩

end Go.Proofs.Ytfebifpofhodoaa
