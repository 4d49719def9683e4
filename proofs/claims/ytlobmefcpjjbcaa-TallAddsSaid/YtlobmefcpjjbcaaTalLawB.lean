/-
  The walk of TallAdds.
-/
import Derived.Test.YtlobmefcpjjbcaaTalLawA
import Derived.BigQuiet
namespace Go.Proofs.Ytlobmefcpjjbcaa
open Go.RowKit
set_option linter.unusedVariables false
set_option linter.unusedSimpArgs false

theorem tal_and14 (n : Int) : bits .and .i64 n 16383 = n % 16384 := by
  have hm : (BitVec.ofInt 64 16383).toNat = 2 ^ 14 - 1 := by decide
  have key : (BitVec.ofInt 64 n &&& BitVec.ofInt 64 16383).toNat = (n % ((2 ^ 64 : Nat) : Int)).toNat % 2 ^ 14 := by
    rw [BitVec.toNat_and, BitVec.toNat_ofInt, hm, Nat.and_two_pow_sub_one_eq_mod]
  show IntKind.i64.wrap ((BitVec.ofInt 64 n &&& BitVec.ofInt 64 16383).toNat : Nat) = n % 16384
  rw [key, IntKind.wrap_i64]
  omega
theorem tal_and8 (n : Int) : bits .and .i64 n 255 = n % 256 := by
  have hm : (BitVec.ofInt 64 255).toNat = 2 ^ 8 - 1 := by decide
  have key : (BitVec.ofInt 64 n &&& BitVec.ofInt 64 255).toNat = (n % ((2 ^ 64 : Nat) : Int)).toNat % 2 ^ 8 := by
    rw [BitVec.toNat_and, BitVec.toNat_ofInt, hm, Nat.and_two_pow_sub_one_eq_mod]
  show IntKind.i64.wrap ((BitVec.ofInt 64 n &&& BitVec.ofInt 64 255).toNat : Nat) = n % 256
  rw [key, IntKind.wrap_i64]
  omega
theorem tal_first (n : Int) : ∃ N : Nat, bits .and .i64 n 16383 = (N : Int) ∧ N ≤ 16383 := ⟨(n % 16384).toNat, by rw [tal_and14]; omega, by omega⟩
theorem tal_most (n : Int) : ∃ M : Nat, wrap64 (1 + bits .and .i64 n 255) = (M : Int) ∧ 1 ≤ M ∧ M ≤ 256 := ⟨(1 + n % 256).toNat, by rw [tal_and8]; unfold wrap64; omega, by omega, by omega⟩

theorem siz15_at {n m k : Nat} (h : k < fil15 n m) : (i64s (siz15 n m))[k]? = some (.int .i64 (el15 n m k : Int)) := by
  rw [i64s_at _ k (by rw [siz15_length]; exact h)]
  simp [siz15]

set_option maxRecDepth 100000 in
set_option maxHeartbeats 1600000 in
theorem talladds_walk (tree n most : Int) (w : World) (_ht : -9223372036854775808 ≤ tree ∧ tree ≤ 9223372036854775807) (_hn : -9223372036854775808 ≤ n ∧ n ≤ 9223372036854775807) (_hm : -9223372036854775808 ≤ most ∧ most ≤ 9223372036854775807) :
    Calls Try.prog 4 #[.int .i64 tree, .int .i64 n, .int .i64 most] w fun e w' => e = .returned (.bool true) ∧ Below w.heap.size w w' := by
  obtain ⟨m, hmx⟩ : ∃ m, capN (widN tree true) = m := ⟨_, rfl⟩
  obtain ⟨N, hN, hN2⟩ := tal_first n
  obtain ⟨M, hM, hM1, hM2⟩ := tal_most most
  clear _hn _hm _ht
  have hF1 := fil15_pos N M
  have hF2 := fil15_le (n := N) (m := M) hM1
  have hF3 : fil15 N M ≤ 16383 := by omega
  have SP : Hid (Calls Try.prog 11 #[.int .i64 N, .int .i64 M] w fun e w' => ∃ b off c, e = .returned (.slice (some ⟨b, off, none⟩) (fil15 N M) c) ∧ fil15 N M ≤ c ∧ c ≤ 9223372036854775807 ∧ Hid (∀ k, k < fil15 N M → w'.cell? ⟨b, off + k, none⟩ = some (.int .i64 (el15 N M k : Int))) ∧ Bw15 w w') := by
    refine (Sizes_any15 N M w (by omega)).mono ?_
    rintro e w' ⟨A, c, h1, h2, h3⟩
    have e1 : sizL15 N M = siz15 N M := by
      rw [sizL15, if_pos (by omega)]
      simp
    rw [e1, siz15_length] at h1 h2
    obtain ⟨b, off, rfl, _, hc⟩ := h2.row.lit (by rw [i64s_length, siz15_length]; omega)
    exact ⟨b, off, c, h1, h2.cap, h2.most, fun k hk => hc k _ (siz15_at hk), h3⟩
  have N1 : Hid (∀ W, Bw15 w W → Calls Try.prog 9 #[.int .i64 tree, .int .i64 ((N : Int) + 1)] W fun e w' => e = .returned (.int .i64 (levL15 m ((N : Int) + 1)).sum) ∧ Bw15 w w') := fun W hW => (Nodes_any15 tree _ m hmx W).mono fun e w' ⟨h1, h3⟩ => ⟨h1, hW.later h3⟩
  have N2 : Hid (∀ W, Bw15 w W → Calls Try.prog 9 #[.int .i64 tree, .int .i64 N] W fun e w' => e = .returned (.int .i64 (levL15 m N).sum) ∧ Bw15 w w') := fun W hW => (Nodes_any15 tree _ m hmx W).mono fun e w' ⟨h1, h3⟩ => ⟨h1, hW.later h3⟩
  have LI : Hid (∀ W, Bw15 w W → Calls Try.prog 13 #[] W fun e w' => e = .returned (.bool true) ∧ Bw15 w w') := fun W hW => (lives15_any W).mono fun e w' ⟨h1, h3⟩ => ⟨h1, hW.later h3⟩
  have hge : ¬ (levL15 m ((N : Int) + 1)).sum < (levL15 m N).sum := by
    unfold levL15 some15
    by_cases hz : m = 0
    · subst hz; simp
    · rw [if_pos (by simp; omega), if_pos (by simp; omega)]
      have := lev15_mono (n := N) (k := N + 1) (m := m) (by omega)
      rw [show ((N : Int) + 1).toNat = N + 1 by omega, Int.toNat_natCast]
      omega
  have FUL := Lib.hid (fun k (h : k + 1 < fil15 N M) => el15_full hM1 h)
  have LAS := Lib.hid (fun k (h : k + 1 = fil15 N M) => el15_last hM1 h)
  have SUM := Lib.hid (fun k (h : k ≤ fil15 N M) => head15_sum (n := N) hM1 k h)
  have SUC := Lib.hid (fun k => head15_succ N M k)
  have SZ : Hid ((head15 N M 0).sum = 0) := rfl
  have SF : Hid ((head15 N M (fil15 N M)).sum = (N : Int)) := by
    show (head15 N M (fil15 N M)).sum = (N : Int)
    rw [head15_sum hM1 _ (Nat.le_refl _)]
    have h1 := (fil15_room (n := N) hM1 hF1).1 (Nat.le_refl _)
    rw [Nat.mul_comm] at h1
    omega
  generalize (levL15 m ((N : Int) + 1)).sum = s1 at *
  generalize (levL15 m N).sum = s0 at *
  generalize fil15 N M = F at *
  clear hF2 hmx
  go_enter Try.func4, Try.ntmps4
  go_wp2_with (go_at_call 11; (with_reducible refine (SP.out).mono ?_); rintro e w1 ⟨b, off, c, rfl, hc1, hc2, HC, hW1⟩)
  have HLT : Hid (∀ k, k < F → b < w1.heap.size) := fun k hk => cell_lt (HC.out k hk)
  go_loopw [8, 9] (fun s i wr => ∃ k : Nat, k ≤ F ∧ i = .int .i64 k ∧ s = .int .i64 (head15 N M k).sum ∧ Hid (Below w1.heap.size w1 wr)) (fun _ i _ => F - (intOf i).toNat)
  case atStart => exact ⟨0, by omega, rfl, by rw [SZ.out], Below.refl _ _⟩
  case round =>
    obtain ⟨k, hk, rfl, rfl, hb⟩ := hrel
    by_cases hlt : k < F
    · have hck : wr.cell? ⟨b, off + k, none⟩ = some (.int .i64 (el15 N M k : Int)) := (hb.out.cell (p := ⟨b, off + k, none⟩) (HLT.out k hlt)).trans (HC.out k hlt)
      have hs1 := SUM.out k (by omega)
      have hs2 := SUM.out (k + 1) (by omega)
      have hsu := SUC.out k
      have hsum : (head15 N M (k + 1)).sum = (head15 N M k).sum + (el15 N M k : Int) := by rw [hsu, List.sum_append]; simp
      have hful := FUL.out k
      have hlas := LAS.out k
      obtain ⟨t2, ht2⟩ : ∃ t2, (head15 N M (k + 1)).sum = t2 := ⟨_, rfl⟩
      rw [ht2] at hsum hs2
      have HT := Lib.hid ht2
      clear ht2 hsu SUM SUC FUL LAS SZ SF
      generalize (head15 N M k).sum = t at *
      generalize el15 N M k = z at *
      generalize (N - (k + 1) * M : Nat) = r2 at *
      have hzN : z ≤ 16384 := by
        by_cases h : k + 1 < F
        · have := hful h; omega
        · have := hlas (by omega); have : N - k * M ≤ N := Nat.sub_le _ _; omega
      have hw : wrap64 (t + (z : Int)) = t2 := by unfold wrap64; omega
      have HW := Lib.hid hw
      clear hw
      by_cases hx : k + 1 < F
      · obtain ⟨hz1, hz2⟩ := hful hx
        subst hz1
        have g1 : decide ((z : Int) < (z : Int)) = false := by simp
        have g2 : ((z : Int) != (z : Int)) = false := by simp
        have g3 : ((z : Int) == 0) = false := by simp; omega
        clear hs1 hs2 hsum hful hlas
        go_wp2
        go_roundw
        case rel => exact ⟨k + 1, by omega, by go_num, by rw [HT.out]; first | exact congrArg _ HW.out | exact congrArg _ (by simpa using HW.out), hb⟩
        case measure => simp [intOf]; omega
      · obtain ⟨hz1, hz2, hz3⟩ := hlas (by omega)
        have hle : z ≤ M := by omega
        have hkF : ¬ ((k : Int) + 1 < (F : Int)) := by omega
        by_cases hz0 : z = 0
        · subst hz0
          have hN0 : N = 0 := by rcases hz3 with rfl | h <;> omega
          subst hN0
          clear hs1 hs2 hsum hful hlas hz1 hz2 hz3
          go_wp2
          go_roundw
          case rel => exact ⟨_, .int .i64 (head15 0 M (k + 1)).sum, .int .i64 ((k + 1 : Nat) : Int), ⟨k + 1, by omega, rfl, rfl⟩, rfl, by rw [HT.out]; exact congrArg _ (by simpa using HW.out), by simp⟩
          case measure => simp [intOf]; omega
        · have g1 : decide ((M : Int) < (z : Int)) = false := by simp; omega
          have g3 : ((z : Int) == 0) = false := by simp; omega
          clear hs1 hs2 hsum hful hlas hz1 hz2 hz3
          go_wp2
          go_roundw
          case rel => exact ⟨k + 1, by omega, by go_num, by rw [HT.out]; first | exact congrArg _ HW.out | exact congrArg _ (by simpa using HW.out), hb⟩
          case measure => simp [intOf]; omega
    · obtain rfl : k = F := by omega
      have hW2 : Bw15 w wr := hW1.later hb.out
      rw [SF.out]
      go_wp2_with (first
        | (go_at_call 9; (with_reducible refine (N1.out _ hW2).mono ?_); rintro e w4 ⟨rfl, hW4⟩)
        | (go_at_call 9; (with_reducible refine (N2.out _ hW4).mono ?_); rintro e w5 ⟨rfl, hW5⟩)
        | (go_at_call 13; (with_reducible refine (LI.out _ hW5).mono ?_); rintro e w9 ⟨rfl, hW9⟩))
      go_ret
      exact ⟨rfl, hW9⟩

end Go.Proofs.Ytlobmefcpjjbcaa
