/-
  Layer 15: Levels, Nodes, Sizes.
-/
import Derived.Test.YtlobmefcpjjbcaaTalA
namespace Go.Proofs.Ytlobmefcpjjbcaa
open Go.RowKit
set_option linter.unusedVariables false
set_option linter.unusedSimpArgs false

theorem own_one15 (w : World) (b : Int) : (w.alloc (.cells #[.int .i64 b] 3)).ownsRow w.heap.size 3 1 (.slice (some ⟨w.heap.size, 0, none⟩) 1 1) 1 (i64s [b]) :=
  ⟨rfl, .inr ⟨w.heap.size, 1, #[.int .i64 b], rfl, Nat.le_refl _, heap_alloc_new w _, Nat.le_refl _, by decide, rfl, rfl⟩⟩

set_option maxRecDepth 100000 in
set_option maxHeartbeats 800000 in
theorem Sizes_any15 (n m : Int) (w : World) (hm2 : m ≤ 9223372036854775807) :
    Calls Try.prog 11 #[.int .i64 n, .int .i64 m] w fun e w' => ∃ A c, e = .returned (.slice A (sizL15 n m).length c) ∧ Ints w' A (sizL15 n m).length c (sizL15 n m) ∧ Below w.heap.size w w' := by
  have AL := Lib.hid (fun W => allowed_any15 n W)
  by_cases hn : 0 ≤ n ∧ n ≤ 32768
  · rw [decide_eq_true hn] at AL
    by_cases hm : m < 1
    · have e : sizL15 n m = [] := if_neg (by omega)
      rw [e]
      clear e
      go_enter Try.func11, Try.ntmps11
      go_wp2_with (go_at_call 15; (with_reducible refine (AL.out _).mono ?_); rintro e w' ⟨rfl, rfl⟩)
      go_ret
      exact ⟨none, 0, rfl, Ints.nil _, Below.refl _ _⟩
    · have e : sizL15 n m = siz15 n.toNat m.toNat := if_pos (by omega)
      rw [e, siz15_length]
      clear e
      obtain ⟨h0, h1⟩ := hn
      obtain ⟨N, rfl⟩ := Int.eq_ofNat_of_zero_le h0
      obtain ⟨M, rfl⟩ := Int.eq_ofNat_of_zero_le (show 0 ≤ m by omega)
      simp only [Int.toNat_natCast]
      have hN : N ≤ 32768 := by omega
      have hM : 1 ≤ M := by omega
      have hM2 : M ≤ 9223372036854775807 := by omega
      have FI := Lib.hid (fun W => filled_any15 N M hN hM hM2 W)
      have hF := fil15_le (n := N) (m := M) hM
      have hFl : fil15 N M ≤ 32768 := by omega
      have hms : ¬ (M : Int) < 1 := by omega
      obtain ⟨i0, hi0, hz0, hz1, hz2⟩ := info_parts info_i64
      have ALL := Lib.hid (part15_all N M)
      have PZ := Lib.hid (part15_zero N M)
      have ST := Lib.hid (fun k (h : k < fil15 N M) => part15_step h)
      have LN := Lib.hid (fun k (h : k ≤ fil15 N M) => part15_length h)
      have RS := Lib.hid (fun k => rest15_succ N M k)
      clear h0 h1 hm hF
      generalize hF : fil15 N M = F at *
      have HF := Lib.hid hF
      clear hF
      go_enter Try.func11, Try.ntmps11
      go_wp2_with (first
        | (go_at_call 15; (with_reducible refine (AL.out _).mono ?_); rintro e w' ⟨rfl, rfl⟩)
        | (go_at_call 16; (with_reducible refine (FI.out _).mono ?_); rintro e w' ⟨rfl, rfl⟩)
        | (at_make; refine wpList_make_full w rfl (.tmp 16) (.tmp 16) _ rfl w.heap.size 3 i0 _ 1 Try.underlying23 hi0 hz0 hz1 .i64 .i64 _ _ F rfl rfl rfl rfl (by rw [hz2]; omega) (by simp only [maxLen]; omega) (Nat.le_refl _) ?_; intro w2 hown2 hg2; have hb2 := Lib.hid (below_of_grown hg2 (by simp)); have HO2 := Lib.hid (own_zerosI hown2 (Nat.le_refl _)); clear hown2 hg2))
      have HO3 : Hid (OwnI w2 w.heap.size w.heap.size (part15 N M 0)) := by rw [PZ.out]; exact HO2.out
      clear HO2 hi0 hz0 hz1 hz2
      go_loopw [0, 20] (fun v i wr => ∃ k : Nat, k ≤ F ∧ i = .int .i64 k ∧ v = .int .i64 ((N - k * M : Nat) : Int) ∧ Hid (OwnI wr w.heap.size w.heap.size (part15 N M k)) ∧ Hid (Below w.heap.size w wr)) (fun _ i _ => F - (intOf i).toNat)
      case atStart => exact ⟨0, by omega, rfl, by simp, HO3, hb2⟩
      case round =>
        clear HO3 hb2
        obtain ⟨k, hk, rfl, rfl, hO, hbel⟩ := hrel
        by_cases hlt : k < F
        · have hlk := LN.out k hk
          have hc0 := hO.out.cell (j := k) (by omega)
          have hf0 := hO.out.free k
          have HS := Lib.hid (ST.out k hlt)
          have HT := Lib.hid (hO.out.set k (el15 N M k : Int))
          have hr := RS.out k
          have hsz := hO.out.lt
          have hel : el15 N M k = min (N - k * M) M := rfl
          generalize (part15 N M k)[k] = old at *
          obtain ⟨r2, hr2⟩ : ∃ r2, N - (k + 1) * M = r2 := ⟨_, rfl⟩
          rw [hr2] at hr
          have HR := Lib.hid hr2
          clear hr2
          have hrN : N - k * M ≤ N := Nat.sub_le _ _
          generalize (N - k * M : Nat) = r at *
          generalize el15 N M k = z at *
          clear hlk
          by_cases hx : M < r
          · obtain rfl : z = M := by omega
            have HW : Hid ((r : Int) - (z : Int) = (r2 : Int)) := by show (r : Int) - (z : Int) = (r2 : Int); omega
            have hxi : (z : Int) < (r : Int) := by omega
            clear hr hel
            go_wp2
            go_roundw
            case rel => exact ⟨k + 1, by omega, by go_num, by rw [HR.out]; exact congrArg _ HW.out, by have := HT.out; rw [HS.out] at this; exact this, hbel.out.setCell (Nat.le_refl _) _⟩
            case measure => simp [intOf]; omega
          · obtain rfl : z = r := by omega
            have HW : Hid ((0 : Int) = (r2 : Int)) := by show (0 : Int) = (r2 : Int); omega
            have hxi : ¬ (M : Int) < (z : Int) := by omega
            clear hr hel
            go_wp2
            go_roundw
            case rel => exact ⟨k + 1, by omega, by go_num, by rw [HR.out]; exact congrArg _ HW.out, by have := HT.out; rw [HS.out] at this; exact this, hbel.out.setCell (Nat.le_refl _) _⟩
            case measure => simp [intOf]; omega
        · obtain rfl : k = F := by omega
          go_wp2
          go_ret
          have hI := hO.out.ints (n := k) (LN.out k hk) (by omega)
          have e : part15 N M k = siz15 N M := by rw [← HF.out]; exact part15_all N M
          rw [e] at hI
          exact ⟨_, _, rfl, hI, hbel.out⟩
  · rw [decide_eq_false hn] at AL
    have e : sizL15 n m = [] := if_neg (fun h => hn ⟨h.1, h.2.1⟩)
    rw [e]
    clear e hn
    go_enter Try.func11, Try.ntmps11
    go_wp2_with (go_at_call 15; (with_reducible refine (AL.out _).mono ?_); rintro e w' ⟨rfl, rfl⟩)
    go_ret
    exact ⟨none, 0, rfl, Ints.nil _, Below.refl _ _⟩

end Go.Proofs.Ytlobmefcpjjbcaa
