/-
  Joined: BitB, BitC, SealA, TalA, TalB, TalC.
-/
import Derived.Test.YtnjlganofjkpfaaGreatJBldB16
import Derived.Test.YtnjlganofjkpfaaGreatJBldB12
import Derived.Test.YtnjlganofjkpfaaGreatJBldB11
import Derived.WalkSpells
import Derived.WalkLawsBesides
import Derived.Test.YtnjlganofjkpfaaGreatJBldB07
import Derived.Test.YtnjlganofjkpfaaGreatJBldB09
import Derived.Laws.Small
import Derived.Test.YtnjlganofjkpfaaGreatJBldB02
/-
  Layer 9: Put.
-/
namespace Go.Proofs.YtnjlganofjkpfaaGreat
open Go.RowKit
set_option linter.unusedVariables false
set_option linter.unusedSimpArgs false

/-! ### the document's example -/
end Go.Proofs.YtnjlganofjkpfaaGreat

/-
  Layer 9: Read.
-/
namespace Go.Proofs.YtnjlganofjkpfaaGreat
open Go.RowKit
set_option linter.unusedVariables false
set_option linter.unusedSimpArgs false

theorem readBE9_cases (b : List UInt8) : (readBE9 b = 0 ∧ readBL9 b = readBits b ∧ b.length = 244 ∧ numB b ≤ 960 ∧ encBits (readBits b) = b) ∨ (readBE9 b = 7 ∧ readBL9 b = [] ∧ ¬ (b.length = 244 ∧ numB b ≤ 960 ∧ encBits (readBits b) = b)) := by
  by_cases h : b.length = 244 ∧ numB b ≤ 960 ∧ encBits (readBits b) = b
  · have e : readBE9 b = 0 := by rw [readBE9, if_pos h]
    exact .inl ⟨e, by rw [readBL9, if_pos e], h⟩
  · have e : readBE9 b = 7 := by rw [readBE9, if_neg h]
    exact .inr ⟨e, by rw [readBL9, if_neg (by rw [e]; decide)], h⟩

end Go.Proofs.YtnjlganofjkpfaaGreat

/-
  Layer 4's small functions: isKind, isNumber, Salt, unless, stored, sum; the reference's Salt and known.
-/
namespace Go.Proofs.YtnjlganofjkpfaaGreat
open Go.RowKit
set_option linter.unusedVariables false
set_option linter.unusedSimpArgs false

set_option maxRecDepth 100000 in
theorem isKind_any (x : Int) (w : World) (r : Bool) (hr : kindB x = r) :
    Calls Tryz.prog 82 #[.int .i64 x] w fun e w' => e = .returned (.bool r) ∧ w = w' := by
  subst hr
  go_enter Tryz.func82, Tryz.ntmps82
  go_wp2
  all_goals go_ret
  all_goals refine ⟨ret_bool ?_, rfl⟩
  all_goals (simp [kindB]; try omega)

set_option maxRecDepth 100000 in
theorem isNumber_any (x : Int) (w : World) (r : Bool) (hr : snumB x = r) :
    Calls Tryz.prog 83 #[.int .i64 x] w fun e w' => e = .returned (.bool r) ∧ w = w' := by
  subst hr
  go_enter Tryz.func83, Tryz.ntmps83
  go_wp2
  all_goals go_ret
  all_goals refine ⟨ret_bool ?_, rfl⟩
  all_goals (simp [snumB]; try omega)

set_option maxRecDepth 100000 in
theorem unless_any (b : Bool) (x : Int) (y : Int) (hy : (if b = true then 0 else x) = y) (w : World) :
    Calls Tryz.prog 105 #[.bool b, .int .i64 x] w fun e w' => e = .returned (.int .i64 y) ∧ w = w' := by
  cases b
  case' true => obtain rfl : 0 = y := hy
  case' false => obtain rfl : x = y := hy
  all_goals try clear hy
  all_goals go_enter Tryz.func105, Tryz.ntmps105
  all_goals go_wp2
  all_goals go_ret
  all_goals exact ⟨rfl, rfl⟩

set_option maxRecDepth 100000 in
theorem Salt_any (x : Int) (w : World) :
    Calls Tryz.prog 96 #[.int .i64 x] w fun e w' => e = .returned (.int .i64 (saltN x : Int)) ∧ w = w' := by
  by_cases h1 : x = 1
  · subst h1
    go_enter Tryz.func96, Tryz.ntmps96
    go_wp2
    go_ret
    exact ⟨rfl, rfl⟩
  by_cases h2 : x = 2
  · subst h2
    go_enter Tryz.func96, Tryz.ntmps96
    go_wp2
    go_ret
    exact ⟨rfl, rfl⟩
  by_cases h3 : x = 3
  · subst h3
    go_enter Tryz.func96, Tryz.ntmps96
    go_wp2
    go_ret
    exact ⟨rfl, rfl⟩
  by_cases h4 : x = 4
  · subst h4
    go_enter Tryz.func96, Tryz.ntmps96
    go_wp2
    go_ret
    exact ⟨rfl, rfl⟩
  · have q1 : (x == 1) = false := by simpa using h1
    have q2 : (x == 2) = false := by simpa using h2
    have q3 : (x == 3) = false := by simpa using h3
    have q4 : (x == 4) = false := by simpa using h4
    have E : Hid (saltN x = 0) := by simp [Hid, saltN, h1, h2, h3, h4]
    clear h1 h2 h3 h4
    go_enter Tryz.func96, Tryz.ntmps96
    go_wp2
    go_ret
    exact ⟨ret_int (by rw [E.out]; rfl), rfl⟩

theorem getE_small (l : List UInt8) (i wd : Int) : 0 ≤ getE l i wd ∧ getE l i wd ≤ 3 := by
  unfold getE
  rcases roomE_cases l.length i wd with h | h | ⟨h, _⟩ <;> rw [h] <;> simp <;> split <;> omega

set_option maxRecDepth 100000 in
set_option maxHeartbeats 400000 in
theorem stored_any (A : Option Addr) (n c : Nat) (l : List UInt8) (i wd : Int) (w : World) (h : Bytes8 w A n c l) (hi : -9223372036854775808 ≤ i ∧ i ≤ 9223372036854775807) :
    Calls Tryz.prog 108 #[.slice A n c, .int .i64 i, .int .i64 wd] w fun e w' => e = .returned (.int .i64 (storedN l i wd)) ∧ Below w.heap.size w w' := by
  have G := Lib.hid (Get_any A n c l i wd w h hi)
  have hx := getE_small l i wd
  have E : Hid (storedN l i wd = if getE l i wd = 0 then getN l i wd else -1) := rfl
  clear h hi
  generalize getE l i wd = x at *
  generalize getN l i wd = y at *
  obtain ⟨hx0, hx3⟩ := hx
  by_cases h0 : x = 0
  · subst h0
    go_enter Tryz.func108, Tryz.ntmps108
    go_wp2_with (go_at_call 90; refine (G.out).mono ?_; rintro e w' ⟨rfl, hb⟩)
    go_ret
    exact ⟨ret_int (by rw [E.out]; rfl), hb⟩
  · have q : (x != 0) = true := by simpa using h0
    have E2 : Hid (storedN l i wd = -1) := by have := E.out; rw [if_neg h0] at this; exact this
    clear E h0
    go_enter Tryz.func108, Tryz.ntmps108
    go_wp2_with (go_at_call 90; refine (G.out).mono ?_; rintro e w' ⟨rfl, hb⟩)
    go_ret
    exact ⟨ret_int (by rw [E2.out]), hb⟩

theorem xor_salt (a b : Nat) (ha : a < 4294967296) (hb : b < 4294967296) : bits .xor .i64 (a : Int) (b : Int) = ((a ^^^ b : Nat) : Int) := i64_xor_nat a b (by omega) (by omega)

set_option maxRecDepth 100000 in
set_option maxHeartbeats 400000 in
theorem sum_any (A : Option Addr) (n c : Nat) (l : List UInt8) (k : Int) (w : World) (h : Bytes8 w A n c l) (hn : 252 ≤ n) :
    Calls Tryz.prog 85 #[.slice A n c, .int .i64 k] w fun e w' => e = .returned (.int .i64 (sumN l k : Int)) ∧ Below w.heap.size w w' := by
  have hc := h.cap
  have hm := h.most
  have hB : Bytes8 w A 252 c (l.take 252) := ⟨by rw [List.length_take, h.len]; omega, by omega, hm, by have := h.row.take 252; rwa [u8s_take] at this⟩
  have S := Lib.hid (Sum_one A 252 c (l.take 252) w hB)
  have T := Lib.hid (fun W => Salt_any k W)
  have hx := xor_salt (Crc.sum (l.take 252)) (saltN k) (Crc.sum_lt _) (saltN_lt k)
  have E : Hid (Crc.sum (l.take 252) ^^^ saltN k = sumN l k) := rfl
  clear hB
  generalize Crc.sum (l.take 252) = a at *
  generalize saltN k = b at *
  generalize a ^^^ b = z at *
  clear h
  go_enter Tryz.func85, Tryz.ntmps85
  go_wp2_with (first
    | (go_at_call 95; (with_reducible refine (S.out).mono ?_); rintro e w' ⟨rfl, hb⟩)
    | (go_at_call 96; refine (T.out _).mono ?_; rintro e w2 ⟨rfl, rfl⟩))
  go_ret
  exact ⟨ret_int (by rw [E.out]), hb⟩

end Go.Proofs.YtnjlganofjkpfaaGreat

/-
  Layer 15: allowed, filled, Sizes.
-/
namespace Go.Proofs.YtnjlganofjkpfaaGreat
open Go.RowKit
set_option linter.unusedVariables false
set_option linter.unusedSimpArgs false

set_option maxRecDepth 100000 in
theorem allowed_any15 (n : Int) (w : World) : Calls Tryz.prog 23 #[.int .i64 n] w fun e w' => e = .returned (.bool (decide (0 ≤ n ∧ n ≤ 32768))) ∧ w = w' := by
  by_cases h0 : 0 ≤ n
  · by_cases h1 : n ≤ 32768
    · rw [decide_eq_true (show 0 ≤ n ∧ n ≤ 32768 from ⟨h0, h1⟩)]
      go_enter Tryz.func23, Tryz.ntmps23
      go_wp2
      go_ret
      exact ⟨rfl, rfl⟩
    · rw [decide_eq_false (show ¬ (0 ≤ n ∧ n ≤ 32768) from fun h => h1 h.2)]
      go_enter Tryz.func23, Tryz.ntmps23
      go_wp2
      go_ret
      exact ⟨rfl, rfl⟩
  · rw [decide_eq_false (show ¬ (0 ≤ n ∧ n ≤ 32768) from fun h => h0 h.1)]
    go_enter Tryz.func23, Tryz.ntmps23
    go_wp2
    go_ret
    exact ⟨rfl, rfl⟩

set_option maxRecDepth 100000 in
theorem filled_any15 (n m : Nat) (hn : n ≤ 32768) (hm : 1 ≤ m) (hm2 : m ≤ 9223372036854775807) (w : World) : Calls Tryz.prog 24 #[.int .i64 n, .int .i64 m] w fun e w' => e = .returned (.int .i64 (fil15 n m : Int)) ∧ w = w' := by
  obtain ⟨q, hq⟩ : ∃ q, (max n 1 - 1) / m = q := ⟨_, rfl⟩
  have hq2 : q ≤ 32768 := by rw [← hq]; have := Nat.div_le_self (max n 1 - 1) m; omega
  rw [show fil15 n m = q + 1 by rw [← hq]; rfl]
  have hm0 : (m : Int) ≠ 0 := by omega
  have hmz : ((m : Int) == 0) = false := by simpa using hm0
  by_cases h1 : 1 ≤ n
  · have hx : ¬ ((1 : Int) > (n : Int)) := by omega
    have hd : ((n : Int) - 1).tdiv (m : Int) = (q : Int) := by
      rw [show (n : Int) - 1 = ((n - 1 : Nat) : Int) by omega, ← Int.ofNat_tdiv, ← hq, Nat.max_eq_left h1]
    clear hq
    go_enter Tryz.func24, Tryz.ntmps24
    go_wp2
    go_ret
    exact ⟨by simp, rfl⟩
  · obtain rfl : n = 0 := by omega
    obtain rfl : q = 0 := by rw [← hq]; exact Nat.zero_div m
    clear hq
    go_enter Tryz.func24, Tryz.ntmps24
    go_wp2
    go_ret
    exact ⟨by simp, rfl⟩

end Go.Proofs.YtnjlganofjkpfaaGreat

/-
  Layer 15: Levels, Nodes, Sizes.
-/
namespace Go.Proofs.YtnjlganofjkpfaaGreat
open Go.RowKit
set_option linter.unusedVariables false
set_option linter.unusedSimpArgs false

theorem own_one15 (w : World) (b : Int) : (w.alloc (.cells #[.int .i64 b] 3)).ownsRow w.heap.size 3 1 (.slice (some ⟨w.heap.size, 0, none⟩) 1 1) 1 (i64s [b]) :=
  ⟨rfl, .inr ⟨w.heap.size, 1, #[.int .i64 b], rfl, Nat.le_refl _, heap_alloc_new w _, Nat.le_refl _, by decide, rfl, rfl⟩⟩

set_option maxRecDepth 100000 in
set_option maxHeartbeats 800000 in
theorem Sizes_any15F (n m : Int) (w : World) (hm2 : m ≤ 9223372036854775807) :
    Calls Tryz.prog 30 #[.int .i64 n, .int .i64 m] w fun e w' => ∃ A c, e = .returned (.slice A (sizL15 n m).length c) ∧ Ints w' A (sizL15 n m).length c (sizL15 n m) ∧ Below w.heap.size w w' ∧ Newer w.heap.size A := by
  have AL := Lib.hid (fun W => allowed_any15 n W)
  by_cases hn : 0 ≤ n ∧ n ≤ 32768
  · rw [decide_eq_true hn] at AL
    by_cases hm : m < 1
    · have e : sizL15 n m = [] := if_neg (by omega)
      rw [e]
      clear e
      go_enter Tryz.func30, Tryz.ntmps30
      go_wp2_with (go_at_call 23; (with_reducible refine (AL.out _).mono ?_); rintro e w' ⟨rfl, rfl⟩)
      go_ret
      exact ⟨none, 0, rfl, Ints.nil _, Below.refl _ _, Newer.nil _⟩
    · have e : sizL15 n m = siz15 n.toNat m.toNat := if_pos (by omega)
      rw [e, siz15_length]
      clear e
      obtain ⟨h0, h1⟩ := hn
      obtain ⟨N, rfl⟩ := Int.eq_ofNat_of_zero_le h0
      obtain ⟨M, rfl⟩ := Int.eq_ofNat_of_zero_le (show 0 ≤ m by omega)
      simp only [Int.toNat_natCast]
      have hN : N ≤ 32768 := by omega
      have hM : 1 ≤ M := by omega
      have hM2 : M ≤ 9223372036854775807 := by omega
      have FI := Lib.hid (fun W => filled_any15 N M hN hM hM2 W)
      have hF := fil15_le (n := N) (m := M) hM
      have hFl : fil15 N M ≤ 32768 := by omega
      have hms : ¬ (M : Int) < 1 := by omega
      obtain ⟨i0, hi0, hz0, hz1, hz2⟩ := info_parts info_i64
      have ALL := Lib.hid (part15_all N M)
      have PZ := Lib.hid (part15_zero N M)
      have ST := Lib.hid (fun k (h : k < fil15 N M) => part15_step h)
      have LN := Lib.hid (fun k (h : k ≤ fil15 N M) => part15_length h)
      have RS := Lib.hid (fun k => rest15_succ N M k)
      clear h0 h1 hm hF
      generalize hF : fil15 N M = F at *
      have HF := Lib.hid hF
      clear hF
      go_enter Tryz.func30, Tryz.ntmps30
      go_wp2_with (first
        | (go_at_call 23; (with_reducible refine (AL.out _).mono ?_); rintro e w' ⟨rfl, rfl⟩)
        | (go_at_call 24; (with_reducible refine (FI.out _).mono ?_); rintro e w' ⟨rfl, rfl⟩)
        | (at_make; refine wpList_make_full w rfl (.tmp 16) (.tmp 16) _ rfl w.heap.size 3 i0 _ 1 Tryz.underlying33 hi0 hz0 hz1 .i64 .i64 _ _ F rfl rfl rfl rfl (by rw [hz2]; omega) (by simp only [maxLen]; omega) (Nat.le_refl _) ?_; intro w2 hown2 hg2; have hb2 := Lib.hid (below_of_grown hg2 (by simp)); have HO2 := Lib.hid (own_zerosI hown2 (Nat.le_refl _)); clear hown2 hg2))
      have HO3 : Hid (OwnI w2 w.heap.size w.heap.size (part15 N M 0)) := by rw [PZ.out]; exact HO2.out
      clear HO2 hi0 hz0 hz1 hz2
      go_loopw [0, 20] (fun v i wr => ∃ k : Nat, k ≤ F ∧ i = .int .i64 k ∧ v = .int .i64 ((N - k * M : Nat) : Int) ∧ Hid (OwnI wr w.heap.size w.heap.size (part15 N M k)) ∧ Hid (Below w.heap.size w wr)) (fun _ i _ => F - (intOf i).toNat)
      case atStart => exact ⟨0, by omega, rfl, by simp, HO3, hb2⟩
      case round =>
        clear HO3 hb2
        obtain ⟨k, hk, rfl, rfl, hO, hbel⟩ := hrel
        by_cases hlt : k < F
        · have hlk := LN.out k hk
          have hc0 := hO.out.cell (j := k) (by omega)
          have hf0 := hO.out.free k
          have HS := Lib.hid (ST.out k hlt)
          have HT := Lib.hid (hO.out.set k (el15 N M k : Int))
          have hr := RS.out k
          have hsz := hO.out.lt
          have hel : el15 N M k = min (N - k * M) M := rfl
          generalize (part15 N M k)[k] = old at *
          obtain ⟨r2, hr2⟩ : ∃ r2, N - (k + 1) * M = r2 := ⟨_, rfl⟩
          rw [hr2] at hr
          have HR := Lib.hid hr2
          clear hr2
          have hrN : N - k * M ≤ N := Nat.sub_le _ _
          generalize (N - k * M : Nat) = r at *
          generalize el15 N M k = z at *
          clear hlk
          by_cases hx : M < r
          · obtain rfl : z = M := by omega
            have HW : Hid ((r : Int) - (z : Int) = (r2 : Int)) := by show (r : Int) - (z : Int) = (r2 : Int); omega
            have hxi : (z : Int) < (r : Int) := by omega
            clear hr hel
            go_wp2
            go_roundw
            case rel => exact ⟨k + 1, by omega, by go_num, by rw [HR.out]; exact congrArg _ HW.out, by have := HT.out; rw [HS.out] at this; exact this, hbel.out.setCell (Nat.le_refl _) _⟩
            case measure => simp [intOf]; omega
          · obtain rfl : z = r := by omega
            have HW : Hid ((0 : Int) = (r2 : Int)) := by show (0 : Int) = (r2 : Int); omega
            have hxi : ¬ (M : Int) < (z : Int) := by omega
            clear hr hel
            go_wp2
            go_roundw
            case rel => exact ⟨k + 1, by omega, by go_num, by rw [HR.out]; exact congrArg _ HW.out, by have := HT.out; rw [HS.out] at this; exact this, hbel.out.setCell (Nat.le_refl _) _⟩
            case measure => simp [intOf]; omega
        · obtain rfl : k = F := by omega
          go_wp2
          go_ret
          have hI := hO.out.ints (n := k) (LN.out k hk) (by omega)
          have e : part15 N M k = siz15 N M := by rw [← HF.out]; exact part15_all N M
          rw [e] at hI
          exact ⟨_, _, rfl, hI, hbel.out, fun ad e => by injection e with e; rw [← e]; exact Nat.le_refl _⟩
  · rw [decide_eq_false hn] at AL
    have e : sizL15 n m = [] := if_neg (fun h => hn ⟨h.1, h.2.1⟩)
    rw [e]
    clear e hn
    go_enter Tryz.func30, Tryz.ntmps30
    go_wp2_with (go_at_call 23; (with_reducible refine (AL.out _).mono ?_); rintro e w' ⟨rfl, rfl⟩)
    go_ret
    exact ⟨none, 0, rfl, Ints.nil _, Below.refl _ _, Newer.nil _⟩

end Go.Proofs.YtnjlganofjkpfaaGreat

/-
  Layer 15: Levels, Nodes.
-/
namespace Go.Proofs.YtnjlganofjkpfaaGreat
open Go.RowKit
set_option linter.unusedVariables false
set_option linter.unusedSimpArgs false

theorem cap15_inner {tree : Int} (h : capN (widN tree true) ≠ 0) : capN (widN tree false) = 18 := by
  have h1 : widN tree true ≠ 0 := fun e => h (by rw [e]; rfl)
  obtain ⟨h2, h3⟩ := widN_tree h1
  unfold widN
  rw [if_neg (by omega), if_pos rfl]
  rfl
theorem cap15_le (tree : Int) (leaf : Bool) : capN (widN tree leaf) ≤ 18 := by
  rcases widN_cases tree leaf with ⟨_, h⟩ | ⟨_, h⟩ | ⟨_, h⟩ | ⟨_, h⟩ | ⟨_, h⟩ <;> omega

set_option maxRecDepth 100000 in
set_option maxHeartbeats 800000 in
theorem Levels_any15 (tree n : Int) (m : Nat) (hm : capN (widN tree true) = m) (w : World) :
    Calls Tryz.prog 11 #[.int .i64 tree, .int .i64 n] w fun e w' => ∃ A c, e = .returned (.slice A (levL15 m n).length c) ∧ Ints w' A (levL15 m n).length c (levL15 m n) ∧ Below w.heap.size w w' := by
  have MX := Lib.hid (fun W => Max_any tree true W m hm)
  have AL := Lib.hid (fun W => allowed_any15 n W)
  by_cases hz : m = 0
  · subst hz
    have e : levL15 0 n = [] := levL15_none (by simp [some15])
    rw [e]
    clear e
    go_enter Tryz.func11, Tryz.ntmps11
    go_wp2_with (go_at_call 22; (with_reducible refine (MX.out _).mono ?_); rintro e w' ⟨rfl, rfl⟩)
    go_ret
    exact ⟨none, 0, rfl, Ints.nil _, Below.refl _ _⟩
  · have hmz : ((m : Int) == 0) = false := by simpa using hz
    by_cases hn : 0 ≤ n ∧ n ≤ 32768
    · rw [decide_eq_true hn] at AL
      rw [levL15_some (show some15 m n = true from decide_eq_true ⟨hz, hn⟩)]
      obtain ⟨h0, h1⟩ := hn
      obtain ⟨N, rfl⟩ := Int.eq_ofNat_of_zero_le h0
      rw [Int.toNat_natCast]
      have hN : N ≤ 32768 := by omega
      have h18 := cap15_le tree true
      rw [hm] at h18
      have MI : Hid (∀ W, Calls Tryz.prog 22 #[.int .i64 tree, .bool false] W fun e w' => e = .returned (.int .i64 18) ∧ W = w') := fun W => Max_any tree false W 18 (cap15_inner (by rw [hm]; exact hz))
      have FI := Lib.hid (fun W => filled_any15 N m hN (by omega) (by omega) W)
      have FK : Hid (∀ W (k : Nat), k ≤ 32768 → Calls Tryz.prog 24 #[.int .i64 k, .int .i64 18] W fun e w' => e = .returned (.int .i64 (fil15 k 18 : Int)) ∧ W = w') := fun W k h => filled_any15 k 18 h (by omega) (by omega) W
      have hF := fil15_le (n := N) (m := m) (by omega)
      have hF1 := fil15_pos N m
      have hF2 : fil15 N m ≤ 32768 := by omega
      have hLn := lev15_length N m
      have HL : Hid ([(fil15 N m : Int)] ++ up15 (fil15 N m) = lev15 N m) := rfl
      generalize lev15 N m = L at *
      generalize fil15 N m = F at *
      clear h0 h1 hF h18 hz hm
      go_enter Tryz.func11, Tryz.ntmps11
      go_wp2_with (first
        | (go_at_call 22; (with_reducible refine (MX.out _).mono ?_); rintro e w' ⟨rfl, rfl⟩)
        | (go_at_call 23; (with_reducible refine (AL.out _).mono ?_); rintro e w' ⟨rfl, rfl⟩)
        | (go_at_call 24; (with_reducible refine (FI.out _).mono ?_); rintro e w' ⟨rfl, rfl⟩))
      have hO0 := Lib.hid (own_one15 w (F : Int))
      go_loopw [6, 7] (fun v u wr => ∃ (k : Nat) (T : List Int), v = .int .i64 k ∧ 1 ≤ k ∧ k ≤ F ∧ Hid (T ++ up15 k = L) ∧ Hid (wr.ownsRow w.heap.size 3 1 u T.length (i64s T)) ∧ Hid (Below w.heap.size w wr)) (fun v _ _ => (intOf v).toNat)
      case atStart => exact ⟨F, [(F : Int)], rfl, hF1, Nat.le_refl _, HL, hO0, (Below.refl _ _).alloc (Nat.le_refl _) _⟩
      case round =>
        clear HL hO0
        obtain ⟨k, T, rfl, hk1, hkF, hT, hown, hb⟩ := hrel
        by_cases hlt : 1 < k
        · have hU := up15_more hlt
          have hfl := fil15_lt hlt
          have hfp := fil15_pos k 18
          have hTl : T.length ≤ L.length := by rw [← hT.out, List.length_append]; omega
          have HT : Hid ((T ++ [(fil15 k 18 : Int)]) ++ up15 (fil15 k 18) = L) := by rw [List.append_assoc, List.singleton_append, ← hU]; exact hT.out
          have FG := Lib.hid (fun W => FK.out W k (by omega))
          clear hU hT FK
          generalize fil15 k 18 = j at *
          have hs := hb.out.size
          go_wp2_with (first
            | (go_at_call 22; (with_reducible refine (MI.out _).mono ?_); rintro e w' ⟨rfl, rfl⟩)
            | (go_at_call 24; (with_reducible refine (FG.out _).mono ?_); rintro e w' ⟨rfl, rfl⟩)
            | (at_builtin; go_must (refine wpList_append_new wr rfl _ _ 33 rfl w.heap.size 3 3 (.int .i64 0) 8 Tryz.underlying33 info_i64 rfl u7 T.length (i64s T) rfl hown hs [.int .i64 (j : Int)] 1 1 rfl rfl (by simp [Value.oneCell']) (by omega) (by omega) ?_); intro v2 w2 hown2 hs2 hb2; have hb3 := Lib.hid (hb.out.trans hb2); clear hb2 hown))
          go_roundw
          case rel => exact ⟨j, T ++ [(j : Int)], rfl, hfp, by omega, HT, by rw [i64s_append, List.length_append]; exact hown2, hb3⟩
          case measure => simp only [intOf]; omega
        · have hTL : T = L := by rw [← hT.out, up15_one hlt, List.append_nil]
          subst hTL
          go_wp2
          go_ret
          obtain ⟨A2, c2, rfl, hI2⟩ := Ints.of_own hown.out
          exact ⟨_, _, rfl, hI2, hb.out⟩
    · rw [decide_eq_false hn] at AL
      have e : levL15 m n = [] := levL15_none (decide_eq_false fun h => hn h.2)
      rw [e]
      clear e hn
      go_enter Tryz.func11, Tryz.ntmps11
      go_wp2_with (first
        | (go_at_call 22; (with_reducible refine (MX.out _).mono ?_); rintro e w' ⟨rfl, rfl⟩)
        | (go_at_call 23; (with_reducible refine (AL.out _).mono ?_); rintro e w' ⟨rfl, rfl⟩))
      go_ret
      exact ⟨none, 0, rfl, Ints.nil _, Below.refl _ _⟩

set_option maxRecDepth 100000 in
set_option maxHeartbeats 800000 in
theorem Nodes_any15 (tree n : Int) (m : Nat) (hm : capN (widN tree true) = m) (w : World) :
    Calls Tryz.prog 10 #[.int .i64 tree, .int .i64 n] w fun e w' => e = .returned (.int .i64 (levL15 m n).sum) ∧ Below w.heap.size w w' := by
  have LV := Lib.hid (Levels_any15 tree n m hm w)
  have PO := Lib.hid (fun k => take15_sum (levL15 m n) k (levL15_pos m n))
  obtain ⟨hf1, hf2⟩ := levL15_few (m := m) (n := n)
  clear hm
  generalize levL15 m n = L at *
  have ALL : Hid ((L.take L.length).sum = L.sum) := by rw [List.take_of_length_le (Nat.le_refl _)]; rfl
  go_enter Tryz.func10, Tryz.ntmps10
  go_wp2_with (go_at_call 11; (with_reducible refine (LV.out).mono ?_); rintro e w1 ⟨A, c, rfl, hI, hb⟩; have HI := Lib.hid hI; have hcap := hI.cap; have hmost := hI.most; have HB := Lib.hid hb; clear hI hb)
  clear LV
  go_loopw [5, 12] (fun s i wr => ∃ k : Nat, k ≤ L.length ∧ i = .int .i64 k ∧ s = .int .i64 (L.take k).sum ∧ w1 = wr) (fun _ i _ => L.length - (intOf i).toNat)
  case atStart => exact ⟨0, by omega, rfl, by simp, rfl⟩
  case round =>
    obtain ⟨k, hk, rfl, rfl, rfl⟩ := hrel
    by_cases hlt : k < L.length
    · obtain ⟨b, off, hA, _, hc⟩ := HI.out.row.lit (by rw [i64s_length]; omega)
      have hck := hc k _ (i64s_at L k hlt)
      subst hA
      have hS := take15_succ hlt
      obtain ⟨b1, b2⟩ := PO.out k
      obtain ⟨b3, b4⟩ := PO.out (k + 1)
      obtain ⟨s2, hs2⟩ : ∃ s2, (L.take (k + 1)).sum = s2 := ⟨_, rfl⟩
      rw [hs2] at hS b3 b4
      have HE := Lib.hid hs2
      clear hs2
      generalize L[k] = x at *
      generalize (L.take k).sum = s1 at *
      generalize L.sum = tot at *
      have hw : wrap64 (s1 + x) = s2 := by unfold wrap64; omega
      clear hS hc HI ALL PO
      go_wp2
      go_roundw
      case rel => exact ⟨k + 1, by omega, by simp, by rw [HE.out]; exact congrArg _ hw, trivial⟩
      case measure => simp [intOf]; omega
    · obtain rfl : k = L.length := by omega
      go_wp2
      go_ret
      exact ⟨by rw [ALL.out]; rfl, HB.out⟩

end Go.Proofs.YtnjlganofjkpfaaGreat
