/-
  Joined: TalA, TalB, TalC, TalD.
-/
import Derived.Laws.Small
import Derived.Test.YtcmehjjaologpaaJSiz08
import Derived.Test.YtcmehjjaologpaaJSiz01
import Derived.Test.YtcmehjjaologpaaJSiz07
/-
  Layer 15: allowed, filled, Sizes.
-/
namespace Go.Proofs.Ytcmehjjaologpaa
open Go.RowKit
set_option linter.unusedVariables false
set_option linter.unusedSimpArgs false

set_option maxRecDepth 100000 in
theorem allowed_any15 (n : Int) (w : World) : Calls Try.prog 38 #[.int .i64 n] w fun e w' => e = .returned (.bool (decide (0 ≤ n ∧ n ≤ 32768))) ∧ w = w' := by
  by_cases h0 : 0 ≤ n
  · by_cases h1 : n ≤ 32768
    · rw [decide_eq_true (show 0 ≤ n ∧ n ≤ 32768 from ⟨h0, h1⟩)]
      go_enter Try.func38, Try.ntmps38
      go_wp2
      go_ret
      exact ⟨rfl, rfl⟩
    · rw [decide_eq_false (show ¬ (0 ≤ n ∧ n ≤ 32768) from fun h => h1 h.2)]
      go_enter Try.func38, Try.ntmps38
      go_wp2
      go_ret
      exact ⟨rfl, rfl⟩
  · rw [decide_eq_false (show ¬ (0 ≤ n ∧ n ≤ 32768) from fun h => h0 h.1)]
    go_enter Try.func38, Try.ntmps38
    go_wp2
    go_ret
    exact ⟨rfl, rfl⟩

set_option maxRecDepth 100000 in
theorem filled_any15 (n m : Nat) (hn : n ≤ 32768) (hm : 1 ≤ m) (hm2 : m ≤ 9223372036854775807) (w : World) : Calls Try.prog 39 #[.int .i64 n, .int .i64 m] w fun e w' => e = .returned (.int .i64 (fil15 n m : Int)) ∧ w = w' := by
  obtain ⟨q, hq⟩ : ∃ q, (max n 1 - 1) / m = q := ⟨_, rfl⟩
  have hq2 : q ≤ 32768 := by rw [← hq]; have := Nat.div_le_self (max n 1 - 1) m; omega
  rw [show fil15 n m = q + 1 by rw [← hq]; rfl]
  have hm0 : (m : Int) ≠ 0 := by omega
  have hmz : ((m : Int) == 0) = false := by simpa using hm0
  by_cases h1 : 1 ≤ n
  · have hx : ¬ ((1 : Int) > (n : Int)) := by omega
    have hd : ((n : Int) - 1).tdiv (m : Int) = (q : Int) := by
      rw [show (n : Int) - 1 = ((n - 1 : Nat) : Int) by omega, ← Int.ofNat_tdiv, ← hq, Nat.max_eq_left h1]
    clear hq
    go_enter Try.func39, Try.ntmps39
    go_wp2
    go_ret
    exact ⟨by simp, rfl⟩
  · obtain rfl : n = 0 := by omega
    obtain rfl : q = 0 := by rw [← hq]; exact Nat.zero_div m
    clear hq
    go_enter Try.func39, Try.ntmps39
    go_wp2
    go_ret
    exact ⟨by simp, rfl⟩

end Go.Proofs.Ytcmehjjaologpaa

/-
  Layer 15: Levels, Nodes, Sizes.
-/
namespace Go.Proofs.Ytcmehjjaologpaa
open Go.RowKit
set_option linter.unusedVariables false
set_option linter.unusedSimpArgs false

theorem own_one15 (w : World) (b : Int) : (w.alloc (.cells #[.int .i64 b] 3)).ownsRow w.heap.size 3 1 (.slice (some ⟨w.heap.size, 0, none⟩) 1 1) 1 (i64s [b]) :=
  ⟨rfl, .inr ⟨w.heap.size, 1, #[.int .i64 b], rfl, Nat.le_refl _, heap_alloc_new w _, Nat.le_refl _, by decide, rfl, rfl⟩⟩

end Go.Proofs.Ytcmehjjaologpaa

/-
  Layer 15: Levels, Nodes.
-/
namespace Go.Proofs.Ytcmehjjaologpaa
open Go.RowKit
set_option linter.unusedVariables false
set_option linter.unusedSimpArgs false

theorem cap15_inner {tree : Int} (h : capN (widN tree true) ≠ 0) : capN (widN tree false) = 18 := by
  have h1 : widN tree true ≠ 0 := fun e => h (by rw [e]; rfl)
  obtain ⟨h2, h3⟩ := widN_tree h1
  unfold widN
  rw [if_neg (by omega), if_pos rfl]
  rfl
theorem cap15_le (tree : Int) (leaf : Bool) : capN (widN tree leaf) ≤ 18 := by
  rcases widN_cases tree leaf with ⟨_, h⟩ | ⟨_, h⟩ | ⟨_, h⟩ | ⟨_, h⟩ | ⟨_, h⟩ <;> omega

set_option maxRecDepth 100000 in
set_option maxHeartbeats 800000 in
theorem Levels_any15 (tree n : Int) (m : Nat) (hm : capN (widN tree true) = m) (w : World) :
    Calls Try.prog 29 #[.int .i64 tree, .int .i64 n] w fun e w' => ∃ A c, e = .returned (.slice A (levL15 m n).length c) ∧ Ints w' A (levL15 m n).length c (levL15 m n) ∧ Below w.heap.size w w' := by
  have MX := Lib.hid (fun W => Max_any tree true W m hm)
  have AL := Lib.hid (fun W => allowed_any15 n W)
  by_cases hz : m = 0
  · subst hz
    have e : levL15 0 n = [] := levL15_none (by simp [some15])
    rw [e]
    clear e
    go_enter Try.func29, Try.ntmps29
    go_wp2_with (go_at_call 37; (with_reducible refine (MX.out _).mono ?_); rintro e w' ⟨rfl, rfl⟩)
    go_ret
    exact ⟨none, 0, rfl, Ints.nil _, Below.refl _ _⟩
  · have hmz : ((m : Int) == 0) = false := by simpa using hz
    by_cases hn : 0 ≤ n ∧ n ≤ 32768
    · rw [decide_eq_true hn] at AL
      rw [levL15_some (show some15 m n = true from decide_eq_true ⟨hz, hn⟩)]
      obtain ⟨h0, h1⟩ := hn
      obtain ⟨N, rfl⟩ := Int.eq_ofNat_of_zero_le h0
      rw [Int.toNat_natCast]
      have hN : N ≤ 32768 := by omega
      have h18 := cap15_le tree true
      rw [hm] at h18
      have MI : Hid (∀ W, Calls Try.prog 37 #[.int .i64 tree, .bool false] W fun e w' => e = .returned (.int .i64 18) ∧ W = w') := fun W => Max_any tree false W 18 (cap15_inner (by rw [hm]; exact hz))
      have FI := Lib.hid (fun W => filled_any15 N m hN (by omega) (by omega) W)
      have FK : Hid (∀ W (k : Nat), k ≤ 32768 → Calls Try.prog 39 #[.int .i64 k, .int .i64 18] W fun e w' => e = .returned (.int .i64 (fil15 k 18 : Int)) ∧ W = w') := fun W k h => filled_any15 k 18 h (by omega) (by omega) W
      have hF := fil15_le (n := N) (m := m) (by omega)
      have hF1 := fil15_pos N m
      have hF2 : fil15 N m ≤ 32768 := by omega
      have hLn := lev15_length N m
      have HL : Hid ([(fil15 N m : Int)] ++ up15 (fil15 N m) = lev15 N m) := rfl
      generalize lev15 N m = L at *
      generalize fil15 N m = F at *
      clear h0 h1 hF h18 hz hm
      go_enter Try.func29, Try.ntmps29
      go_wp2_with (first
        | (go_at_call 37; (with_reducible refine (MX.out _).mono ?_); rintro e w' ⟨rfl, rfl⟩)
        | (go_at_call 38; (with_reducible refine (AL.out _).mono ?_); rintro e w' ⟨rfl, rfl⟩)
        | (go_at_call 39; (with_reducible refine (FI.out _).mono ?_); rintro e w' ⟨rfl, rfl⟩))
      have hO0 := Lib.hid (own_one15 w (F : Int))
      go_loopw [6, 7] (fun v u wr => ∃ (k : Nat) (T : List Int), v = .int .i64 k ∧ 1 ≤ k ∧ k ≤ F ∧ Hid (T ++ up15 k = L) ∧ Hid (wr.ownsRow w.heap.size 3 1 u T.length (i64s T)) ∧ Hid (Below w.heap.size w wr)) (fun v _ _ => (intOf v).toNat)
      case atStart => exact ⟨F, [(F : Int)], rfl, hF1, Nat.le_refl _, HL, hO0, (Below.refl _ _).alloc (Nat.le_refl _) _⟩
      case round =>
        clear HL hO0
        obtain ⟨k, T, rfl, hk1, hkF, hT, hown, hb⟩ := hrel
        by_cases hlt : 1 < k
        · have hU := up15_more hlt
          have hfl := fil15_lt hlt
          have hfp := fil15_pos k 18
          have hTl : T.length ≤ L.length := by rw [← hT.out, List.length_append]; omega
          have HT : Hid ((T ++ [(fil15 k 18 : Int)]) ++ up15 (fil15 k 18) = L) := by rw [List.append_assoc, List.singleton_append, ← hU]; exact hT.out
          have FG := Lib.hid (fun W => FK.out W k (by omega))
          clear hU hT FK
          generalize fil15 k 18 = j at *
          have hs := hb.out.size
          go_wp2_with (first
            | (go_at_call 37; (with_reducible refine (MI.out _).mono ?_); rintro e w' ⟨rfl, rfl⟩)
            | (go_at_call 39; (with_reducible refine (FG.out _).mono ?_); rintro e w' ⟨rfl, rfl⟩)
            | (at_builtin; go_must (refine wpList_append_new wr rfl _ _ 42 rfl w.heap.size 3 3 (.int .i64 0) 8 Try.underlying42 info_i64 rfl u7 T.length (i64s T) rfl hown hs [.int .i64 (j : Int)] 1 1 rfl rfl (by simp [Value.oneCell']) (by omega) (by omega) ?_); intro v2 w2 hown2 hs2 hb2; have hb3 := Lib.hid (hb.out.trans hb2); clear hb2 hown))
          go_roundw
          case rel => exact ⟨j, T ++ [(j : Int)], rfl, hfp, by omega, HT, by rw [i64s_append, List.length_append]; exact hown2, hb3⟩
          case measure => simp only [intOf]; omega
        · have hTL : T = L := by rw [← hT.out, up15_one hlt, List.append_nil]
          subst hTL
          go_wp2
          go_ret
          obtain ⟨A2, c2, rfl, hI2⟩ := Ints.of_own hown.out
          exact ⟨_, _, rfl, hI2, hb.out⟩
    · rw [decide_eq_false hn] at AL
      have e : levL15 m n = [] := levL15_none (decide_eq_false fun h => hn h.2)
      rw [e]
      clear e hn
      go_enter Try.func29, Try.ntmps29
      go_wp2_with (first
        | (go_at_call 37; (with_reducible refine (MX.out _).mono ?_); rintro e w' ⟨rfl, rfl⟩)
        | (go_at_call 38; (with_reducible refine (AL.out _).mono ?_); rintro e w' ⟨rfl, rfl⟩))
      go_ret
      exact ⟨none, 0, rfl, Ints.nil _, Below.refl _ _⟩

set_option maxRecDepth 100000 in
set_option maxHeartbeats 800000 in
theorem Nodes_any15 (tree n : Int) (m : Nat) (hm : capN (widN tree true) = m) (w : World) :
    Calls Try.prog 19 #[.int .i64 tree, .int .i64 n] w fun e w' => e = .returned (.int .i64 (levL15 m n).sum) ∧ Below w.heap.size w w' := by
  have LV := Lib.hid (Levels_any15 tree n m hm w)
  have PO := Lib.hid (fun k => take15_sum (levL15 m n) k (levL15_pos m n))
  obtain ⟨hf1, hf2⟩ := levL15_few (m := m) (n := n)
  clear hm
  generalize levL15 m n = L at *
  have ALL : Hid ((L.take L.length).sum = L.sum) := by rw [List.take_of_length_le (Nat.le_refl _)]; rfl
  go_enter Try.func19, Try.ntmps19
  go_wp2_with (go_at_call 29; (with_reducible refine (LV.out).mono ?_); rintro e w1 ⟨A, c, rfl, hI, hb⟩; have HI := Lib.hid hI; have hcap := hI.cap; have hmost := hI.most; have HB := Lib.hid hb; clear hI hb)
  clear LV
  go_loopw [5, 12] (fun s i wr => ∃ k : Nat, k ≤ L.length ∧ i = .int .i64 k ∧ s = .int .i64 (L.take k).sum ∧ w1 = wr) (fun _ i _ => L.length - (intOf i).toNat)
  case atStart => exact ⟨0, by omega, rfl, by simp, rfl⟩
  case round =>
    obtain ⟨k, hk, rfl, rfl, rfl⟩ := hrel
    by_cases hlt : k < L.length
    · obtain ⟨b, off, hA, _, hc⟩ := HI.out.row.lit (by rw [i64s_length]; omega)
      have hck := hc k _ (i64s_at L k hlt)
      subst hA
      have hS := take15_succ hlt
      obtain ⟨b1, b2⟩ := PO.out k
      obtain ⟨b3, b4⟩ := PO.out (k + 1)
      obtain ⟨s2, hs2⟩ : ∃ s2, (L.take (k + 1)).sum = s2 := ⟨_, rfl⟩
      rw [hs2] at hS b3 b4
      have HE := Lib.hid hs2
      clear hs2
      generalize L[k] = x at *
      generalize (L.take k).sum = s1 at *
      generalize L.sum = tot at *
      have hw : wrap64 (s1 + x) = s2 := by unfold wrap64; omega
      clear hS hc HI ALL PO
      go_wp2
      go_roundw
      case rel => exact ⟨k + 1, by omega, by simp, by rw [HE.out]; exact congrArg _ hw, trivial⟩
      case measure => simp [intOf]; omega
    · obtain rfl : k = L.length := by omega
      go_wp2
      go_ret
      exact ⟨by rw [ALL.out]; rfl, HB.out⟩

end Go.Proofs.Ytcmehjjaologpaa

/-
  Layer 15's reference: Sizes, Levels, Nodes; the law's example.
-/
namespace Go.Proofs.Ytcmehjjaologpaa
open Go.RowKit
set_option linter.unusedVariables false
set_option linter.unusedSimpArgs false

theorem own_moved15 {w w' : World} {base size n : Nat} {e : TypeId} {v : Value} {xs : List Value} (h : w.ownsRow base e size v n xs) (hb : Below w.heap.size w w') : w'.ownsRow base e size v n xs := by
  refine ⟨h.1, ?_⟩
  rcases h.2 with hn | ⟨g, cap, cur, hv, hg, hh, rest⟩
  · exact .inl hn
  · exact .inr ⟨g, cap, cur, hv, hg, (hb.block g (block_lt hh)).trans hh, rest⟩

set_option maxRecDepth 100000 in
set_option maxHeartbeats 800000 in
theorem refSizes_good15 (N M : Nat) (w : World) (hN : N ≤ 32768) (hM : 1 ≤ M) (hM2 : M ≤ 9223372036854775807) :
    Calls Try.prog 44 #[.int .i64 N, .int .i64 M] w fun e w' => ∃ A c, e = .returned (.slice A (fil15 N M) c) ∧ Ints w' A (fil15 N M) c (siz15 N M) ∧ Below w.heap.size w w' := by
  have hF := fil15_le (n := N) (m := M) hM
  have LAST := Lib.hid (fun k h1 h2 => fil15_is (n := N) (k := k) hM h1 h2)
  have ALL := Lib.hid (head15_all N M)
  have SUCC := Lib.hid (fun k => head15_succ N M k)
  have LEN := Lib.hid (fun k => head15_length N M k)
  have RS := Lib.hid (fun k => rest15_succ N M k)
  have EL : Hid (∀ k, el15 N M k = min (N - k * M) M) := fun k => rfl
  generalize fil15 N M = F at *
  have hms : ¬ (M : Int) < 1 := by omega
  go_enter Try.func44, Try.ntmps44
  go_wp2
  go_loopw [0, 5] (fun v u wr => ∃ k : Nat, k ≤ 32768 ∧ v = .int .i64 ((N - k * M : Nat) : Int) ∧ (k = 0 ∨ k * M < N) ∧ Hid (wr.ownsRow w.heap.size 3 1 u k (i64s (head15 N M k))) ∧ Hid (Below w.heap.size w wr)) (fun v _ _ => (intOf v).toNat)
  case atStart => exact ⟨0, by omega, by simp, .inl rfl, World.ownsRow_nil _ _ _ _, Below.refl _ _⟩
  case round =>
    obtain ⟨k, hk, rfl, hor, hown, hb⟩ := hrel
    have hr := RS.out k
    have hs := hb.out.size
    have hel := EL.out k
    have hk2 : k < N - k * M ∨ k ≤ 32768 := .inr hk
    have hkb : M < N - k * M → k + 1 ≤ 32768 := fun h => by
      have : k ≤ k * M := Nat.le_mul_of_pos_right _ (by omega)
      omega
    have hnx : M < N - k * M → (k + 1) * M < N := fun h => by rw [Nat.succ_mul]; omega
    have hst : N - k * M ≤ M → F = k + 1 := fun h => LAST.out k h hor
    have hrN : N - k * M ≤ N := Nat.sub_le _ _
    obtain ⟨r2, hr2⟩ : ∃ r2, N - (k + 1) * M = r2 := ⟨_, rfl⟩
    rw [hr2] at hr
    have HR := Lib.hid hr2
    clear hr2 hor hk2
    have HSU := Lib.hid (SUCC.out k)
    generalize (N - k * M : Nat) = r at *
    by_cases hx : M < r
    · have hxi : (M : Int) < (r : Int) := by omega
      have hz : el15 N M k = M := by omega
      rw [hz] at HSU
      have HW : Hid ((r : Int) - (M : Int) = (r2 : Int)) := by show (r : Int) - (M : Int) = (r2 : Int); omega
      have hk3 := hkb hx
      have HN := Lib.hid (hnx hx)
      clear hr hel hkb hnx hst hz
      go_wp2_with (at_builtin; go_must (refine wpList_append_new wr rfl _ _ 42 rfl w.heap.size 3 3 (.int .i64 0) 8 Try.underlying42 info_i64 rfl u5 k (i64s (head15 N M k)) rfl hown hs [.int .i64 (M : Int)] 1 1 rfl rfl (by simp [Value.oneCell']) (by omega) (by omega) ?_); intro v2 w2 hown2 hs2 hb2; have hb3 := Lib.hid (hb.out.trans hb2); clear hb2 hown)
      go_roundw
      case rel => exact ⟨k + 1, by omega, by rw [HR.out]; exact congrArg _ HW.out, .inr HN.out, by rw [HSU.out, i64s_append]; exact hown2, hb3⟩
      case measure => simp only [intOf]; omega
    · have hxi : ¬ (M : Int) < (r : Int) := by omega
      have hz : el15 N M k = r := by omega
      rw [hz] at HSU
      obtain rfl := hst (by omega)
      clear hr hel hkb hnx hst hz
      rw [HSU.out] at ALL
      go_wp2_with (at_builtin; go_must (refine wpList_append_new wr rfl _ _ 42 rfl w.heap.size 3 3 (.int .i64 0) 8 Try.underlying42 info_i64 rfl u5 k (i64s (head15 N M k)) rfl hown hs [.int .i64 (r : Int)] 1 1 rfl rfl (by simp [Value.oneCell']) (by omega) (by omega) ?_); intro v2 w2 hown2 hs2 hb2; have hb3 := Lib.hid (hb.out.trans hb2); clear hb2 hown)
      go_ret
      have ho := hown2.out
      rw [show i64s (head15 N M k) ++ [.int .i64 (r : Int)] = i64s (siz15 N M) by rw [← ALL.out, i64s_append]; rfl] at ho
      obtain ⟨A2, c2, rfl, hI2⟩ := Ints.of_own ho
      exact ⟨_, _, rfl, hI2, hb3.out⟩

set_option maxRecDepth 100000 in
set_option maxHeartbeats 800000 in
theorem refLevels_any15 (tree n : Int) (m : Nat) (ht : i64b tree) (hm : capN (widN tree true) = m) (w : World) :
    Calls Try.prog 33 #[.int .i64 tree, .int .i64 n] w fun e w' => ∃ A c, e = .returned (.slice A (levL15 m n).length c) ∧ Ints w' A (levL15 m n).length c (levL15 m n) ∧ Below w.heap.size w w' := by
  have MX : Hid (∀ W, Hid (Below w.heap.size w W) → Calls Try.prog 43 #[.int .i64 tree, .bool true] W fun e w' => e = .returned (.int .i64 (m : Int)) ∧ Hid (Below w.heap.size w w')) := fun W hW => (refMax_any tree true W m hm ht).mono fun e w' ⟨h1, h2⟩ => ⟨h1, hW.out.trans (h2.mono hW.out.size)⟩
  have hW0 : Hid (Below w.heap.size w w) := Below.refl _ _
  by_cases hz : m = 0
  · subst hz
    have e : levL15 0 n = [] := levL15_none (by simp [some15])
    rw [e]
    clear e
    go_enter Try.func33, Try.ntmps33
    go_wp2_with (go_at_call 43; (with_reducible refine (MX.out _ (by assumption)).mono ?_); rintro e w1 ⟨rfl, hb1⟩)
    go_ret
    exact ⟨none, 0, rfl, Ints.nil _, hb1.out⟩
  · have hmz : ((m : Int) == 0) = false := by simpa using hz
    by_cases hn : 0 ≤ n ∧ n ≤ 32768
    · rw [levL15_some (show some15 m n = true from decide_eq_true ⟨hz, hn⟩)]
      obtain ⟨h0, h1⟩ := hn
      obtain ⟨N, rfl⟩ := Int.eq_ofNat_of_zero_le h0
      rw [Int.toNat_natCast]
      have hN : N ≤ 32768 := by omega
      have h18 := cap15_le tree true
      rw [hm] at h18
      have MI : Hid (∀ W, Calls Try.prog 43 #[.int .i64 tree, .bool false] W fun e w' => e = .returned (.int .i64 18) ∧ Below W.heap.size W w') := fun W => refMax_any tree false W 18 (cap15_inner (by rw [hm]; exact hz)) ht
      have FI : Hid (∀ W, Hid (Below w.heap.size w W) → Calls Try.prog 44 #[.int .i64 N, .int .i64 m] W fun e w' => ∃ A c, e = .returned (.slice A (fil15 N m) c) ∧ Hid (Below w.heap.size w w')) := fun W hW => (refSizes_good15 N m W hN (by omega) (by omega)).mono fun e w' ⟨A, c, h1, _, h2⟩ => ⟨A, c, h1, hW.out.trans (h2.mono hW.out.size)⟩
      have FK : Hid (∀ W (k : Nat), k ≤ 32768 → Calls Try.prog 44 #[.int .i64 k, .int .i64 18] W fun e w' => ∃ A c, e = .returned (.slice A (fil15 k 18) c) ∧ Below W.heap.size W w') := fun W k h => (refSizes_good15 k 18 W h (by omega) (by omega)).mono fun e w' ⟨A, c, h1, _, h2⟩ => ⟨A, c, h1, h2⟩
      have hF := fil15_le (n := N) (m := m) (by omega)
      have hF1 := fil15_pos N m
      have hF2 : fil15 N m ≤ 32768 := by omega
      have hLn := lev15_length N m
      have HL : Hid ([(fil15 N m : Int)] ++ up15 (fil15 N m) = lev15 N m) := rfl
      generalize lev15 N m = L at *
      generalize fil15 N m = F at *
      clear h0 h1 hF h18 hz hm
      go_enter Try.func33, Try.ntmps33
      go_wp2_with (first
        | (go_at_call 43; (with_reducible refine (MX.out _ (by assumption)).mono ?_); rintro e w1 ⟨rfl, hb1⟩)
        | (go_at_call 44; (with_reducible refine (FI.out _ (by assumption)).mono ?_); rintro e w3 ⟨A3, c3, rfl, hb3⟩))
      have hs3 := hb3.out.size
      have hO0 := Lib.hid (own_one15 w3 (F : Int))
      go_loopw [5, 6] (fun v u wr => ∃ (k : Nat) (T : List Int), v = .int .i64 k ∧ 1 ≤ k ∧ k ≤ F ∧ Hid (T ++ up15 k = L) ∧ Hid (wr.ownsRow w3.heap.size 3 1 u T.length (i64s T)) ∧ Hid (Below w3.heap.size w3 wr)) (fun v _ _ => (intOf v).toNat)
      case atStart => exact ⟨F, [(F : Int)], rfl, hF1, Nat.le_refl _, HL, hO0, (Below.refl _ _).alloc (Nat.le_refl _) _⟩
      case round =>
        clear HL hO0
        obtain ⟨k, T, rfl, hk1, hkF, hT, hown, hb⟩ := hrel
        by_cases hlt : 1 < k
        · have hU := up15_more hlt
          have hfl := fil15_lt hlt
          have hfp := fil15_pos k 18
          have hTl : T.length ≤ L.length := by rw [← hT.out, List.length_append]; omega
          have HT : Hid ((T ++ [(fil15 k 18 : Int)]) ++ up15 (fil15 k 18) = L) := by rw [List.append_assoc, List.singleton_append, ← hU]; exact hT.out
          have FG := Lib.hid (fun W => FK.out W k (by omega))
          clear hU hT FK
          generalize fil15 k 18 = j at *
          have hs := hb.out.size
          go_wp2_with (first
            | (go_at_call 43; (with_reducible refine (MI.out _).mono ?_); rintro e w4 ⟨rfl, hb4⟩; have HB4 := Lib.hid (hb.out.trans (hb4.mono hs)); have hown4 := Lib.hid (own_moved15 hown.out hb4); clear hb4)
            | (go_at_call 44; (with_reducible refine (FG.out _).mono ?_); rintro e w5 ⟨A5, c5, rfl, hb5⟩; have HB5 := Lib.hid (HB4.out.trans (hb5.mono HB4.out.size)); have hs5 := HB5.out.size; have hown5 := Lib.hid (own_moved15 hown4.out hb5); clear hb5)
            | (at_builtin; go_must (refine wpList_append_new w5 rfl _ _ 42 rfl w3.heap.size 3 3 (.int .i64 0) 8 Try.underlying42 info_i64 rfl u6 T.length (i64s T) rfl hown5 hs5 [.int .i64 (j : Int)] 1 1 rfl rfl (by simp [Value.oneCell']) (by omega) (by omega) ?_); intro v2 w2 hown2 hs2 hb2; have hb6 := Lib.hid (HB5.out.trans hb2); clear hb2))
          go_roundw
          case rel => exact ⟨j, T ++ [(j : Int)], rfl, hfp, by omega, HT, by rw [i64s_append, List.length_append]; exact hown2, hb6⟩
          case measure => simp only [intOf]; omega
        · have hTL : T = L := by rw [← hT.out, up15_one hlt, List.append_nil]
          subst hTL
          go_wp2
          go_ret
          obtain ⟨A2, c2, rfl, hI2⟩ := Ints.of_own hown.out
          exact ⟨_, _, rfl, hI2, hb3.out.trans (hb.out.mono hs3)⟩
    · have e : levL15 m n = [] := levL15_none (decide_eq_false fun h => hn h.2)
      rw [e]
      clear e
      by_cases h0 : n < 0
      · clear hn
        go_enter Try.func33, Try.ntmps33
        go_wp2_with (go_at_call 43; (with_reducible refine (MX.out _ (by assumption)).mono ?_); rintro e w1 ⟨rfl, hb1⟩)
        go_ret
        exact ⟨none, 0, rfl, Ints.nil _, hb1.out⟩
      · have h1 : 32768 < n := by omega
        clear hn
        go_enter Try.func33, Try.ntmps33
        go_wp2_with (go_at_call 43; (with_reducible refine (MX.out _ (by assumption)).mono ?_); rintro e w1 ⟨rfl, hb1⟩)
        go_ret
        exact ⟨none, 0, rfl, Ints.nil _, hb1.out⟩

set_option maxRecDepth 100000 in
set_option maxHeartbeats 800000 in
theorem refNodes_any15 (tree n : Int) (m : Nat) (ht : i64b tree) (hm : capN (widN tree true) = m) (w : World) :
    Calls Try.prog 23 #[.int .i64 tree, .int .i64 n] w fun e w' => e = .returned (.int .i64 (levL15 m n).sum) ∧ Below w.heap.size w w' := by
  have LV := Lib.hid (refLevels_any15 tree n m ht hm w)
  have PO := Lib.hid (fun k => take15_sum (levL15 m n) k (levL15_pos m n))
  obtain ⟨hf1, hf2⟩ := levL15_few (m := m) (n := n)
  clear hm
  generalize levL15 m n = L at *
  have ALL : Hid ((L.take L.length).sum = L.sum) := by rw [List.take_of_length_le (Nat.le_refl _)]; rfl
  go_enter Try.func23, Try.ntmps23
  go_wp2_with (go_at_call 33; (with_reducible refine (LV.out).mono ?_); rintro e w1 ⟨A, c, rfl, hI, hb⟩; have HI := Lib.hid hI; have hcap := hI.cap; have hmost := hI.most; have HB := Lib.hid hb; clear hI hb)
  clear LV
  go_loopw [6, 7] (fun s i wr => ∃ k : Nat, k ≤ L.length ∧ i = .int .i64 k ∧ s = .int .i64 (L.take k).sum ∧ w1 = wr) (fun _ i _ => L.length - (intOf i).toNat)
  case atStart => exact ⟨0, by omega, rfl, by simp, rfl⟩
  case round =>
    obtain ⟨k, hk, rfl, rfl, rfl⟩ := hrel
    by_cases hlt : k < L.length
    · obtain ⟨b, off, hA, _, hc⟩ := HI.out.row.lit (by rw [i64s_length]; omega)
      have hck := hc k _ (i64s_at L k hlt)
      subst hA
      have hS := take15_succ hlt
      obtain ⟨b1, b2⟩ := PO.out k
      obtain ⟨b3, b4⟩ := PO.out (k + 1)
      obtain ⟨s2, hs2⟩ : ∃ s2, (L.take (k + 1)).sum = s2 := ⟨_, rfl⟩
      rw [hs2] at hS b3 b4
      have HE := Lib.hid hs2
      clear hs2
      generalize L[k] = x at *
      generalize (L.take k).sum = s1 at *
      generalize L.sum = tot at *
      have hw : wrap64 (s1 + x) = s2 := by unfold wrap64; omega
      clear hS hc HI ALL PO
      go_wp2
      go_roundw
      case rel => exact ⟨k + 1, by omega, by simp, by rw [HE.out]; exact congrArg _ hw, trivial⟩
      case measure => simp [intOf]; omega
    · obtain rfl : k = L.length := by omega
      go_wp2
      go_ret
      exact ⟨by rw [ALL.out]; rfl, HB.out⟩

end Go.Proofs.Ytcmehjjaologpaa
