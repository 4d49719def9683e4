/-
  Layer 15: Levels, Nodes.
-/
import Derived.Test.YtlobmefcpjjbcaaTalB
namespace Go.Proofs.Ytlobmefcpjjbcaa
open Go.RowKit
set_option linter.unusedVariables false
set_option linter.unusedSimpArgs false

theorem cap15_inner {tree : Int} (h : capN (widN tree true) ≠ 0) : capN (widN tree false) = 18 := by
  have h1 : widN tree true ≠ 0 := fun e => h (by rw [e]; rfl)
  obtain ⟨h2, h3⟩ := widN_tree h1
  unfold widN
  rw [if_neg (by omega), if_pos rfl]
  rfl
theorem cap15_le (tree : Int) (leaf : Bool) : capN (widN tree leaf) ≤ 18 := by
  rcases widN_cases tree leaf with ⟨_, h⟩ | ⟨_, h⟩ | ⟨_, h⟩ | ⟨_, h⟩ | ⟨_, h⟩ <;> omega

set_option maxRecDepth 100000 in
set_option maxHeartbeats 800000 in
theorem Levels_any15 (tree n : Int) (m : Nat) (hm : capN (widN tree true) = m) (w : World) :
    Calls Try.prog 7 #[.int .i64 tree, .int .i64 n] w fun e w' => ∃ A c, e = .returned (.slice A (levL15 m n).length c) ∧ Ints w' A (levL15 m n).length c (levL15 m n) ∧ Below w.heap.size w w' := by
  have MX := Lib.hid (fun W => Max_any tree true W m hm)
  have AL := Lib.hid (fun W => allowed_any15 n W)
  by_cases hz : m = 0
  · subst hz
    have e : levL15 0 n = [] := levL15_none (by simp [some15])
    rw [e]
    clear e
    go_enter Try.func7, Try.ntmps7
    go_wp2_with (go_at_call 14; (with_reducible refine (MX.out _).mono ?_); rintro e w' ⟨rfl, rfl⟩)
    go_ret
    exact ⟨none, 0, rfl, Ints.nil _, Below.refl _ _⟩
  · have hmz : ((m : Int) == 0) = false := by simpa using hz
    by_cases hn : 0 ≤ n ∧ n ≤ 32768
    · rw [decide_eq_true hn] at AL
      rw [levL15_some (show some15 m n = true from decide_eq_true ⟨hz, hn⟩)]
      obtain ⟨h0, h1⟩ := hn
      obtain ⟨N, rfl⟩ := Int.eq_ofNat_of_zero_le h0
      rw [Int.toNat_natCast]
      have hN : N ≤ 32768 := by omega
      have h18 := cap15_le tree true
      rw [hm] at h18
      have MI : Hid (∀ W, Calls Try.prog 14 #[.int .i64 tree, .bool false] W fun e w' => e = .returned (.int .i64 18) ∧ W = w') := fun W => Max_any tree false W 18 (cap15_inner (by rw [hm]; exact hz))
      have FI := Lib.hid (fun W => filled_any15 N m hN (by omega) (by omega) W)
      have FK : Hid (∀ W (k : Nat), k ≤ 32768 → Calls Try.prog 16 #[.int .i64 k, .int .i64 18] W fun e w' => e = .returned (.int .i64 (fil15 k 18 : Int)) ∧ W = w') := fun W k h => filled_any15 k 18 h (by omega) (by omega) W
      have hF := fil15_le (n := N) (m := m) (by omega)
      have hF1 := fil15_pos N m
      have hF2 : fil15 N m ≤ 32768 := by omega
      have hLn := lev15_length N m
      have HL : Hid ([(fil15 N m : Int)] ++ up15 (fil15 N m) = lev15 N m) := rfl
      generalize lev15 N m = L at *
      generalize fil15 N m = F at *
      clear h0 h1 hF h18 hz hm
      go_enter Try.func7, Try.ntmps7
      go_wp2_with (first
        | (go_at_call 14; (with_reducible refine (MX.out _).mono ?_); rintro e w' ⟨rfl, rfl⟩)
        | (go_at_call 15; (with_reducible refine (AL.out _).mono ?_); rintro e w' ⟨rfl, rfl⟩)
        | (go_at_call 16; (with_reducible refine (FI.out _).mono ?_); rintro e w' ⟨rfl, rfl⟩))
      have hO0 := Lib.hid (own_one15 w (F : Int))
      go_loopw [6, 7] (fun v u wr => ∃ (k : Nat) (T : List Int), v = .int .i64 k ∧ 1 ≤ k ∧ k ≤ F ∧ Hid (T ++ up15 k = L) ∧ Hid (wr.ownsRow w.heap.size 3 1 u T.length (i64s T)) ∧ Hid (Below w.heap.size w wr)) (fun v _ _ => (intOf v).toNat)
      case atStart => exact ⟨F, [(F : Int)], rfl, hF1, Nat.le_refl _, HL, hO0, (Below.refl _ _).alloc (Nat.le_refl _) _⟩
      case round =>
        clear HL hO0
        obtain ⟨k, T, rfl, hk1, hkF, hT, hown, hb⟩ := hrel
        by_cases hlt : 1 < k
        · have hU := up15_more hlt
          have hfl := fil15_lt hlt
          have hfp := fil15_pos k 18
          have hTl : T.length ≤ L.length := by rw [← hT.out, List.length_append]; omega
          have HT : Hid ((T ++ [(fil15 k 18 : Int)]) ++ up15 (fil15 k 18) = L) := by rw [List.append_assoc, List.singleton_append, ← hU]; exact hT.out
          have FG := Lib.hid (fun W => FK.out W k (by omega))
          clear hU hT FK
          generalize fil15 k 18 = j at *
          have hs := hb.out.size
          go_wp2_with (first
            | (go_at_call 14; (with_reducible refine (MI.out _).mono ?_); rintro e w' ⟨rfl, rfl⟩)
            | (go_at_call 16; (with_reducible refine (FG.out _).mono ?_); rintro e w' ⟨rfl, rfl⟩)
            | (at_builtin; go_must (refine wpList_append_new wr rfl _ _ 23 rfl w.heap.size 3 3 (.int .i64 0) 8 Try.underlying23 info_i64 rfl u7 T.length (i64s T) rfl hown hs [.int .i64 (j : Int)] 1 1 rfl rfl (by simp [Value.oneCell']) (by omega) (by omega) ?_); intro v2 w2 hown2 hs2 hb2; have hb3 := Lib.hid (hb.out.trans hb2); clear hb2 hown))
          go_roundw
          case rel => exact ⟨j, T ++ [(j : Int)], rfl, hfp, by omega, HT, by rw [i64s_append, List.length_append]; exact hown2, hb3⟩
          case measure => simp only [intOf]; omega
        · have hTL : T = L := by rw [← hT.out, up15_one hlt, List.append_nil]
          subst hTL
          go_wp2
          go_ret
          obtain ⟨A2, c2, rfl, hI2⟩ := Ints.of_own hown.out
          exact ⟨_, _, rfl, hI2, hb.out⟩
    · rw [decide_eq_false hn] at AL
      have e : levL15 m n = [] := levL15_none (decide_eq_false fun h => hn h.2)
      rw [e]
      clear e hn
      go_enter Try.func7, Try.ntmps7
      go_wp2_with (first
        | (go_at_call 14; (with_reducible refine (MX.out _).mono ?_); rintro e w' ⟨rfl, rfl⟩)
        | (go_at_call 15; (with_reducible refine (AL.out _).mono ?_); rintro e w' ⟨rfl, rfl⟩))
      go_ret
      exact ⟨none, 0, rfl, Ints.nil _, Below.refl _ _⟩

set_option maxRecDepth 100000 in
set_option maxHeartbeats 800000 in
theorem Nodes_any15 (tree n : Int) (m : Nat) (hm : capN (widN tree true) = m) (w : World) :
    Calls Try.prog 9 #[.int .i64 tree, .int .i64 n] w fun e w' => e = .returned (.int .i64 (levL15 m n).sum) ∧ Below w.heap.size w w' := by
  have LV := Lib.hid (Levels_any15 tree n m hm w)
  have PO := Lib.hid (fun k => take15_sum (levL15 m n) k (levL15_pos m n))
  obtain ⟨hf1, hf2⟩ := levL15_few (m := m) (n := n)
  clear hm
  generalize levL15 m n = L at *
  have ALL : Hid ((L.take L.length).sum = L.sum) := by rw [List.take_of_length_le (Nat.le_refl _)]; rfl
  go_enter Try.func9, Try.ntmps9
  go_wp2_with (go_at_call 7; (with_reducible refine (LV.out).mono ?_); rintro e w1 ⟨A, c, rfl, hI, hb⟩; have HI := Lib.hid hI; have hcap := hI.cap; have hmost := hI.most; have HB := Lib.hid hb; clear hI hb)
  clear LV
  go_loopw [5, 12] (fun s i wr => ∃ k : Nat, k ≤ L.length ∧ i = .int .i64 k ∧ s = .int .i64 (L.take k).sum ∧ w1 = wr) (fun _ i _ => L.length - (intOf i).toNat)
  case atStart => exact ⟨0, by omega, rfl, by simp, rfl⟩
  case round =>
    obtain ⟨k, hk, rfl, rfl, rfl⟩ := hrel
    by_cases hlt : k < L.length
    · obtain ⟨b, off, hA, _, hc⟩ := HI.out.row.lit (by rw [i64s_length]; omega)
      have hck := hc k _ (i64s_at L k hlt)
      subst hA
      have hS := take15_succ hlt
      obtain ⟨b1, b2⟩ := PO.out k
      obtain ⟨b3, b4⟩ := PO.out (k + 1)
      obtain ⟨s2, hs2⟩ : ∃ s2, (L.take (k + 1)).sum = s2 := ⟨_, rfl⟩
      rw [hs2] at hS b3 b4
      have HE := Lib.hid hs2
      clear hs2
      generalize L[k] = x at *
      generalize (L.take k).sum = s1 at *
      generalize L.sum = tot at *
      have hw : wrap64 (s1 + x) = s2 := by unfold wrap64; omega
      clear hS hc HI ALL PO
      go_wp2
      go_roundw
      case rel => exact ⟨k + 1, by omega, by simp, by rw [HE.out]; exact congrArg _ hw, trivial⟩
      case measure => simp [intOf]; omega
    · obtain rfl : k = L.length := by omega
      go_wp2
      go_ret
      exact ⟨by rw [ALL.out]; rfl, HB.out⟩

end Go.Proofs.Ytlobmefcpjjbcaa
