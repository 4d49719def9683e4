/-
  The walk of TallLow.
-/
import Derived.Test.YtlobmefcpjjbcaaTalLawB
namespace Go.Proofs.Ytlobmefcpjjbcaa
open Go.RowKit
set_option linter.unusedVariables false
set_option linter.unusedSimpArgs false

theorem tal_tree (x : Int) : 1 ≤ wrap64 (1 + (wrap64 (x.tmod 5 + 5)).tmod 5) ∧ wrap64 (1 + (wrap64 (x.tmod 5 + 5)).tmod 5) ≤ 5 := by
  have h1 := Int.tmod_lt_of_pos x (show (0 : Int) < 5 by omega)
  have h2 := Int.lt_tmod_of_pos x (show (0 : Int) < 5 by omega)
  generalize x.tmod 5 = y at *
  have e : wrap64 (y + 5) = y + 5 := by unfold wrap64; omega
  rw [e]
  have h3 := Int.tmod_lt_of_pos (y + 5) (show (0 : Int) < 5 by omega)
  have h4 := Int.tmod_nonneg 5 (show 0 ≤ y + 5 by omega)
  generalize (y + 5).tmod 5 = z at *
  unfold wrap64
  omega
theorem tal_cap {T : Int} (h : 1 ≤ T ∧ T ≤ 5) : capN (widN T true) ≠ 0 := by
  have h1 : widN T true ≠ 0 := by
    unfold widN
    rw [if_neg (by omega)]
    simp only [Bool.true_eq_false, if_false]
    repeat' split
    all_goals omega
  rcases widN_cases T true with ⟨h2, _⟩ | ⟨_, h2⟩ | ⟨_, h2⟩ | ⟨_, h2⟩ | ⟨_, h2⟩
  · exact absurd h2 h1
  all_goals omega

/-- where the loop stands: level i - 1 has k nodes, and with R entries for each of them there is just room -/
structure Lo15 (N : Nat) (L : List Int) (i k R : Nat) : Prop where
  one : 1 ≤ k
  pos : 1 ≤ i
  fits : ∀ j, 1 ≤ j → (k ≤ j ↔ N ≤ R * j)
  rest : L.drop i = up15 k
  here : L[i - 1]? = some (k : Int)
theorem Lo15.start (N m : Nat) (hm : 1 ≤ m) : Lo15 N (lev15 N m) 1 (fil15 N m) m := ⟨fil15_pos N m, Nat.le_refl _, fun j hj => fil15_room hm hj, rfl, rfl⟩
theorem Lo15.more {N : Nat} {L : List Int} {i k R : Nat} (h : Lo15 N L i k R) (hlt : i < L.length) : R < N ∧ Lo15 N L (i + 1) (fil15 k 18) (R * 18) := by
  have hk : 1 < k := by
    apply Classical.byContradiction
    intro hk
    have h1 := h.rest
    rw [up15_one hk] at h1
    have := congrArg List.length h1
    rw [List.length_drop, List.length_nil] at this
    omega
  have hr := h.rest
  rw [up15_more hk] at hr
  have h1 := h.fits 1 (Nat.le_refl _)
  refine ⟨by omega, fil15_pos k 18, by omega, fun j hj => ?_, ?_, ?_⟩
  · rw [fil15_room (by omega) hj, h.fits (18 * j) (by omega), Nat.mul_assoc]
  · rw [← List.drop_drop, hr]; rfl
  · have : (L.drop i)[0]? = some (fil15 k 18 : Int) := by rw [hr]; rfl
    rw [List.getElem?_drop, Nat.add_zero] at this
    rw [Nat.add_sub_cancel]; exact this
theorem Lo15.done {N : Nat} {L : List Int} {i k R : Nat} (h : Lo15 N L i k R) (hlt : ¬ i < L.length) : N ≤ R ∧ L[i - 1]? = some 1 := by
  have hk : k = 1 := by
    apply Classical.byContradiction
    intro hk
    have h1 := h.one
    have h2 := h.rest
    rw [up15_more (by omega), List.drop_of_length_le (by omega)] at h2
    cases h2
  subst hk
  exact ⟨by have := (h.fits 1 (Nat.le_refl _)).1 (Nat.le_refl _); omega, h.here⟩

set_option maxRecDepth 100000 in
set_option maxHeartbeats 1600000 in
theorem talllow_walk (tree n : Int) (w : World) (_ht : -9223372036854775808 ≤ tree ∧ tree ≤ 9223372036854775807) (_hn : -9223372036854775808 ≤ n ∧ n ≤ 9223372036854775807) :
    Calls Try.prog 5 #[.int .i64 tree, .int .i64 n] w fun e w' => e = .returned (.bool true) ∧ Below w.heap.size w w' := by
  obtain ⟨N, hN, hN2⟩ := tal_first n
  obtain ⟨T, hT⟩ : ∃ T, wrap64 (1 + (wrap64 (tree.tmod 5 + 5)).tmod 5) = T := ⟨_, rfl⟩
  have hT2 := tal_tree tree
  rw [hT] at hT2
  clear _hn _ht
  obtain ⟨m, hmx⟩ : ∃ m, capN (widN T true) = m := ⟨_, rfl⟩
  have hm0 := tal_cap hT2
  have hm18 := cap15_le T true
  have MI : Hid (∀ W, Calls Try.prog 14 #[.int .i64 T, .bool false] W fun e w' => e = .returned (.int .i64 18) ∧ W = w') := fun W => Max_any T false W 18 (cap15_inner hm0)
  have MX := Lib.hid (fun W => Max_any T true W m hmx)
  rw [hmx] at hm0 hm18
  have hsome : some15 m N = true := decide_eq_true ⟨hm0, by omega, by omega⟩
  have hLo := Lib.hid (Lo15.start N m (by omega))
  have hLl := lev15_length N m
  have hFl := fil15_le (n := N) (m := m) (by omega)
  have hLp : 1 ≤ (lev15 N m).length := by rw [lev15, List.length_cons]; omega
  have SP : Hid (Calls Try.prog 7 #[.int .i64 T, .int .i64 N] w fun e w' => ∃ b off c, e = .returned (.slice (some ⟨b, off, none⟩) (lev15 N m).length c) ∧ (lev15 N m).length ≤ c ∧ c ≤ 9223372036854775807 ∧ Hid (∀ k v, (lev15 N m)[k]? = some v → w'.cell? ⟨b, off + k, none⟩ = some (.int .i64 v)) ∧ Bw15 w w') := by
    refine (Levels_any15 T N m hmx w).mono ?_
    rintro e w' ⟨A, c, h1, h2, h3⟩
    rw [levL15_some hsome, Int.toNat_natCast] at h1 h2
    obtain ⟨b, off, rfl, _, hc⟩ := h2.row.lit (by rw [i64s_length]; omega)
    refine ⟨b, off, c, h1, h2.cap, h2.most, fun k v hk => hc k _ ?_, h3⟩
    simp only [i64s, List.getElem?_map, hk, Option.map_some]
  have LI : Hid (∀ W, Bw15 w W → Calls Try.prog 13 #[] W fun e w' => e = .returned (.bool true) ∧ Bw15 w w') := fun W hW => (lives15_any W).mono fun e w' ⟨h1, h3⟩ => ⟨h1, hW.later h3⟩
  have hLx : (lev15 N m).length ≤ 16385 := by omega
  generalize lev15 N m = L at *
  have MORE := Lib.hid (fun i k R (h : Lo15 N L i k R) (h2 : i < L.length) => h.more h2)
  have DONE := Lib.hid (fun i k R (h : Lo15 N L i k R) (h2 : ¬ i < L.length) => h.done h2)
  have hm1 : 1 ≤ m := by omega
  generalize fil15 N m = F at *
  clear hmx hsome hLl hFl hm0 hT2
  generalize hl : L.length = nl at *
  clear hl
  obtain ⟨e, rfl⟩ : ∃ e, nl = e + 1 := ⟨nl - 1, by omega⟩
  go_enter Try.func5, Try.ntmps5
  go_wp2_with (first
    | (go_at_call 7; (with_reducible refine (SP.out).mono ?_); rintro e w1 ⟨b, off, c, rfl, hc1, hc2, HC, hW1⟩)
    | (go_at_call 14; (with_reducible refine (MX.out _).mono ?_); rintro e w' ⟨rfl, rfl⟩))
  go_loopw [6, 7] (fun r i wr => ∃ k j R : Nat, j ≤ e + 1 ∧ R ≤ 294912 ∧ i = .int .i64 j ∧ r = .int .i64 R ∧ Hid (Lo15 N L j k R) ∧ wr = w1) (fun _ i _ => e + 1 - (intOf i).toNat)
  case atStart => exact ⟨F, 1, m, by omega, by omega, rfl, rfl, hLo, rfl⟩
  case round =>
    clear hLo
    obtain ⟨k, j, R, hj, hR, rfl, rfl, hS, rfl⟩ := hrel
    by_cases hlt : j < e + 1
    · obtain ⟨h1, h2⟩ := MORE.out j k R hS.out hlt
      have HS2 := Lib.hid h2
      have hd : decide ((N : Int) ≤ (R : Int)) = false := by simp; omega
      have HW : Hid ((R : Int) * 18 = ((R * 18 : Nat) : Int)) := by show (R : Int) * 18 = ((R * 18 : Nat) : Int); omega
      have hR2 : R * 18 ≤ 294912 := by omega
      clear h2 MORE DONE
      generalize R * 18 = R2 at *
      go_wp2_with (go_at_call 14; (with_reducible refine (MI.out _).mono ?_); rintro e w' ⟨rfl, rfl⟩)
      go_roundw
      case rel => exact ⟨_, j + 1, R2, by omega, hR2, by go_num, by exact congrArg _ HW.out, HS2, by first | rfl | trivial⟩
      case measure => simp [intOf]; omega
    · obtain rfl : j = e + 1 := by omega
      obtain ⟨h1, h2⟩ := DONE.out _ k R hS.out hlt
      rw [Nat.add_sub_cancel] at h2
      have hce := HC.out e _ h2
      have hd : decide ((N : Int) ≤ (R : Int)) = true := by simp; omega
      clear MORE DONE h2
      go_wp2_with (go_at_call 13; (with_reducible refine (LI.out _ hW1).mono ?_); rintro e w9 ⟨rfl, hW9⟩)
      go_ret
      exact ⟨rfl, hW9⟩

end Go.Proofs.Ytlobmefcpjjbcaa
