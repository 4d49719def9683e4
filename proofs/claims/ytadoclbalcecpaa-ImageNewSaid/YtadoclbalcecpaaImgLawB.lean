/-
  The walk of ImageNew.
-/
import Derived.Test.YtadoclbalcecpaaImgT
import Derived.Deep.RegionWith
namespace Go.Proofs.Ytadoclbalcecpaa
open Go.RowKit
set_option linter.unusedVariables false
set_option linter.unusedSimpArgs false

theorem flatten_zeros (n : Nat) : (List.replicate n (List.replicate 256 (0 : UInt8))).flatten = List.replicate (n * 256) 0 := List.flatten_replicate_replicate

set_option maxRecDepth 100000 in
set_option maxHeartbeats 1600000 in
theorem new_bad (n : Int) (w : World) (h : n < 0 ∨ 14400 < n) :
    Calls Try.prog 4 #[.int .i64 n] w fun e w' => e = .returned (.bool true) ∧ Below w.heap.size w w' := by
  have N := Lib.hid (New_bad n w h)
  have R := Lib.hid (refNew_bad n w h)
  rcases h with h | h
  all_goals go_enter Try.func4, Try.ntmps4
  all_goals go_wp2_with (first
    | (go_at_call 19; refine (N.out).mono ?_; rintro e w' ⟨rfl, rfl⟩)
    | (go_at_call 20; refine (R.out).mono ?_; rintro e w' ⟨rfl, rfl⟩)
    | (go_at_call 9; refine (lives_any _).mono ?_; rintro e w4 ⟨rfl, hb4⟩))
  all_goals go_ret
  all_goals exact ⟨rfl, hb4⟩

set_option maxRecDepth 100000 in
set_option maxHeartbeats 4000000 in
theorem new_small (n : Nat) (w : World) (h : n ≤ 40) :
    Calls Try.prog 4 #[.int .i64 (n : Int)] w fun e w' => e = .returned (.bool true) ∧ Below w.heap.size w w' := by
  have N := Lib.hid (New_good n w (by omega))
  have R := Lib.hid (fun W => refNew_good n W (by omega))
  have FZ := Lib.hid (flatten_zeros n)
  have hlen : Hid ((List.replicate (n * 256) (0 : UInt8)).length = n * 256) := List.length_replicate
  obtain ⟨L, hL⟩ : ∃ L, L = List.replicate (n * 256) (0 : UInt8) := ⟨_, rfl⟩
  obtain ⟨LL, hLL⟩ : ∃ LL, LL = List.replicate n (List.replicate 256 (0 : UInt8)) := ⟨_, rfl⟩
  rw [← hL] at N FZ hlen
  rw [← hLL] at FZ
  simp only [← hLL] at R
  clear hL hLL
  go_enter Try.func4, Try.ntmps4
  go_wp2_with (first
    | (go_at_call 19; refine (N.out).mono ?_; rintro e w1 ⟨p, g, rfl, hI, hb1⟩)
    | (go_at_call 20; refine (R.out _).mono ?_; rintro e w2 ⟨v, rfl, hRI, hb2⟩))
  have hT : Two w p g w1.heap.size v L LL w2 := ⟨hb1.trans (hb2.mono hb1.size), hI.later hb2, ⟨hb1.size, hRI.hp, hRI.own⟩⟩
  have hTd : Two w p g w1.heap.size v L LL w2.drew := hT.later ((Below.refl _ _).drew)
  have HK : Hid (∀ W, Two w p g w1.heap.size v L LL W → Calls Try.prog 16 #[.pointer (some ⟨p, 0, none⟩)] W fun e w' => e = .returned (.int .i64 (n : Int)) ∧ W = w') := fun W hW => Blocks_img W hW.img hlen.out
  have HBt : Hid (∀ W, Two w p g w1.heap.size v L LL W → Calls Try.prog 17 #[.pointer (some ⟨p, 0, none⟩)] W fun e w' => ∃ A, e = .returned (.slice A L.length L.length) ∧ Bytes8 w' A L.length L.length L ∧ Below W.heap.size W w' ∧ Two w p g w1.heap.size v L LL w') := fun W hW => hW.bytes
  have HBr : Hid (∀ W, Two w p g w1.heap.size v L LL W → Calls Try.prog 18 #[.pointer (some ⟨w1.heap.size, 0, none⟩)] W fun e w' => ∃ A c, e = .returned (.slice A L.length c) ∧ Bytes8 w' A L.length c L ∧ Below W.heap.size W w' ∧ Two w p g w1.heap.size v L LL w') := fun W hW => hW.refBytes FZ.out
  clear hI hRI hb1 hb2 hT
  go_region_with (first
      | (go_at_call 17; refine (HBt.out _ (by assumption)).mono ?_; rintro e w3 ⟨A3, rfl, hB3, hb3, hN⟩; have cv3 := run_text hB3; (first | (have cv4 := run_text (hB4.below hb3)) | skip))
      | (go_at_call 18; refine (HBr.out _ (by assumption)).mono ?_; rintro e w4 ⟨A4, c4, rfl, hB4, hb4, hN⟩; have cv4 := run_text hB4; (first | (have cv3 := run_text (hB3.below hb4)) | skip))
      | (go_at_call 16; refine (HK.out _ (by assumption)).mono ?_; rintro e w' ⟨rfl, rfl⟩)
      | (go_at_call 9; refine (lives_any _).mono ?_; rintro e w7 ⟨rfl, hb7⟩; have hN := hN.later hb7))
  all_goals go_wp2
  all_goals go_ret
  all_goals exact ⟨rfl, hN.bel⟩

set_option maxRecDepth 100000 in
set_option maxHeartbeats 4000000 in
theorem new_great (m n : Nat) (w : World) (h : n ≤ 40) (hm : 40 < m ∧ m ≤ 14400) (hn : n = m % 40) :
    Calls Try.prog 4 #[.int .i64 (m : Int)] w fun e w' => e = .returned (.bool true) ∧ Below w.heap.size w w' := by
  have N := Lib.hid (New_good n w (by omega))
  have R := Lib.hid (fun W => refNew_good n W (by omega))
  have FZ := Lib.hid (flatten_zeros n)
  have hlen : Hid ((List.replicate (n * 256) (0 : UInt8)).length = n * 256) := List.length_replicate
  obtain ⟨L, hL⟩ : ∃ L, L = List.replicate (n * 256) (0 : UInt8) := ⟨_, rfl⟩
  obtain ⟨LL, hLL⟩ : ∃ LL, LL = List.replicate n (List.replicate 256 (0 : UInt8)) := ⟨_, rfl⟩
  rw [← hL] at N FZ hlen
  rw [← hLL] at FZ
  simp only [← hLL] at R
  have hmod : (m : Int) % 40 = (n : Int) := by omega
  obtain ⟨hm1, hm2⟩ := hm
  clear hL hLL hn
  go_enter Try.func4, Try.ntmps4
  go_wp2_with (first
    | (go_at_call 19; refine (N.out).mono ?_; rintro e w1 ⟨p, g, rfl, hI, hb1⟩)
    | (go_at_call 20; refine (R.out _).mono ?_; rintro e w2 ⟨v, rfl, hRI, hb2⟩))
  have hT : Two w p g w1.heap.size v L LL w2 := ⟨hb1.trans (hb2.mono hb1.size), hI.later hb2, ⟨hb1.size, hRI.hp, hRI.own⟩⟩
  have hTd : Two w p g w1.heap.size v L LL w2.drew := hT.later ((Below.refl _ _).drew)
  have HK : Hid (∀ W, Two w p g w1.heap.size v L LL W → Calls Try.prog 16 #[.pointer (some ⟨p, 0, none⟩)] W fun e w' => e = .returned (.int .i64 (n : Int)) ∧ W = w') := fun W hW => Blocks_img W hW.img hlen.out
  have HBt : Hid (∀ W, Two w p g w1.heap.size v L LL W → Calls Try.prog 17 #[.pointer (some ⟨p, 0, none⟩)] W fun e w' => ∃ A, e = .returned (.slice A L.length L.length) ∧ Bytes8 w' A L.length L.length L ∧ Below W.heap.size W w' ∧ Two w p g w1.heap.size v L LL w') := fun W hW => hW.bytes
  have HBr : Hid (∀ W, Two w p g w1.heap.size v L LL W → Calls Try.prog 18 #[.pointer (some ⟨w1.heap.size, 0, none⟩)] W fun e w' => ∃ A c, e = .returned (.slice A L.length c) ∧ Bytes8 w' A L.length c L ∧ Below W.heap.size W w' ∧ Two w p g w1.heap.size v L LL w') := fun W hW => hW.refBytes FZ.out
  clear hI hRI hb1 hb2 hT
  go_region_with (first
      | (go_at_call 17; refine (HBt.out _ (by assumption)).mono ?_; rintro e w3 ⟨A3, rfl, hB3, hb3, hN⟩; have cv3 := run_text hB3; (first | (have cv4 := run_text (hB4.below hb3)) | skip))
      | (go_at_call 18; refine (HBr.out _ (by assumption)).mono ?_; rintro e w4 ⟨A4, c4, rfl, hB4, hb4, hN⟩; have cv4 := run_text hB4; (first | (have cv3 := run_text (hB3.below hb4)) | skip))
      | (go_at_call 16; refine (HK.out _ (by assumption)).mono ?_; rintro e w' ⟨rfl, rfl⟩)
      | (go_at_call 9; refine (lives_any _).mono ?_; rintro e w7 ⟨rfl, hb7⟩; have hN := hN.later hb7))
  all_goals go_wp2
  all_goals go_ret
  all_goals exact ⟨rfl, hN.bel⟩

theorem new_walk (n : Int) (w : World) (hn : -9223372036854775808 ≤ n ∧ n ≤ 9223372036854775807) :
    Calls Try.prog 4 #[.int .i64 n] w fun e w' => e = .returned (.bool true) ∧ Below w.heap.size w w' := by
  by_cases h : n < 0 ∨ 14400 < n
  · exact new_bad n w h
  · obtain ⟨m, rfl⟩ := Int.eq_ofNat_of_zero_le (show 0 ≤ n by omega)
    by_cases h4 : m ≤ 40
    · exact new_small m w h4
    · exact new_great m (m % 40) w (by omega) (by omega) rfl

end Go.Proofs.Ytadoclbalcecpaa
