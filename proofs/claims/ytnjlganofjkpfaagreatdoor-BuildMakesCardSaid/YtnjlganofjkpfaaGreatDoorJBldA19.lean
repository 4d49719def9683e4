/-
  Joined: SealF.
-/
import Derived.LoopTactic
import Derived.Test.YtnjlganofjkpfaaGreatDoorJBldA18
import Derived.Test.YtnjlganofjkpfaaGreatDoorJBldA17
import Derived.Test.YtnjlganofjkpfaaGreatDoorJBldA08
import Derived.Test.YtnjlganofjkpfaaGreatDoorJBldA03
/-
  The reference's Seal.
-/
namespace Go.Proofs.YtnjlganofjkpfaaGreatDoor
open Go.RowKit
set_option linter.unusedVariables false
set_option linter.unusedSimpArgs false

set_option maxRecDepth 100000 in
theorem refSeal_bad (k no : Int) (A : Option Addr) (n c : Nat) (w : World) (r : Int) (h : sealE k no n = r) (hr : r ≠ 0) :
    Calls Tryz.prog 82 #[.int .i64 k, .int .i64 no, .slice A n c] w fun e w' => e = .returned (.tuple #[.slice none 0 0, .int .i64 r]) ∧ w = w' := by
  cases hk : knownB k no with
  | false =>
    obtain rfl : 1 = r := by rw [← h]; simp [sealE, hk]
    have K := Lib.hid (fun W => refKnown_any k no W false hk)
    clear h hr hk
    go_enter Tryz.func82, Tryz.ntmps82
    go_wp2_with (go_at_call 93; refine (K.out _).mono ?_; rintro e w' ⟨rfl, rfl⟩)
    go_ret2
    exact ⟨rfl, rfl⟩
  | true =>
    by_cases hn : 244 < n
    · obtain rfl : 2 = r := by rw [← h]; simp [sealE, hk, hn]
      have K := Lib.hid (fun W => refKnown_any k no W true hk)
      clear h hr hk
      go_enter Tryz.func82, Tryz.ntmps82
      go_wp2_with (go_at_call 93; refine (K.out _).mono ?_; rintro e w' ⟨rfl, rfl⟩)
      go_ret2
      exact ⟨rfl, rfl⟩
    · exact absurd (by rw [← h]; simp [sealE, hk, hn]) hr

/-- what stands behind j zeros -/
def partB (N K : Nat) (l : List UInt8) (j : Nat) : List UInt8 := encN 4 N ++ (encN 2 K ++ ([0, 0] ++ (l ++ List.replicate j 0)))
theorem partB_succ (N K : Nat) (l : List UInt8) (j : Nat) : partB N K l (j + 1) = partB N K l j ++ [0] := by
  simp only [partB, List.append_assoc]
  rw [List.replicate_succ']
theorem partB_zero (N K : Nat) (l : List UInt8) : u8s (encN 4 N) ++ u8s (encN 2 K) ++ [.int .u8 0, .int .u8 0] ++ u8s l = u8s (partB N K l 0) := by simp [partB, u8s]

def lenVS : Value → Nat
  | .slice _ n _ => n
  | _ => 0

set_option maxRecDepth 100000 in
set_option maxHeartbeats 1600000 in
theorem refSeal_good (k no : Int) (A : Option Addr) (n c : Nat) (l : List UInt8) (w : World) (h : Bytes8 w A n c l) (hs : sealE k no n = 0) :
    Calls Tryz.prog 82 #[.int .i64 k, .int .i64 no, .slice A n c] w fun e w' => ∃ A' m c', e = .returned (.tuple #[.slice A' m c', .int .i64 0]) ∧ Bytes8 w' A' m c' (sealB k no l) ∧ Below w.heap.size w w' := by
  obtain ⟨hkn, hn⟩ := sealE_zero hs
  have hb := knownB_iff.1 hkn
  have KN := Lib.hid (fun W => refKnown_any k no W true hkn)
  have hl := h.len
  have HSE : Hid (sealB k no l = bodyB k no l ++ encN 4 (Crc.sum (bodyB k no l) ^^^ saltN k)) := sealB_eq (by rw [hl]; exact hs)
  obtain ⟨N, rfl⟩ := Int.eq_ofNat_of_zero_le hb.2.1
  obtain ⟨K, rfl⟩ := Int.eq_ofNat_of_zero_le (show 0 ≤ k by omega)
  have HBY : Hid (∀ x m : Nat, x < 9223372036854775808 → m ≤ 8 → ∀ W, Calls Tryz.prog 38 #[.int .i64 x, .int .i64 m] W fun e w' => ∃ A' c', e = .returned (.slice A' m c') ∧ w'.ownsRow W.heap.size 5 1 (.slice A' m c') m (u8s (encN m x)) ∧ Bytes8 w' A' m c' (encN m x) ∧ Below W.heap.size W w') :=
    fun x m hx hm W => (Bytes_any x m W hx hm).mono fun e w' ⟨v', he, ho, hb⟩ => by
      obtain ⟨A', c', rfl, hB⟩ := Bytes8.of_own ho
      exact ⟨A', c', he, ho, hB, hb⟩
  have BY1 : Hid (∀ W, Calls Tryz.prog 38 #[.int .i64 N, .int .i64 4] W fun e w' => ∃ A' c', e = .returned (.slice A' 4 c') ∧ w'.ownsRow W.heap.size 5 1 (.slice A' 4 c') 4 (u8s (encN 4 N)) ∧ Bytes8 w' A' 4 c' (encN 4 N) ∧ Below W.heap.size W w') := HBY.out N 4 (by omega) (by omega)
  have BY2 : Hid (∀ W, Calls Tryz.prog 38 #[.int .i64 K, .int .i64 2] W fun e w' => ∃ A' c', e = .returned (.slice A' 2 c') ∧ w'.ownsRow W.heap.size 5 1 (.slice A' 2 c') 2 (u8s (encN 2 K)) ∧ Bytes8 w' A' 2 c' (encN 2 K) ∧ Below W.heap.size W w') := HBY.out K 2 (by omega) (by omega)
  have HB := Lib.hid h
  have HL := Lib.hid hl
  have HP0 := Lib.hid (partB_zero N K l)
  have HPE : Hid (partB N K l (244 - n) = bodyB (K : Int) (N : Int) l) := by rw [Hid, partB, bodyB, hl]; simp
  clear h hl hs hkn hb
  go_enter Tryz.func82, Tryz.ntmps82
  go_wp2_with (first
    | (go_at_call 93; refine (KN.out _).mono ?_; rintro e w' ⟨rfl, rfl⟩)
    | (go_at_call 38; (with_reducible refine (BY1.out _).mono ?_); rintro e w1 ⟨A1, c1, rfl, ho1, hB1, hb1⟩; have HO1 := Lib.hid ho1; clear ho1 hB1)
    | (go_at_call 38; (with_reducible refine (BY2.out _).mono ?_); rintro e w2 ⟨A2, c2, rfl, ho2, hB2, hb2⟩; have HB2 := Lib.hid hB2; have HO2 := own_below HO1 hb2; have hw2 := hb1.trans (hb2.mono hb1.size); clear ho2 hB2)
    | (at_builtin; refine wpList_append_row _ rfl (.tmp 18) (.tmp 20) 29 rfl w.heap.size 5 _ 1 Tryz.underlying29 info_u8 rfl _ _ _ rfl HO2 hw2.size _ (u8s (encN 2 K)) 2 c2 rfl (by rw [u8s_length, encN_length]) HB2.out.row (u8s_one _) (by omega) (by omega) ?_; intro v3 w3 HO3 hs3 hb3; have hw3 := hw2.trans hb3)
    | (at_builtin; refine wpList_append_new _ rfl (.tmp 22) (.tmp 23) 29 rfl w.heap.size 5 5 (.int .u8 0) 1 Tryz.underlying29 info_u8 rfl v3 6 _ rfl HO3 hs3 [.int .u8 0, .int .u8 0] 2 2 rfl rfl (by simp [Value.oneCell']) (by omega) (by omega) ?_; intro v4 w4 HO4 hs4 hb4; have hw4 := hw3.trans hb4)
    | (at_builtin; refine wpList_append_row _ rfl (.tmp 25) (.tmp 26) 29 rfl w.heap.size 5 _ 1 Tryz.underlying29 info_u8 rfl _ _ _ rfl HO4 hs4 A (u8s l) n c rfl (by rw [u8s_length, HL.out]) (HB.out.row.below hw4) (u8s_one _) (by omega) (by omega) ?_; intro v5 w5 HO5 hs5 hb5; have hw5 := hw4.trans hb5))
  have HO6 : Hid (w5.ownsRow w.heap.size 5 1 v5 (8 + n + 0) (u8s (partB N K l 0))) := by
    have := HO5.out
    rw [HP0.out] at this
    exact this
  have HBE : Hid (∀ W A' m' c', Bytes8 W A' m' c' (bodyB (K : Int) (N : Int) l) → Calls Tryz.prog 94 #[.slice A' m' c'] W fun e w' => e = .returned (.int .i64 (Crc.sum (bodyB (K : Int) (N : Int) l) : Int)) ∧ W = w') := fun W A' m' c' h => refSum_any A' m' c' _ W h
  have HSA := Lib.hid (fun W => refSalt_any (K : Int) W)
  have hx := xor_salt (Crc.sum (bodyB (K : Int) (N : Int) l)) (saltN (K : Int)) (Crc.sum_lt _) (saltN_lt _)
  have hxl := Crc.xor_lt (Crc.sum_lt (bodyB (K : Int) (N : Int) l)) (saltN_lt (K : Int))
  generalize Crc.sum (bodyB (K : Int) (N : Int) l) = x at *
  generalize saltN (K : Int) = y at *
  generalize x ^^^ y = z at *
  have BY3 : Hid (∀ W, Calls Tryz.prog 38 #[.int .i64 z, .int .i64 4] W fun e w' => ∃ A' c', e = .returned (.slice A' 4 c') ∧ w'.ownsRow W.heap.size 5 1 (.slice A' 4 c') 4 (u8s (encN 4 z)) ∧ Bytes8 w' A' 4 c' (encN 4 z) ∧ Below W.heap.size W w') := HBY.out z 4 (by omega) (by omega)
  clear HO1 HO2 HO3 HO4 HO5 HB2 BY1 BY2 HBY HP0 KN hb1 hb2 hb3 hb4 hb5 hw2 hw3 hw4 hs3 hs4
  go_loopw [8] (fun v wr => ∃ j : Nat, 8 + n + j ≤ 252 ∧ Hid (wr.ownsRow w.heap.size 5 1 v (8 + n + j) (u8s (partB N K l j))) ∧ w.heap.size ≤ wr.heap.size ∧ Below w.heap.size w wr) (fun v _ => 252 - lenVS v)
  case atStart => exact ⟨0, by omega, HO6, hs5, hw5⟩
  case round =>
    clear HO6 hs5 hw5
    obtain ⟨j, hj, hown, hs, hbel⟩ := hrel
    obtain ⟨A8, c8, rfl, hc8, hm8⟩ := ownsRow_form hown.out
    by_cases hlt : 8 + n + j < 252
    · go_wp2_with (at_builtin; refine wpList_append_new _ rfl (.tmp 31) (.tmp 32) 29 rfl w.heap.size 5 5 (.int .u8 0) 1 Tryz.underlying29 info_u8 rfl _ (8 + n + j) _ rfl hown hs [.int .u8 0] 1 1 rfl rfl (by simp [Value.oneCell']) (by omega) (by omega) ?_; intro v9 w9 HO9 hs9 hb9)
      have HO10 : Hid (w9.ownsRow w.heap.size 5 1 v9 (8 + n + (j + 1)) (u8s (partB N K l (j + 1)))) := by
        have := HO9.out
        rw [partB_succ, u8s_append]
        exact this
      obtain ⟨A9, c9, rfl, hc9, hm9⟩ := ownsRow_form HO10.out
      go_roundw
      case rel => exact ⟨j + 1, by omega, HO10, hs9, hbel.trans hb9⟩
      case measure => simp [lenVS]; omega
    · obtain rfl : j = 244 - n := by omega
      rw [HPE.out] at hown
      have hB8 : Bytes8 wr A8 (8 + n + (244 - n)) c8 (bodyB (K : Int) (N : Int) l) := by
        obtain ⟨A', c', e, h⟩ := Bytes8.of_own hown.out
        cases e
        exact h
      have HB8 := Lib.hid hB8
      clear hB8
      go_wp2_with (first
        | (go_at_call 94; (with_reducible refine (HBE.out _ _ _ _ HB8.out).mono ?_); rintro e w' ⟨rfl, rfl⟩)
        | (go_at_call 95; (with_reducible refine (HSA.out _).mono ?_); rintro e w10 ⟨rfl, hb10⟩; have hown10 := own_below hown hb10)
        | (go_at_call 38; (with_reducible refine (BY3.out _).mono ?_); rintro e w11 ⟨A11, c11, rfl, ho11, hB11, hb11⟩; have HB11 := Lib.hid hB11; have hown11 := own_below hown10 hb11; have hb1011 := hb10.trans (hb11.mono hb10.size); clear ho11 hB11)
        | (at_builtin; refine wpList_append_row _ rfl (.tmp 34) (.tmp 40) 29 rfl w.heap.size 5 _ 1 Tryz.underlying29 info_u8 rfl _ _ _ rfl hown11 (Nat.le_trans hs hb1011.size) _ (u8s (encN 4 z)) 4 c11 rfl (by rw [u8s_length, encN_length]) HB11.out.row (u8s_one _) (by omega) (by omega) ?_; intro v12 w12 HO12 hs12 hb12))
      have HO13 : Hid (w12.ownsRow w.heap.size 5 1 v12 (8 + n + (244 - n) + 4) (u8s (sealB (K : Int) (N : Int) l))) := by
        have := HO12.out
        rw [HSE.out, u8s_append]
        exact this
      obtain ⟨A13, c13, rfl, hB13⟩ := Bytes8.of_own HO13.out
      go_ret2
      exact ⟨A13, _, c13, rfl, hB13, hbel.trans ((hb1011.mono hs).trans hb12)⟩

theorem refSeal_any (k no : Int) (A : Option Addr) (n c : Nat) (l : List UInt8) (w : World) (h : Bytes8 w A n c l) :
    Calls Tryz.prog 82 #[.int .i64 k, .int .i64 no, .slice A n c] w fun e w' => ∃ A' m c', e = .returned (.tuple #[.slice A' m c', .int .i64 (sealE k no n)]) ∧ Bytes8 w' A' m c' (sealB k no l) ∧ Below w.heap.size w w' := by
  by_cases e : sealE k no n = 0
  · rw [e]
    exact refSeal_good k no A n c l w h e
  · refine (refSeal_bad k no A n c w _ rfl e).mono ?_
    rintro e' w' ⟨rfl, rfl⟩
    exact ⟨none, 0, 0, rfl, by rw [sealB, if_neg (by rw [h.len]; exact e)]; exact Bytes8.nil _, Below.refl _ _⟩

end Go.Proofs.YtnjlganofjkpfaaGreatDoor
