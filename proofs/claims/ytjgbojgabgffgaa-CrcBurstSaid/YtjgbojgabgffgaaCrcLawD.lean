/-
  The walk of CrcBurst.
-/
import Derived.Test.YtjgbojgabgffgaaCrcLawA
import Derived.RegionTactic
import Derived.BigRegion
namespace Go.Proofs.Ytjgbojgabgffgaa
open Go.RowKit
set_option linter.unusedVariables false
set_option linter.unusedSimpArgs false

set_option maxRecDepth 100000 in
set_option maxHeartbeats 800000 in
theorem burst_out (A : Option Addr) (n c : Nat) (p : Int) (x : Nat) (w : World) (hn : n ≤ 9223372036854775807) (hx : x < 4294967296) (ho : 3000 < n ∨ n ≤ 3000 ∧ (x = 0 ∨ 0 < x ∧ (p < 0 ∨ 0 ≤ p ∧ 8 * (n : Int) < p))) :
    Calls Try.prog 6 #[.slice A n c, .int .i64 p, .int .u32 (x : Int)] w fun e w' => e = .returned (.bool true) ∧ Below w.heap.size w w' := by
  rcases ho with ho | ⟨h1, rfl | ⟨h2, ho | ⟨h3, ho⟩⟩⟩
  all_goals go_enter Try.func6, Try.ntmps6
  all_goals go_wp2_with (go_at_call 7; refine (lives_any _).mono ?_; rintro e w1 ⟨rfl, hb1⟩)
  all_goals go_ret
  all_goals exact ⟨rfl, hb1⟩

/-- has a bit been turned? -/
def smB (x k : Nat) : Bool := decide (x % 2 ^ k ≠ 0)
theorem smB_zero (x : Nat) : smB x 0 = false := by simp [smB, Nat.mod_one]
theorem smB_yes (x k : Nat) (h : x.testBit k = true) : smB x (k + 1) = true := by simpa [smB] using Crc.mod_yes x k h
theorem smB_no (x k : Nat) (h : x.testBit k = false) : smB x (k + 1) = smB x k := by simp [smB, Crc.mod_no x k h]

theorem shr_bit (x k : Nat) (hx : x < 4294967296) : bits .and .u32 ((x : Int) / 2 ^ k) 1 = ((x / 2 ^ k % 2 : Nat) : Int) := by
  have h := and_one_u32 (x / 2 ^ k) (Nat.lt_of_le_of_lt (Nat.div_le_self _ _) hx)
  rw [← h]
  congr 1
theorem shr_yes (x k : Nat) (hx : x < 4294967296) (h : x.testBit k = true) : bits .and .u32 ((x : Int) / 2 ^ k) 1 = 1 := by
  rw [shr_bit x k hx]
  rw [Nat.testBit_eq_decide_div_mod_eq] at h
  rw [of_decide_eq_true h]
  rfl
theorem shr_no (x k : Nat) (hx : x < 4294967296) (h : x.testBit k = false) : bits .and .u32 ((x : Int) / 2 ^ k) 1 = 0 := by
  rw [shr_bit x k hx]
  rw [Nat.testBit_eq_decide_div_mod_eq] at h
  have := of_decide_eq_false h
  rw [show x / 2 ^ k % 2 = 0 by omega]
  rfl

theorem flips_cells (l : List UInt8) (p x k : Nat) (h : x.testBit k = true) (hj : (p + k) / 8 < (Crc.flips l p x k).length) :
    u8s (Crc.flips l p x (k + 1)) = (u8s (Crc.flips l p x k)).set ((p + k) / 8) (.int .u8 (bits .xor .u8 ((Crc.flips l p x k)[(p + k) / 8].toNat : Int) (2 ^ ((p + k) % 8) % 256))) := by
  have hm : (p + k) % 8 < 8 := Nat.mod_lt _ (by omega)
  have hb := Crc.byte_xor (Crc.flips l p x k)[(p + k) / 8] _ hm
  have hp : 2 ^ ((p + k) % 8) < 256 := Nat.pow_lt_pow_right (n := 8) (a := 2) (by omega) hm
  have hget : (Crc.flips l p x k).getD ((p + k) / 8) 0 = (Crc.flips l p x k)[(p + k) / 8] := by simp [List.getD, hj]
  rw [Crc.flips_yes l p x k h, hget]
  have e : bits .xor .u8 ((Crc.flips l p x k)[(p + k) / 8].toNat : Int) (2 ^ ((p + k) % 8) % 256) = (((Crc.flips l p x k)[(p + k) / 8].toNat ^^^ 2 ^ ((p + k) % 8) : Nat) : Int) := by
    rw [← u8_xor_nat _ _ (by have := UInt8.toNat_lt (Crc.flips l p x k)[(p + k) / 8]; omega) hp]
    congr 1
    have : (2 : Int) ^ ((p + k) % 8) = ((2 ^ ((p + k) % 8) : Nat) : Int) := by rw [Int.natCast_pow]; rfl
    rw [this]
    clear hb this
    generalize (2 ^ ((p + k) % 8) : Nat) = q at hp ⊢
    omega
  rw [e]
  generalize (Crc.flips l p x k)[(p + k) / 8].toNat ^^^ 2 ^ ((p + k) % 8) = z at *
  simp only [u8s, List.map_set]
  congr 2
  rw [UInt8.toNat_ofNat', Nat.mod_eq_of_lt hb]

set_option maxRecDepth 100000 in
set_option maxHeartbeats 1600000 in
theorem burst_in (A : Option Addr) (n c : Nat) (l : List UInt8) (p x : Nat) (w : World) (h : Bytes8 w A n c l) (hn : n ≤ 3000) (hx0 : 0 < x) (hx : x < 4294967296) (hp : p ≤ 8 * n) :
    Calls Try.prog 6 #[.slice A n c, .int .i64 (p : Int), .int .u32 (x : Int)] w fun e w' => e = .returned (.bool true) ∧ Below w.heap.size w w' := by
  have HL := Lib.hid h.len
  have HB := Lib.hid h
  clear h
  have d1 : decide ((3000 : Int) < (n : Int)) = false := by simp; omega
  have d2 : decide ((p : Int) < 0) = false := by simp
  have d3 : decide (8 * (n : Int) < (p : Int)) = false := by simp; omega
  go_enter Try.func6, Try.ntmps6
  go_wp2_with (at_builtin; refine wpList_append_row _ rfl _ _ 22 rfl w.heap.size 5 (.int .u8 0) 1 Try.underlying22 (by kernel_rfl) rfl _ 0 [] rfl (own_empty w 5) (by simp) A (u8s l) n c rfl (by rw [u8s_length]; exact HB.out.len) (HB.out.row.below ((Below.refl _ _).alloc (Nat.le_refl _) _)) (u8s_one _) (by omega) (by omega) ?_; intro v2 w2 hown2 hs2 hb2)
  have hown : Hid (w2.ownsRow w.heap.size 5 1 v2 n (u8s (Crc.flips l p x 0))) := by
    have := hown2.out
    rwa [Nat.zero_add, List.nil_append] at this
  have hbel : Below w.heap.size w w2 := ((Below.refl _ _).alloc (Nat.le_refl _) _).trans hb2
  clear hown2 hb2
  obtain ⟨A2, c2, rfl, hc2, hm2⟩ := ownsRow_form hown.out
  go_loopw [8, 9] (fun sm i wr => ∃ k : Nat, k ≤ 32 ∧ p + k ≤ 8 * n ∧ i = .int .i64 k ∧ sm = .bool (smB x k) ∧ Hid (wr.ownsRow w.heap.size 5 1 (.slice A2 n c2) n (u8s (Crc.flips l p x k))) ∧ w.heap.size ≤ wr.heap.size ∧ Below w.heap.size w wr) (fun _ i _ => 32 - (intOf i).toNat)
  case atStart => exact ⟨0, by omega, by omega, rfl, by rw [smB_zero], hown, hs2, hbel⟩
  case round =>
    clear hown hs2 hbel
    obtain ⟨k, hk, hpk, rfl, rfl, hown, hs2, hbel⟩ := hrel
    by_cases hlt : k < 32 ∧ p + k < 8 * n
    · obtain ⟨hk1, hk2⟩ := hlt
      have hA2 : ∃ g, A2 = some ⟨g, 0, none⟩ ∧ w.heap.size ≤ g := by
        rcases hown.out.2 with ⟨hv, h0⟩ | ⟨g, cap, cur, hv, hg, _⟩
        · omega
        · injection hv with h1
          exact ⟨g, h1, hg⟩
      obtain ⟨g, rfl, hgw⟩ := hA2
      cases hb : x.testBit k with
      | false =>
        have e1 := shr_no x k hx hb
        have HS := Lib.hid (smB_no x k hb)
        have HF := Lib.hid (Crc.flips_no l p x k hb)
        go_wp2
        go_roundw
        case rel => exact ⟨k + 1, by omega, by omega, by go_num, by rw [HS.out], by rw [HF.out]; exact hown, hs2, hbel⟩
        case measure => simp [intOf]; omega
      | true =>
        have e1 := shr_yes x k hx hb
        have HS := Lib.hid (smB_yes x k hb)
        have hj : (p + k) / 8 < (Crc.flips l p x k).length := by rw [Crc.flips_length, HL.out]; omega
        have hc0 := hown.out.cellAt ((p + k) / 8) (by omega)
        rw [u8s_at _ _ hj] at hc0
        have hf0 := hown.out.frozenAt ((p + k) / 8)
        have h08 : ((p : Int) + (k : Int)) / 8 < (n : Int) := by omega
        have h00 : (0 : Int) ≤ ((p : Int) + (k : Int)) / 8 := by omega
        have HF := Lib.hid (flips_cells l p x k hb hj)
        generalize (Crc.flips l p x k)[(p + k) / 8] = old at *
        go_wp2
        go_region
        go_wp2
        go_roundw
        case rel =>
          refine ⟨k + 1, by omega, by omega, by go_num, by rw [HS.out], ?_, by simpa using hs2, (hbel.setCell (p := ⟨g, (p + k) / 8, none⟩) hgw _).drew⟩
          rw [HF.out]
          exact (hown.out.stored _ _).1.drew
        case measure => simp [intOf]; omega
    · have hend : k = 32 ∨ k < 32 ∧ p + k = 8 * n := by omega
      have hB : Bytes8 wr A2 n c2 (Crc.flips l p x k) := by
        obtain ⟨A', c', e, h⟩ := Bytes8.of_own hown.out
        cases e
        exact h
      have S1 : Hid (Calls Try.prog 8 #[.slice (some ⟨wr.heap.size, 0, none⟩) 1 1] (wr.alloc (.cells #[.slice A2 n c2] 22)) fun e w' => e = .returned (.int .i64 (Crc.sum (Crc.flips l p x k) : Int)) ∧ Below wr.heap.size wr w') := Sum_one A2 n c2 _ wr hB
      have S2 : Hid (∀ W, Below wr.heap.size wr W → Calls Try.prog 8 #[.slice (some ⟨W.heap.size, 0, none⟩) 1 1] (W.alloc (.cells #[.slice A n c] 22)) fun e w' => e = .returned (.int .i64 (Crc.sum l : Int)) ∧ Below W.heap.size W w') := fun W hb => Sum_one A n c l W (HB.out.below (hbel.trans (hb.mono hs2)))
      have HE := Crc.sum_flips l p x k (by have := HL.out; omega) hx
      clear hown hB hlt
      cases hsm : smB x k with
      | false =>
        have h0 : x % 2 ^ k = 0 := by simpa [smB] using hsm
        rw [HE.2 h0] at S1
        generalize Crc.sum l = y at *
        clear HE h0 hsm
        rcases hend with rfl | ⟨h1, h2⟩
        all_goals go_wp2_with (first
          | (go_at_call 8; (with_reducible refine (S1.out).mono ?_); rintro e w1 ⟨rfl, hb1⟩)
          | (go_at_call 8; (with_reducible refine (S2.out _ hb1).mono ?_); rintro e w2 ⟨rfl, hb2⟩)
          | (go_at_call 7; refine (lives_any _).mono ?_; rintro e w4 ⟨rfl, hb4⟩))
        all_goals go_ret
        all_goals exact ⟨rfl, hbel.trans (((hb1.trans (hb2.mono hb1.size)).trans (hb4.mono (Nat.le_trans hb1.size hb2.size))).mono hs2)⟩
      | true =>
        have h0 : x % 2 ^ k ≠ 0 := by simpa [smB] using hsm
        have hne : ¬ Crc.sum (Crc.flips l p x k) = Crc.sum l := fun e => h0 (HE.1 e)
        generalize Crc.sum l = y at *
        generalize Crc.sum (Crc.flips l p x k) = z at *
        clear HE h0 hsm
        have q1 : ((z : Int) == (y : Int)) = false := by simp; omega
        have q2 : ((z : Int) != (y : Int)) = true := by simp; omega
        rcases hend with rfl | ⟨h1, h2⟩
        all_goals go_wp2_with (first
          | (go_at_call 8; (with_reducible refine (S1.out).mono ?_); rintro e w1 ⟨rfl, hb1⟩)
          | (go_at_call 8; (with_reducible refine (S2.out _ hb1).mono ?_); rintro e w2 ⟨rfl, hb2⟩)
          | (go_at_call 7; refine (lives_any _).mono ?_; rintro e w4 ⟨rfl, hb4⟩))
        all_goals go_ret
        all_goals exact ⟨rfl, hbel.trans (((hb1.trans (hb2.mono hb1.size)).trans (hb4.mono (Nat.le_trans hb1.size hb2.size))).mono hs2)⟩

theorem bd_u32 {n : Int} (h : (Lit.int .u32 n).wf = true) : 0 ≤ n ∧ n ≤ 4294967295 := by
  simpa [Lit.wf, IntKind.min, IntKind.max, IntKind.signed, IntKind.bits] using h

theorem burst_walk (A : Option Addr) (n c : Nat) (l : List UInt8) (p x : Int) (w : World) (h : Bytes8 w A n c l) (hp : -9223372036854775808 ≤ p ∧ p ≤ 9223372036854775807) (hx : 0 ≤ x ∧ x ≤ 4294967295) :
    Calls Try.prog 6 #[.slice A n c, .int .i64 p, .int .u32 x] w fun e w' => e = .returned (.bool true) ∧ Below w.heap.size w w' := by
  obtain ⟨y, rfl⟩ := Int.eq_ofNat_of_zero_le hx.1
  by_cases ho : 3000 < n ∨ n ≤ 3000 ∧ (y = 0 ∨ 0 < y ∧ (p < 0 ∨ 0 ≤ p ∧ 8 * (n : Int) < p))
  · exact burst_out A n c p y w h.le (by omega) ho
  · obtain ⟨q, rfl⟩ := Int.eq_ofNat_of_zero_le (show 0 ≤ p by omega)
    exact burst_in A n c l q y w h (by omega) (by omega) (by omega) (by omega)

end Go.Proofs.Ytjgbojgabgffgaa
