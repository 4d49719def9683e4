/-
  Layer 9: right (which counts a block can hold), join (four counts in a byte), bytes.Equal.
-/
import Derived.Test.YtdejggdnpnofeaaBitMath
import Derived.Test.YtdejggdnpnofeaaCodeJ
import Derived.Test.YtdejggdnpnofeaaInfo
namespace Go.Proofs.Ytdejggdnpnofeaa
open Go.RowKit
set_option linter.unusedVariables false
set_option linter.unusedSimpArgs false

theorem bitEqual_any (A1 : Option Addr) (n1 c1 : Nat) (l1 : List UInt8) (A2 : Option Addr) (n2 c2 : Nat) (l2 : List UInt8) (w : World) (h1 : Bytes8 w A1 n1 c1 l1) (h2 : Bytes8 w A2 n2 c2 l2) (r : Bool) (hr : decide (l1 = l2) = r) :
    Calls Try.prog 19 #[.slice A1 n1 c1, .slice A2 n2 c2] w fun e w' => e = .returned (.bool r) ∧ w = w' := by
  have cv1 := run_str h1
  have cv2 := run_str h2
  clear h1 h2
  go_enter Try.func19, Try.ntmps19
  go_wp2
  go_ret
  exact ⟨ret_bool (by rw [← hr, Bool.eq_iff_iff]; simp), rfl⟩

set_option maxHeartbeats 800000 in
theorem right_any9 (A : Option Addr) (n c : Nat) (l : List Int) (w : World) (h : Ints w A n c l) (r : Bool) (hr : okB9 l = r) :
    Calls Try.prog 14 #[.slice A n c] w fun e w' => e = .returned (.bool r) ∧ w = w' := by
  have hn := h.le
  have hl := h.len
  by_cases h9 : n ≤ 960
  · by_cases hp : 0 < n
    · obtain ⟨b, off, rfl, hb, hcell⟩ := h.row.lit (by rw [i64s_length]; omega)
      have HC := Lib.hid hcell
      have HR := Lib.hid hr
      have HL := Lib.hid hl
      clear h hcell hr hl
      go_enter Try.func14, Try.ntmps14
      go_wp2
      go_loop [10] (fun i => ∃ k : Nat, k ≤ n ∧ i = .int .i64 k ∧ Hid (∀ x ∈ l.take k, 0 ≤ x ∧ x ≤ 3)) (fun i => n - (intOf i).toNat)
      case atStart => exact ⟨0, by omega, rfl, fun x hx => by simp at hx⟩
      case round =>
        obtain ⟨k, hk, rfl, hT⟩ := hrel
        by_cases hlt : k < n
        · have hkl : k < l.length := by have := HL.out; omega
          have hc0 : w.cell? ⟨b, off + k, none⟩ = some (.int .i64 l[k]) := HC.out k _ (i64s_at l k hkl)
          have bad : Hid (¬ (0 ≤ l[k] ∧ l[k] ≤ 3) → okB9 l = false) := fun hb => by
            cases e : okB9 l with
            | false => rfl
            | true => exact absurd ((okB9_iff.1 e).2 _ (List.getElem_mem hkl)) hb
          have good : Hid (0 ≤ l[k] ∧ l[k] ≤ 3 → ∀ x ∈ l.take (k + 1), 0 ≤ x ∧ x ≤ 3) := fun hg x hx => by
            rw [List.take_succ_eq_append_getElem hkl, List.mem_append, List.mem_singleton] at hx
            rcases hx with hx | rfl
            · exact hT.out x hx
            · exact hg
          generalize l[k] = x at *
          by_cases h0 : x < 0
          · obtain rfl : false = r := by rw [← HR.out]; exact (bad.out (by omega)).symm
            have hd : decide (x < 0) = true := decide_eq_true h0
            go_wp2
            go_ret
            exact ⟨rfl, rfl⟩
          · have hd : decide (x < 0) = false := decide_eq_false h0
            by_cases h3 : 3 < x
            · obtain rfl : false = r := by rw [← HR.out]; exact (bad.out (by omega)).symm
              go_wp2
              go_ret
              exact ⟨rfl, rfl⟩
            · go_wp2
              go_round
              case rel => exact ⟨k + 1, by omega, by go_num, good.out (by omega)⟩
              case measure => simp [intOf]; omega
        · obtain rfl : k = n := by omega
          obtain rfl : true = r := by
            rw [← HR.out]
            symm
            rw [okB9_iff]
            have := hT.out
            rw [List.take_of_length_le (by have := HL.out; omega)] at this
            exact ⟨by have := HL.out; omega, this⟩
          go_wp2
          go_ret
          exact ⟨rfl, rfl⟩
    · obtain rfl : n = 0 := by omega
      obtain rfl : l = [] := List.eq_nil_of_length_eq_zero hl
      obtain rfl : true = r := hr
      clear h
      go_enter Try.func14, Try.ntmps14
      go_wp2
      refine wp_loop_rounds 1 ?_
      rw [rounds_succ]
      go_wp2
      go_ret
      exact ⟨rfl, rfl⟩
  · obtain rfl : false = r := by
      rw [← hr]
      cases e : okB9 l with
      | false => rfl
      | true => exact absurd (okB9_iff.1 e).1 (by omega)
    clear h hr
    go_enter Try.func14, Try.ntmps14
    go_wp2
    go_ret
    exact ⟨rfl, rfl⟩

/-! ### join -/
theorem bit_or_nat (a b : Nat) (ha : a < 9223372036854775808) (hb : b < 9223372036854775808) : bits .or .i64 (a : Int) (b : Int) = ((a ||| b : Nat) : Int) := by
  have hx : a ||| b < 2 ^ 63 := Nat.or_lt_two_pow (by omega) (by omega)
  show IntKind.i64.wrap ((BitVec.ofInt 64 (a : Int) ||| BitVec.ofInt 64 (b : Int)).toNat : Int) = _
  rw [BitVec.toNat_or, ofInt_u64 a (by omega), ofInt_u64 b (by omega), IntKind.wrap_i64]
  omega
theorem bit_or_add (i : Nat) (x y m : Int) (hm : ((2 ^ i : Nat) : Int) = m) (hx0 : 0 ≤ x) (hx : x < m) (hy0 : 0 ≤ y) (hy : x + y * m < 9223372036854775808) : bits .or .i64 x (y * m) = x + y * m := by
  obtain ⟨a, rfl⟩ := Int.eq_ofNat_of_zero_le hx0
  obtain ⟨b, rfl⟩ := Int.eq_ofNat_of_zero_le hy0
  subst hm
  have hp := Nat.two_pow_add_eq_or_of_lt (i := i) (b := a)
  have e : ((b : Int) * ((2 ^ i : Nat) : Int)) = ((2 ^ i * b : Nat) : Int) := by rw [Nat.mul_comm]; exact (Int.natCast_mul _ _).symm
  rw [e] at hy ⊢
  generalize 2 ^ i = q at *
  have hx' : a < q := by omega
  rw [bit_or_nat a (q * b) (by omega) (by omega), Nat.or_comm, ← hp hx' b]
  omega

/-- the byte as it grows -/
def fourP (l : List Int) (a : Nat) : Nat → Nat
  | 0 => 0
  | k + 1 => fourP l a k + cntB l (a + k) * 4 ^ k
theorem fourP_four (l : List Int) (j : Nat) : fourP l (4 * j) 4 = fourB l j := by
  simp only [fourP, fourB, Nat.add_zero]
  omega

theorem fourP_lt {l : List Int} (h : okB9 l = true) (a k : Nat) : fourP l a k < 4 ^ k := by
  induction k with
  | zero => simp [fourP]
  | succ k ih =>
    have := cntB_le h (a + k)
    have h2 : cntB l (a + k) * 4 ^ k ≤ 3 * 4 ^ k := Nat.mul_le_mul_right _ this
    rw [fourP, Nat.pow_succ]
    omega
theorem fourP_out {l : List Int} {a k : Nat} (h : l.length ≤ a + k) : fourP l a (k + 1) = fourP l a k := by
  rw [fourP, cntB_out h]; omega

set_option maxHeartbeats 800000 in
theorem join_any9 (A : Option Addr) (n c : Nat) (l : List Int) (a : Nat) (w : World) (h : Ints w A n c l) (hok : okB9 l = true) (ha : a ≤ 956) :
    Calls Try.prog 16 #[.slice A n c, .int .i64 (a : Int)] w fun e w' => e = .returned (.int .u8 (fourP l a 4 : Int)) ∧ w = w' := by
  have hn := h.le
  have hl := h.len
  have h9 := (okB9_iff.1 hok).1
  rw [hl] at h9
  have HC : Hid (∀ k, k < n → ∃ b off, A = some ⟨b, off, none⟩ ∧ w.cell? ⟨b, off + k, none⟩ = some (.int .i64 (cntB l k : Int))) := by
    intro k hk
    obtain ⟨b, off, rfl, hb, hcell⟩ := h.row.lit (by rw [i64s_length]; omega)
    have hkl : k < l.length := by omega
    refine ⟨b, off, rfl, ?_⟩
    rw [hcell k _ (i64s_at l k hkl), cntB_in hkl]
    have := (okB9_iff.1 hok).2 _ (List.getElem_mem hkl)
    congr 2
    omega
  have HK := Lib.hid hok
  have HL := Lib.hid hl
  have hend := fourP_lt hok a 4
  clear h hok hl
  go_enter Try.func16, Try.ntmps16
  go_wp2
  go_loop [5, 7] (fun b i => ∃ k : Nat, k ≤ 4 ∧ i = .int .i64 k ∧ b = .int .i64 (fourP l a k : Int)) (fun _ i => 4 - (intOf i).toNat)
  case atStart => exact ⟨0, by omega, rfl, rfl⟩
  case round =>
    obtain ⟨k, hk, rfl, rfl⟩ := hrel
    by_cases hlt : k < 4
    · by_cases hin : a + k < n
      · obtain ⟨b, off, rfl, hc0⟩ := HC.out _ hin
        have hv := cntB_le HK.out (a + k)
        have hx := fourP_lt HK.out a k
        have HO : Hid (bits .or .i64 (fourP l a k : Int) ((cntB l (a + k) : Int) * ((4 ^ k : Nat) : Int)) = (fourP l a (k + 1) : Int)) := by
          have h4 : 4 ^ k ≤ 64 := by
            obtain rfl | rfl | rfl | rfl : k = 0 ∨ k = 1 ∨ k = 2 ∨ k = 3 := by omega
            all_goals decide
          have e4 : (2 ^ (2 * k) : Nat) = 4 ^ k := by rw [Nat.pow_mul]
          have hm : (cntB l (a + k) : Int) * ((4 ^ k : Nat) : Int) = ((cntB l (a + k) * 4 ^ k : Nat) : Int) := (Int.natCast_mul _ _).symm
          have hm2 : cntB l (a + k) * 4 ^ k ≤ 3 * 64 := Nat.mul_le_mul hv h4
          show _ = _
          rw [bit_or_add (2 * k) _ _ _ (by rw [e4]) (by omega) (by omega) (by omega) (by rw [hm]; omega), hm, fourP]
          omega
        generalize cntB l (a + k) = v at *
        generalize hy : fourP l a (k + 1) = y at *
        have HY := Lib.hid hy
        clear hy
        generalize fourP l a k = x at *
        clear hx
        obtain rfl | rfl | rfl | rfl : k = 0 ∨ k = 1 ∨ k = 2 ∨ k = 3 := by omega
        · have ho : bits .or .i64 (x : Int) (v : Int) = (y : Int) := by
            have := HO.out
            rwa [Nat.pow_zero, show ((1 : Nat) : Int) = 1 from rfl, Int.mul_one] at this
          rw [Nat.add_zero] at hc0
          go_wp2
          go_round
          case rel => exact ⟨1, by omega, by go_num, by rw [← HY.out]⟩
          case measure => simp [intOf]
        · have ho : bits .or .i64 (x : Int) ((v : Int) * 4) = (y : Int) := HO.out
          go_wp2
          go_round
          case rel => exact ⟨2, by omega, by go_num, by rw [← HY.out]⟩
          case measure => simp [intOf]
        · have ho : bits .or .i64 (x : Int) ((v : Int) * 16) = (y : Int) := HO.out
          go_wp2
          go_round
          case rel => exact ⟨3, by omega, by go_num, by rw [← HY.out]⟩
          case measure => simp [intOf]
        · have ho : bits .or .i64 (x : Int) ((v : Int) * 64) = (y : Int) := HO.out
          go_wp2
          go_round
          case rel => exact ⟨4, by omega, by go_num, by rw [← HY.out]⟩
          case measure => simp [intOf]
      · have HS := Lib.hid (fourP_out (l := l) (a := a) (k := k) (by have := HL.out; omega))
        go_wp2
        go_round
        case rel => exact ⟨k + 1, by omega, by go_num, by rw [HS.out]⟩
        case measure => simp [intOf]; omega
    · obtain rfl : k = 4 := by omega
      go_wp2
      go_ret
      exact ⟨ret_int (by omega), rfl⟩

end Go.Proofs.Ytdejggdnpnofeaa
