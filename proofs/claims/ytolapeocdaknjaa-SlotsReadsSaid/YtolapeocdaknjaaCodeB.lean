/-
  Layer 1's join: what a width of bytes encodes.
-/
import Derived.Test.YtolapeocdaknjaaCodeA
import Derived.Test.YtolapeocdaknjaaMem
import Derived.Deep.QuietTactic
import Derived.BigQuiet
import Derived.RegionTactic
namespace Go.Proofs.Ytolapeocdaknjaa
open Go.RowKit
set_option linter.unusedVariables false
set_option linter.unusedSimpArgs false

/-- what bytes encode, least significant first -/
def leN : List UInt8 → Nat
  | [] => 0
  | b :: r => b.toNat + 256 * leN r

theorem or_zero_u64 (x : Int) (h0 : 0 ≤ x) (h1 : x < 18446744073709551616) : bits .or .u64 0 x = x := by
  rw [u64_or 0 x (by omega) (by omega) h0 h1]; simp; omega

theorem or_add_u64 (i : Nat) (x y m : Int) (hm : ((2 ^ i : Nat) : Int) = m) (hx0 : 0 ≤ x) (hx : x < m) (hy0 : 0 ≤ y) (hy : x + y * m < 18446744073709551616) : bits .or .u64 x (y * m) = x + y * m := by
  obtain ⟨a, rfl⟩ := Int.eq_ofNat_of_zero_le hx0
  obtain ⟨b, rfl⟩ := Int.eq_ofNat_of_zero_le hy0
  subst hm
  have hp := Nat.two_pow_add_eq_or_of_lt (i := i) (b := a)
  have e : ((b : Int) * ((2 ^ i : Nat) : Int)) = ((2 ^ i * b : Nat) : Int) := by rw [Nat.mul_comm]; exact (Int.natCast_mul _ _).symm
  rw [e] at hy ⊢
  generalize 2 ^ i = q at *
  have hx' : a < q := by omega
  rw [u64_or_nat a (q * b) (by omega) (by omega), Nat.or_comm, ← hp hx' b]
  omega

theorem wrap_u64_in (x : Int) (h0 : 0 ≤ x) (h1 : x < 18446744073709551616) : IntKind.u64.wrap x = x := by
  rw [IntKind.wrap_u64]; omega

theorem le1_eq (b0 : Nat) (h0 : b0 < 256) : bits .or .u64 0 (b0 : Int) = (b0 : Int) := or_zero_u64 _ (by omega) (by omega)

theorem le2_eq (b0 b1 : Nat) (h0 : b0 < 256) (h1 : b1 < 256) : bits .or .u64 (bits .or .u64 0 (b0 : Int)) ((b1 : Int) * 256) = b0 + 256 * b1 := by
  rw [or_zero_u64 _ (by omega) (by omega), or_add_u64 8 _ _ 256 rfl (by omega) (by omega) (by omega) (by omega)]
  omega

theorem le4_eq (b0 b1 b2 b3 : Nat) (h0 : b0 < 256) (h1 : b1 < 256) (h2 : b2 < 256) (h3 : b3 < 256) :
    bits .or .u64 (bits .or .u64 (bits .or .u64 0 (IntKind.u64.wrap (bits .or .u64 (b0 : Int) ((b1 : Int) * 256)))) ((b2 : Int) * 65536)) ((b3 : Int) * 16777216) = b0 + 256 * (b1 + 256 * (b2 + 256 * b3)) := by
  rw [or_add_u64 8 (b0 : Int) _ 256 rfl (by omega) (by omega) (by omega) (by omega), wrap_u64_in _ (by omega) (by omega), or_zero_u64 _ (by omega) (by omega),
    or_add_u64 16 _ _ 65536 rfl (by omega) (by omega) (by omega) (by omega), or_add_u64 24 _ _ 16777216 rfl (by omega) (by omega) (by omega) (by omega)]
  omega

theorem le8_eq (b0 b1 b2 b3 b4 b5 b6 b7 : Nat) (h0 : b0 < 256) (h1 : b1 < 256) (h2 : b2 < 256) (h3 : b3 < 256) (h4 : b4 < 256) (h5 : b5 < 256) (h6 : b6 < 256) (h7 : b7 < 256) :
    bits .or .u64 (bits .or .u64 (bits .or .u64 (bits .or .u64 (bits .or .u64 (bits .or .u64 (b0 : Int) ((b1 : Int) * 256)) ((b2 : Int) * 65536)) ((b3 : Int) * 16777216)) (IntKind.u64.wrap (bits .or .u64 (b4 : Int) ((b5 : Int) * 256) * 4294967296))) ((b6 : Int) * 281474976710656)) ((b7 : Int) * 72057594037927936)
      = b0 + 256 * (b1 + 256 * (b2 + 256 * (b3 + 256 * (b4 + 256 * (b5 + 256 * (b6 + 256 * b7)))))) := by
  rw [or_add_u64 8 (b0 : Int) _ 256 rfl (by omega) (by omega) (by omega) (by omega), or_add_u64 16 _ (b2 : Int) 65536 rfl (by omega) (by omega) (by omega) (by omega), or_add_u64 24 _ (b3 : Int) 16777216 rfl (by omega) (by omega) (by omega) (by omega),
    or_add_u64 8 (b4 : Int) _ 256 rfl (by omega) (by omega) (by omega) (by omega), wrap_u64_in _ (by omega) (by omega), or_add_u64 32 _ _ 4294967296 rfl (by omega) (by omega) (by omega) (by omega),
    or_add_u64 48 _ _ 281474976710656 rfl (by omega) (by omega) (by omega) (by omega), or_add_u64 56 _ _ 72057594037927936 rfl (by omega) (by omega) (by omega) (by omega)]
  omega

set_option maxHeartbeats 400000 in
theorem join1 (b off c : Nat) (b0 : Nat) (h0 : b0 < 256) (w : World)
    (k0 : w.cell? ⟨b, off, none⟩ = some (.int .u8 (b0 : Int))) (hc : 1 ≤ c) :
    Calls Try.prog 30 #[.slice (some ⟨b, off, none⟩) 1 c] w fun e w' => e = .returned (.int .u64 (b0 : Int)) ∧ Below w.heap.size w w' := by
  have E := Lib.hid (ret_int (k := .u64) (le1_eq b0 h0))
  go_enter Try.func30, Try.ntmps30
  go_wp2
  go_ret
  exact ⟨E.out, Below.refl _ _⟩

set_option maxHeartbeats 400000 in
theorem join2 (b off c : Nat) (b0 b1 : Nat) (h0 : b0 < 256) (h1 : b1 < 256) (w : World)
    (k0 : w.cell? ⟨b, off, none⟩ = some (.int .u8 (b0 : Int))) (k1 : w.cell? ⟨b, off + 1, none⟩ = some (.int .u8 (b1 : Int))) (hc : 2 ≤ c) :
    Calls Try.prog 30 #[.slice (some ⟨b, off, none⟩) 2 c] w fun e w' => e = .returned (.int .u64 (b0 + 256 * b1 : Int)) ∧ Below w.heap.size w w' := by
  have E := Lib.hid (ret_int (k := .u64) (le2_eq b0 b1 h0 h1))
  go_enter Try.func30, Try.ntmps30
  go_wp2
  go_ret
  exact ⟨E.out, Below.refl _ _⟩

set_option maxHeartbeats 400000 in
theorem join4 (b off c : Nat) (b0 b1 b2 b3 : Nat) (h0 : b0 < 256) (h1 : b1 < 256) (h2 : b2 < 256) (h3 : b3 < 256) (w : World)
    (k0 : w.cell? ⟨b, off, none⟩ = some (.int .u8 (b0 : Int))) (k1 : w.cell? ⟨b, off + 1, none⟩ = some (.int .u8 (b1 : Int)))
    (k2 : w.cell? ⟨b, off + 2, none⟩ = some (.int .u8 (b2 : Int))) (k3 : w.cell? ⟨b, off + 2 + 1, none⟩ = some (.int .u8 (b3 : Int))) (hc : 4 ≤ c) :
    Calls Try.prog 30 #[.slice (some ⟨b, off, none⟩) 4 c] w fun e w' => e = .returned (.int .u64 (b0 + 256 * (b1 + 256 * (b2 + 256 * b3)) : Int)) ∧ Below w.heap.size w w' := by
  have E := Lib.hid (ret_int (k := .u64) (le4_eq b0 b1 b2 b3 h0 h1 h2 h3))
  go_enter Try.func30, Try.ntmps30
  go_wp2
  go_quiet (fail)
  go_wp2
  go_ret
  exact ⟨E.out, below_drewN (Below.refl _ _) _⟩

set_option maxHeartbeats 400000 in
theorem join8 (b off c : Nat) (b0 b1 b2 b3 b4 b5 b6 b7 : Nat) (h0 : b0 < 256) (h1 : b1 < 256) (h2 : b2 < 256) (h3 : b3 < 256) (h4 : b4 < 256) (h5 : b5 < 256) (h6 : b6 < 256) (h7 : b7 < 256) (w : World)
    (k0 : w.cell? ⟨b, off, none⟩ = some (.int .u8 (b0 : Int))) (k1 : w.cell? ⟨b, off + 1, none⟩ = some (.int .u8 (b1 : Int)))
    (k2 : w.cell? ⟨b, off + 2, none⟩ = some (.int .u8 (b2 : Int))) (k3 : w.cell? ⟨b, off + 3, none⟩ = some (.int .u8 (b3 : Int)))
    (k4 : w.cell? ⟨b, off + 4, none⟩ = some (.int .u8 (b4 : Int))) (k5 : w.cell? ⟨b, off + 4 + 1, none⟩ = some (.int .u8 (b5 : Int)))
    (k6 : w.cell? ⟨b, off + 4 + 2, none⟩ = some (.int .u8 (b6 : Int))) (k7 : w.cell? ⟨b, off + 4 + 2 + 1, none⟩ = some (.int .u8 (b7 : Int))) (hc : 8 ≤ c) :
    Calls Try.prog 30 #[.slice (some ⟨b, off, none⟩) 8 c] w fun e w' => e = .returned (.int .u64 (b0 + 256 * (b1 + 256 * (b2 + 256 * (b3 + 256 * (b4 + 256 * (b5 + 256 * (b6 + 256 * b7)))))) : Int)) ∧ Below w.heap.size w w' := by
  have E := Lib.hid (ret_int (k := .u64) (le8_eq b0 b1 b2 b3 b4 b5 b6 b7 h0 h1 h2 h3 h4 h5 h6 h7))
  go_enter Try.func30, Try.ntmps30
  go_wp2
  go_quiet (fail)
  go_wp2
  go_quiet (fail)
  go_wp2
  go_ret
  exact ⟨E.out, below_drewN (Below.refl _ _) _⟩

theorem join_any (A : Option Addr) (n c : Nat) (l : List UInt8) (w : World) (h : Bytes8 w A n c l) (hw : isW n = true) :
    Calls Try.prog 30 #[.slice A n c] w fun e w' => e = .returned (.int .u64 (leN l : Int)) ∧ Below w.heap.size w w' := by
  have hn : n = 1 ∨ n = 2 ∨ n = 4 ∨ n = 8 := by have := isW_cases hw; omega
  obtain ⟨hl, hc, hm, hr⟩ := h
  obtain ⟨b, off, rfl, hb, hcell⟩ := hr.lit (by rw [u8s_length]; omega)
  rcases hn with rfl | rfl | rfl | rfl
  · match l, hl with
    | [b0], _ =>
      refine (join1 b off c b0.toNat (UInt8.toNat_lt b0) w (hcell 0 _ rfl) hc).mono ?_
      rintro e w' ⟨rfl, hb⟩
      exact ⟨ret_int (by simp [leN]), hb⟩
  · match l, hl with
    | [b0, b1], _ =>
      refine (join2 b off c b0.toNat b1.toNat (UInt8.toNat_lt b0) (UInt8.toNat_lt b1) w (hcell 0 _ rfl) (hcell 1 _ rfl) hc).mono ?_
      rintro e w' ⟨rfl, hb⟩
      exact ⟨ret_int (by simp [leN]), hb⟩
  · match l, hl with
    | [b0, b1, b2, b3], _ =>
      refine (join4 b off c b0.toNat b1.toNat b2.toNat b3.toNat (UInt8.toNat_lt b0) (UInt8.toNat_lt b1) (UInt8.toNat_lt b2) (UInt8.toNat_lt b3) w (hcell 0 _ rfl) (hcell 1 _ rfl) (hcell 2 _ rfl) (hcell 3 _ rfl) hc).mono ?_
      rintro e w' ⟨rfl, hb⟩
      exact ⟨ret_int (by simp [leN]), hb⟩
  · match l, hl with
    | [b0, b1, b2, b3, b4, b5, b6, b7], _ =>
      refine (join8 b off c b0.toNat b1.toNat b2.toNat b3.toNat b4.toNat b5.toNat b6.toNat b7.toNat (UInt8.toNat_lt b0) (UInt8.toNat_lt b1) (UInt8.toNat_lt b2) (UInt8.toNat_lt b3)
        (UInt8.toNat_lt b4) (UInt8.toNat_lt b5) (UInt8.toNat_lt b6) (UInt8.toNat_lt b7) w (hcell 0 _ rfl) (hcell 1 _ rfl) (hcell 2 _ rfl) (hcell 3 _ rfl) (hcell 4 _ rfl) (hcell 5 _ rfl) (hcell 6 _ rfl) (hcell 7 _ rfl) hc).mono ?_
      rintro e w' ⟨rfl, hb⟩
      exact ⟨ret_int (by simp [leN]), hb⟩

end Go.Proofs.Ytolapeocdaknjaa
