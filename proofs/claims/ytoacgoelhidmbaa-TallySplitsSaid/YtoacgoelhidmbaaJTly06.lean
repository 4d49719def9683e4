/-
  Joined: CodeB, CodeC, CodeD.
-/
import Derived.Deep.QuietTactic
import Derived.BigQuiet
import Derived.RegionTactic
import Derived.Test.YtoacgoelhidmbaaJTly04
import Derived.Test.YtoacgoelhidmbaaJTly01
import Derived.LoopTactic
/-
  Layer 1's join: what a width of bytes encodes.
-/
namespace Go.Proofs.Ytoacgoelhidmbaa
open Go.RowKit
set_option linter.unusedVariables false
set_option linter.unusedSimpArgs false

/-- what bytes encode, least significant first -/
def leN : List UInt8 → Nat
  | [] => 0
  | b :: r => b.toNat + 256 * leN r

theorem or_zero_u64 (x : Int) (h0 : 0 ≤ x) (h1 : x < 18446744073709551616) : bits .or .u64 0 x = x := by
  rw [u64_or 0 x (by omega) (by omega) h0 h1]; simp; omega

theorem or_add_u64 (i : Nat) (x y m : Int) (hm : ((2 ^ i : Nat) : Int) = m) (hx0 : 0 ≤ x) (hx : x < m) (hy0 : 0 ≤ y) (hy : x + y * m < 18446744073709551616) : bits .or .u64 x (y * m) = x + y * m := by
  obtain ⟨a, rfl⟩ := Int.eq_ofNat_of_zero_le hx0
  obtain ⟨b, rfl⟩ := Int.eq_ofNat_of_zero_le hy0
  subst hm
  have hp := Nat.two_pow_add_eq_or_of_lt (i := i) (b := a)
  have e : ((b : Int) * ((2 ^ i : Nat) : Int)) = ((2 ^ i * b : Nat) : Int) := by rw [Nat.mul_comm]; exact (Int.natCast_mul _ _).symm
  rw [e] at hy ⊢
  generalize 2 ^ i = q at *
  have hx' : a < q := by omega
  rw [u64_or_nat a (q * b) (by omega) (by omega), Nat.or_comm, ← hp hx' b]
  omega

theorem wrap_u64_in (x : Int) (h0 : 0 ≤ x) (h1 : x < 18446744073709551616) : IntKind.u64.wrap x = x := by
  rw [IntKind.wrap_u64]; omega

theorem le1_eq (b0 : Nat) (h0 : b0 < 256) : bits .or .u64 0 (b0 : Int) = (b0 : Int) := or_zero_u64 _ (by omega) (by omega)

theorem le2_eq (b0 b1 : Nat) (h0 : b0 < 256) (h1 : b1 < 256) : bits .or .u64 (bits .or .u64 0 (b0 : Int)) ((b1 : Int) * 256) = b0 + 256 * b1 := by
  rw [or_zero_u64 _ (by omega) (by omega), or_add_u64 8 _ _ 256 rfl (by omega) (by omega) (by omega) (by omega)]
  omega

theorem le4_eq (b0 b1 b2 b3 : Nat) (h0 : b0 < 256) (h1 : b1 < 256) (h2 : b2 < 256) (h3 : b3 < 256) :
    bits .or .u64 (bits .or .u64 (bits .or .u64 0 (IntKind.u64.wrap (bits .or .u64 (b0 : Int) ((b1 : Int) * 256)))) ((b2 : Int) * 65536)) ((b3 : Int) * 16777216) = b0 + 256 * (b1 + 256 * (b2 + 256 * b3)) := by
  rw [or_add_u64 8 (b0 : Int) _ 256 rfl (by omega) (by omega) (by omega) (by omega), wrap_u64_in _ (by omega) (by omega), or_zero_u64 _ (by omega) (by omega),
    or_add_u64 16 _ _ 65536 rfl (by omega) (by omega) (by omega) (by omega), or_add_u64 24 _ _ 16777216 rfl (by omega) (by omega) (by omega) (by omega)]
  omega

theorem le8_eq (b0 b1 b2 b3 b4 b5 b6 b7 : Nat) (h0 : b0 < 256) (h1 : b1 < 256) (h2 : b2 < 256) (h3 : b3 < 256) (h4 : b4 < 256) (h5 : b5 < 256) (h6 : b6 < 256) (h7 : b7 < 256) :
    bits .or .u64 (bits .or .u64 (bits .or .u64 (bits .or .u64 (bits .or .u64 (bits .or .u64 (b0 : Int) ((b1 : Int) * 256)) ((b2 : Int) * 65536)) ((b3 : Int) * 16777216)) (IntKind.u64.wrap (bits .or .u64 (b4 : Int) ((b5 : Int) * 256) * 4294967296))) ((b6 : Int) * 281474976710656)) ((b7 : Int) * 72057594037927936)
      = b0 + 256 * (b1 + 256 * (b2 + 256 * (b3 + 256 * (b4 + 256 * (b5 + 256 * (b6 + 256 * b7)))))) := by
  rw [or_add_u64 8 (b0 : Int) _ 256 rfl (by omega) (by omega) (by omega) (by omega), or_add_u64 16 _ (b2 : Int) 65536 rfl (by omega) (by omega) (by omega) (by omega), or_add_u64 24 _ (b3 : Int) 16777216 rfl (by omega) (by omega) (by omega) (by omega),
    or_add_u64 8 (b4 : Int) _ 256 rfl (by omega) (by omega) (by omega) (by omega), wrap_u64_in _ (by omega) (by omega), or_add_u64 32 _ _ 4294967296 rfl (by omega) (by omega) (by omega) (by omega),
    or_add_u64 48 _ _ 281474976710656 rfl (by omega) (by omega) (by omega) (by omega), or_add_u64 56 _ _ 72057594037927936 rfl (by omega) (by omega) (by omega) (by omega)]
  omega

set_option maxRecDepth 100000 in
set_option maxHeartbeats 400000 in
theorem join1 (b off c : Nat) (b0 : Nat) (h0 : b0 < 256) (w : World)
    (k0 : w.cell? ⟨b, off, none⟩ = some (.int .u8 (b0 : Int))) (hc : 1 ≤ c) :
    Calls Try.prog 41 #[.slice (some ⟨b, off, none⟩) 1 c] w fun e w' => e = .returned (.int .u64 (b0 : Int)) ∧ Below w.heap.size w w' := by
  have E := Lib.hid (ret_int (k := .u64) (le1_eq b0 h0))
  go_enter Try.func41, Try.ntmps41
  go_wp2
  go_ret
  exact ⟨E.out, Below.refl _ _⟩

set_option maxRecDepth 100000 in
set_option maxHeartbeats 400000 in
theorem join2 (b off c : Nat) (b0 b1 : Nat) (h0 : b0 < 256) (h1 : b1 < 256) (w : World)
    (k0 : w.cell? ⟨b, off, none⟩ = some (.int .u8 (b0 : Int))) (k1 : w.cell? ⟨b, off + 1, none⟩ = some (.int .u8 (b1 : Int))) (hc : 2 ≤ c) :
    Calls Try.prog 41 #[.slice (some ⟨b, off, none⟩) 2 c] w fun e w' => e = .returned (.int .u64 (b0 + 256 * b1 : Int)) ∧ Below w.heap.size w w' := by
  have E := Lib.hid (ret_int (k := .u64) (le2_eq b0 b1 h0 h1))
  go_enter Try.func41, Try.ntmps41
  go_wp2
  go_ret
  exact ⟨E.out, Below.refl _ _⟩

set_option maxRecDepth 100000 in
set_option maxHeartbeats 400000 in
theorem join4 (b off c : Nat) (b0 b1 b2 b3 : Nat) (h0 : b0 < 256) (h1 : b1 < 256) (h2 : b2 < 256) (h3 : b3 < 256) (w : World)
    (k0 : w.cell? ⟨b, off, none⟩ = some (.int .u8 (b0 : Int))) (k1 : w.cell? ⟨b, off + 1, none⟩ = some (.int .u8 (b1 : Int)))
    (k2 : w.cell? ⟨b, off + 2, none⟩ = some (.int .u8 (b2 : Int))) (k3 : w.cell? ⟨b, off + 2 + 1, none⟩ = some (.int .u8 (b3 : Int))) (hc : 4 ≤ c) :
    Calls Try.prog 41 #[.slice (some ⟨b, off, none⟩) 4 c] w fun e w' => e = .returned (.int .u64 (b0 + 256 * (b1 + 256 * (b2 + 256 * b3)) : Int)) ∧ Below w.heap.size w w' := by
  have E := Lib.hid (ret_int (k := .u64) (le4_eq b0 b1 b2 b3 h0 h1 h2 h3))
  go_enter Try.func41, Try.ntmps41
  go_wp2
  go_quiet (fail)
  go_wp2
  go_ret
  exact ⟨E.out, below_drewN (Below.refl _ _) _⟩

set_option maxRecDepth 100000 in
set_option maxHeartbeats 400000 in
theorem join8 (b off c : Nat) (b0 b1 b2 b3 b4 b5 b6 b7 : Nat) (h0 : b0 < 256) (h1 : b1 < 256) (h2 : b2 < 256) (h3 : b3 < 256) (h4 : b4 < 256) (h5 : b5 < 256) (h6 : b6 < 256) (h7 : b7 < 256) (w : World)
    (k0 : w.cell? ⟨b, off, none⟩ = some (.int .u8 (b0 : Int))) (k1 : w.cell? ⟨b, off + 1, none⟩ = some (.int .u8 (b1 : Int)))
    (k2 : w.cell? ⟨b, off + 2, none⟩ = some (.int .u8 (b2 : Int))) (k3 : w.cell? ⟨b, off + 3, none⟩ = some (.int .u8 (b3 : Int)))
    (k4 : w.cell? ⟨b, off + 4, none⟩ = some (.int .u8 (b4 : Int))) (k5 : w.cell? ⟨b, off + 4 + 1, none⟩ = some (.int .u8 (b5 : Int)))
    (k6 : w.cell? ⟨b, off + 4 + 2, none⟩ = some (.int .u8 (b6 : Int))) (k7 : w.cell? ⟨b, off + 4 + 2 + 1, none⟩ = some (.int .u8 (b7 : Int))) (hc : 8 ≤ c) :
    Calls Try.prog 41 #[.slice (some ⟨b, off, none⟩) 8 c] w fun e w' => e = .returned (.int .u64 (b0 + 256 * (b1 + 256 * (b2 + 256 * (b3 + 256 * (b4 + 256 * (b5 + 256 * (b6 + 256 * b7)))))) : Int)) ∧ Below w.heap.size w w' := by
  have E := Lib.hid (ret_int (k := .u64) (le8_eq b0 b1 b2 b3 b4 b5 b6 b7 h0 h1 h2 h3 h4 h5 h6 h7))
  go_enter Try.func41, Try.ntmps41
  go_wp2
  go_quiet (fail)
  go_wp2
  go_quiet (fail)
  go_wp2
  go_ret
  exact ⟨E.out, below_drewN (Below.refl _ _) _⟩

theorem join_any (A : Option Addr) (n c : Nat) (l : List UInt8) (w : World) (h : Bytes8 w A n c l) (hw : isW n = true) :
    Calls Try.prog 41 #[.slice A n c] w fun e w' => e = .returned (.int .u64 (leN l : Int)) ∧ Below w.heap.size w w' := by
  have hn : n = 1 ∨ n = 2 ∨ n = 4 ∨ n = 8 := by have := isW_cases hw; omega
  obtain ⟨hl, hc, hm, hr⟩ := h
  obtain ⟨b, off, rfl, hb, hcell⟩ := hr.lit (by rw [u8s_length]; omega)
  rcases hn with rfl | rfl | rfl | rfl
  · match l, hl with
    | [b0], _ =>
      refine (join1 b off c b0.toNat (UInt8.toNat_lt b0) w (hcell 0 _ rfl) hc).mono ?_
      rintro e w' ⟨rfl, hb⟩
      exact ⟨ret_int (by simp [leN]), hb⟩
  · match l, hl with
    | [b0, b1], _ =>
      refine (join2 b off c b0.toNat b1.toNat (UInt8.toNat_lt b0) (UInt8.toNat_lt b1) w (hcell 0 _ rfl) (hcell 1 _ rfl) hc).mono ?_
      rintro e w' ⟨rfl, hb⟩
      exact ⟨ret_int (by simp [leN]), hb⟩
  · match l, hl with
    | [b0, b1, b2, b3], _ =>
      refine (join4 b off c b0.toNat b1.toNat b2.toNat b3.toNat (UInt8.toNat_lt b0) (UInt8.toNat_lt b1) (UInt8.toNat_lt b2) (UInt8.toNat_lt b3) w (hcell 0 _ rfl) (hcell 1 _ rfl) (hcell 2 _ rfl) (hcell 3 _ rfl) hc).mono ?_
      rintro e w' ⟨rfl, hb⟩
      exact ⟨ret_int (by simp [leN]), hb⟩
  · match l, hl with
    | [b0, b1, b2, b3, b4, b5, b6, b7], _ =>
      refine (join8 b off c b0.toNat b1.toNat b2.toNat b3.toNat b4.toNat b5.toNat b6.toNat b7.toNat (UInt8.toNat_lt b0) (UInt8.toNat_lt b1) (UInt8.toNat_lt b2) (UInt8.toNat_lt b3)
        (UInt8.toNat_lt b4) (UInt8.toNat_lt b5) (UInt8.toNat_lt b6) (UInt8.toNat_lt b7) w (hcell 0 _ rfl) (hcell 1 _ rfl) (hcell 2 _ rfl) (hcell 3 _ rfl) (hcell 4 _ rfl) (hcell 5 _ rfl) (hcell 6 _ rfl) (hcell 7 _ rfl) hc).mono ?_
      rintro e w' ⟨rfl, hb⟩
      exact ⟨ret_int (by simp [leN]), hb⟩

end Go.Proofs.Ytoacgoelhidmbaa

/-
  Layer 1's Get.
-/
namespace Go.Proofs.Ytoacgoelhidmbaa
open Go.RowKit
set_option linter.unusedVariables false
set_option linter.unusedSimpArgs false

def part (l : List UInt8) (i wd : Int) : List UInt8 := (l.drop i.toNat).take wd.toNat
def getE (l : List UInt8) (i wd : Int) : Int := if roomE l.length i wd = 0 then (if 9223372036854775808 ≤ leN (part l i wd) then 2 else 0) else roomE l.length i wd
def getN (l : List UInt8) (i wd : Int) : Int := if getE l i wd = 0 then (leN (part l i wd) : Int) else 0

theorem roomE_cases (n : Nat) (i wd : Int) : roomE n i wd = 1 ∨ roomE n i wd = 3 ∨ (roomE n i wd = 0 ∧ isW wd = true ∧ 0 ≤ i ∧ i + wd ≤ n) := by
  unfold roomE
  cases h : isW wd
  · simp
  · by_cases h2 : i < 0 ∨ (n : Int) - wd < i
    · simp [h2]
    · simp [h2]; omega

theorem leN_lt (l : List UInt8) : leN l < 256 ^ l.length := by
  induction l with
  | nil => simp [leN]
  | cons b r ih =>
    have := UInt8.toNat_lt b
    simp only [leN, List.length_cons, Nat.pow_succ]
    omega

theorem part_len {l : List UInt8} {i wd : Int} (h0 : 0 ≤ i) (h1 : 0 ≤ wd) (h : i + wd ≤ l.length) : (part l i wd).length = wd.toNat := by
  simp only [part, List.length_take, List.length_drop]; omega

set_option maxRecDepth 100000 in
set_option maxHeartbeats 400000 in
theorem Get_bad (A : Option Addr) (n c : Nat) (i wd : Int) (w : World) (hn : n ≤ 9223372036854775807) (hi : -9223372036854775808 ≤ i ∧ i ≤ 9223372036854775807) (r : Int) (hr : roomE n i wd = r) (h13 : r = 1 ∨ r = 3) :
    Calls Try.prog 38 #[.slice A n c, .int .i64 i, .int .i64 wd] w fun e w' => e = .returned (.tuple #[.int .i64 0, .int .i64 r]) ∧ w = w' := by
  have P := Lib.hid (place_any A n c i wd w hn hi r hr)
  clear hi hr
  rcases h13 with rfl | rfl
  all_goals go_enter Try.func38, Try.ntmps38
  all_goals go_wp2_with (go_at_call 40; refine (P.out).mono ?_; rintro e w' ⟨rfl, rfl⟩)
  all_goals go_ret2
  all_goals exact ⟨rfl, rfl⟩

theorem wrap64_neg (x : Nat) (h : 9223372036854775808 ≤ x) (h2 : x < 18446744073709551616) : wrap64 (x : Int) < 0 := by
  unfold wrap64; omega

set_option maxRecDepth 100000 in
set_option maxHeartbeats 400000 in
theorem Get_good (b off n c k : Nat) (wd : Int) (w : World) (x : Nat) (h : isW wd = true) (hk : k + wd ≤ n) (hc : n ≤ c) (hm : c ≤ 9223372036854775807)
    (hj : ∀ m : Nat, (m : Int) = wd → Calls Try.prog 41 #[.slice (some ⟨b, off + k, none⟩) m (c - k)] w fun e w' => e = .returned (.int .u64 (x : Int)) ∧ Below w.heap.size w w')
    (hx : x < 9223372036854775808) :
    Calls Try.prog 38 #[.slice (some ⟨b, off, none⟩) n c, .int .i64 k, .int .i64 wd] w fun e w' =>
      e = .returned (.tuple #[.int .i64 x, .int .i64 0]) ∧ Below w.heap.size w w' := by
  have P := Lib.hid (place_any (some ⟨b, off, none⟩) n c k wd w (by omega) (by rcases isW_cases h with h | h | h | h <;> omega) 0 (by
    simp only [roomE, h]; rcases isW_cases h with h | h | h | h <;> simp <;> omega))
  have J := Lib.hid hj
  clear hj
  rcases isW_cases h with rfl | rfl | rfl | rfl
  all_goals clear h
  all_goals go_enter Try.func38, Try.ntmps38
  all_goals go_wp2_with (go_at_call 40; refine (P.out).mono ?_; rintro e w' ⟨rfl, rfl⟩)
  all_goals refine (J.out _ rfl).mono ?_
  all_goals rintro e w' ⟨rfl, hb⟩
  all_goals go_wp2
  all_goals go_ret2
  all_goals exact ⟨rfl, hb⟩

set_option maxRecDepth 100000 in
set_option maxHeartbeats 400000 in
theorem Get_big (b off n c k : Nat) (wd : Int) (w : World) (x : Nat) (h : wd = 8) (hk : k + wd ≤ n) (hc : n ≤ c) (hm : c ≤ 9223372036854775807)
    (hj : ∀ m : Nat, (m : Int) = wd → Calls Try.prog 41 #[.slice (some ⟨b, off + k, none⟩) m (c - k)] w fun e w' => e = .returned (.int .u64 (x : Int)) ∧ Below w.heap.size w w')
    (hx : wrap64 (x : Int) < 0) :
    Calls Try.prog 38 #[.slice (some ⟨b, off, none⟩) n c, .int .i64 k, .int .i64 wd] w fun e w' =>
      e = .returned (.tuple #[.int .i64 0, .int .i64 2]) ∧ Below w.heap.size w w' := by
  subst h
  have P := Lib.hid (place_any (some ⟨b, off, none⟩) n c k 8 w (by omega) (by omega) 0 (by
    simp [roomE, isW]; omega))
  have J := Lib.hid hj
  clear hj
  go_enter Try.func38, Try.ntmps38
  go_wp2_with (go_at_call 40; refine (P.out).mono ?_; rintro e w' ⟨rfl, rfl⟩)
  refine (J.out _ rfl).mono ?_
  rintro e w' ⟨rfl, hb⟩
  go_wp2
  go_ret2
  exact ⟨rfl, hb⟩

theorem Get_any (A : Option Addr) (n c : Nat) (l : List UInt8) (i wd : Int) (w : World) (h : Bytes8 w A n c l) (hi : -9223372036854775808 ≤ i ∧ i ≤ 9223372036854775807) :
    Calls Try.prog 38 #[.slice A n c, .int .i64 i, .int .i64 wd] w fun e w' => e = .returned (.tuple #[.int .i64 (getN l i wd), .int .i64 (getE l i wd)]) ∧ Below w.heap.size w w' := by
  have hl := h.len
  rcases roomE_cases n i wd with hr | hr | ⟨hr, hw, h0, h1⟩
  · refine (Get_bad A n c i wd w h.le hi 1 hr (.inl rfl)).mono ?_
    rintro e w' ⟨rfl, rfl⟩
    exact ⟨by simp [getN, getE, hl, hr], Below.refl _ _⟩
  · refine (Get_bad A n c i wd w h.le hi 3 hr (.inr rfl)).mono ?_
    rintro e w' ⟨rfl, rfl⟩
    exact ⟨by simp [getN, getE, hl, hr], Below.refl _ _⟩
  · have hb : 1 ≤ wd ∧ wd ≤ 8 := by rcases isW_cases hw with h | h | h | h <;> omega
    obtain ⟨k, rfl⟩ := Int.eq_ofNat_of_zero_le h0
    have hm := h.most
    have hc := h.cap
    obtain ⟨b, off, rfl, hbl, hcell⟩ := h.row.lit (by rw [u8s_length]; omega)
    have hpl : (part l k wd).length = wd.toNat := part_len h0 (by omega) (by omega)
    have hB : ∀ m : Nat, (m : Int) = wd → Bytes8 w (some ⟨b, off + k, none⟩) m (c - k) (part l k wd) := fun m hmw =>
      ⟨by rw [hpl]; omega, by omega, by omega, by
        have hr2 := (h.row.drop k).take wd.toNat
        rw [u8s_drop, u8s_take] at hr2
        simpa [part, Addr.add_lit] using hr2⟩
    have hJ : ∀ m : Nat, (m : Int) = wd → Calls Try.prog 41 #[.slice (some ⟨b, off + k, none⟩) m (c - k)] w fun e w' => e = .returned (.int .u64 (leN (part l k wd) : Int)) ∧ Below w.heap.size w w' := fun m hmw =>
      join_any _ m (c - k) _ w (hB m hmw) (by rw [hmw]; exact hw)
    by_cases hx : leN (part l k wd) < 9223372036854775808
    · refine (Get_good b off n c k wd w (leN (part l k wd)) hw h1 hc hm hJ hx).mono ?_
      rintro e w' ⟨rfl, hb⟩
      refine ⟨?_, hb⟩
      have e0 : getE l k wd = 0 := by simp [getE, hl, hr]; omega
      simp [getN, e0]
    · have h8 : wd = 8 := by
        have hlt := leN_lt (part l k wd)
        rw [hpl] at hlt
        rcases isW_cases hw with h | h | h | h
        all_goals subst h
        all_goals simp at hlt
        all_goals omega
      have hx2 : leN (part l k wd) < 18446744073709551616 := by
        have hlt := leN_lt (part l k wd)
        rw [hpl, h8] at hlt
        simpa [h8] using hlt
      refine (Get_big b off n c k wd w (leN (part l k wd)) h8 h1 hc hm hJ (wrap64_neg _ (by omega) hx2)).mono ?_
      rintro e w' ⟨rfl, hb⟩
      refine ⟨?_, hb⟩
      have e0 : getE l k wd = 2 := by simp [getE, hl, hr]; omega
      simp [getN, e0]

end Go.Proofs.Ytoacgoelhidmbaa

/-
  The reference's Get.
-/
namespace Go.Proofs.Ytoacgoelhidmbaa
open Go.RowKit
set_option linter.unusedVariables false
set_option linter.unusedSimpArgs false

theorem leN_drop_le (l : List UInt8) (j : Nat) : leN (l.drop j) ≤ leN l := by
  induction j generalizing l with
  | zero => simp
  | succ j ih =>
    cases l with
    | nil => simp [leN]
    | cons b r => have := ih r; simp only [List.drop_succ_cons, leN]; omega

theorem leN_drop_step (l : List UInt8) (j : Nat) (h : j < l.length) : leN (l.drop j) = l[j].toNat + 256 * leN (l.drop (j + 1)) := by
  rw [List.drop_eq_getElem_cons h]; rfl

set_option maxRecDepth 100000 in
set_option maxHeartbeats 400000 in
theorem refGet_bad (A : Option Addr) (n c : Nat) (i wd : Int) (w : World) (hn : n ≤ 9223372036854775807) (hi : -9223372036854775808 ≤ i ∧ i ≤ 9223372036854775807) (r : Int) (hr : roomE n i wd = r) (h13 : r = 1 ∨ r = 3) :
    Calls Try.prog 34 #[.slice A n c, .int .i64 i, .int .i64 wd] w fun e w' => e = .returned (.tuple #[.int .i64 0, .int .i64 r]) ∧ w = w' := by
  have P := Lib.hid (room_any A n c i wd w hn hi r hr)
  clear hi hr
  rcases h13 with rfl | rfl
  all_goals go_enter Try.func34, Try.ntmps34
  all_goals go_wp2_with (go_at_call 39; refine (P.out).mono ?_; rintro e w' ⟨rfl, rfl⟩)
  all_goals go_ret2
  all_goals exact ⟨rfl, rfl⟩

set_option maxRecDepth 100000 in
set_option maxHeartbeats 400000 in
theorem refGet_big (b off n c k v : Nat) (w : World) (hk : (k : Int) + 8 ≤ n) (hm : n ≤ 9223372036854775807)
    (hc7 : w.cell? ⟨b, off + (k + 7), none⟩ = some (.int .u8 (v : Int))) (hv : 128 ≤ (v : Int)) :
    Calls Try.prog 34 #[.slice (some ⟨b, off, none⟩) n c, .int .i64 k, .int .i64 8] w fun e w' => e = .returned (.tuple #[.int .i64 0, .int .i64 2]) ∧ w = w' := by
  have P := Lib.hid (room_any (some ⟨b, off, none⟩) n c k 8 w (by omega) (by omega) 0 (by simp [roomE, isW]; omega))
  go_enter Try.func34, Try.ntmps34
  go_wp2_with (go_at_call 39; refine (P.out).mono ?_; rintro e w' ⟨rfl, rfl⟩)
  go_ret2
  exact ⟨rfl, rfl⟩

set_option maxRecDepth 100000 in
set_option maxHeartbeats 400000 in
theorem refGet_good (b off n c k : Nat) (wd : Int) (p : List UInt8) (w : World) (hw : isW wd = true) (hk : (k : Int) + wd ≤ n) (hm : n ≤ 9223372036854775807)
    (hp : (p.length : Int) = wd) (hcell : ∀ j (h : j < p.length), w.cell? ⟨b, off + (k + j), none⟩ = some (.int .u8 (p[j].toNat : Int))) (hx : leN p < 9223372036854775808)
    (htop : wd = 8 → ∃ v : Nat, w.cell? ⟨b, off + (k + 7), none⟩ = some (.int .u8 (v : Int)) ∧ v < 128) :
    Calls Try.prog 34 #[.slice (some ⟨b, off, none⟩) n c, .int .i64 k, .int .i64 wd] w fun e w' => e = .returned (.tuple #[.int .i64 (leN p), .int .i64 0]) ∧ w = w' := by
  have hb : 1 ≤ wd ∧ wd ≤ 8 := by rcases isW_cases hw with h | h | h | h <;> omega
  obtain ⟨hb1, hb2⟩ := hb
  have P := Lib.hid (room_any (some ⟨b, off, none⟩) n c k wd w (by omega) (by omega) 0 (by simp [roomE, hw]; omega))
  have HC := Lib.hid hcell
  have HP := Lib.hid hp
  have HX0 := Lib.hid hx
  clear hcell hp hw hx
  obtain ⟨W, hW⟩ : ∃ W : Int, W = wd := ⟨_, rfl⟩
  have HW := Lib.hid hW
  have hW1 : 1 ≤ W := by omega
  have hW2 : k + W ≤ n := by omega
  have HPW : Hid ((p.length : Int) = W) := by rw [hW]; exact HP.out
  clear hW
  by_cases h8 : wd = 8
  case' pos =>
    obtain ⟨v, hc7, hv7'⟩ := htop h8
    have hv7 : (v : Int) < 128 := by omega
    clear hv7'
    subst h8
    clear htop
  case' neg =>
    have hne : (wd == 8) = false := by simpa using h8
    clear htop h8
  all_goals
    go_enter Try.func34, Try.ntmps34
    go_wp2_with (go_at_call 39; refine (P.out).mono ?_; rintro e w' ⟨rfl, rfl⟩)
    go_loop [9, 10] (fun a i => ∃ q : Int, -1 ≤ q ∧ q < W ∧ i = .int .i64 q ∧ a = .int .i64 (leN (p.drop (q + 1).toNat))) (fun _ i => (intOf i + 1).toNat)
    case atStart =>
      have h0 : p.drop (W - 1 + 1).toNat = [] := List.drop_eq_nil_of_le (by have := HPW.out; omega)
      exact ⟨W - 1, by omega, by omega, by simp [HW.out], by rw [h0]; rfl⟩
    case round =>
      obtain ⟨q, hq1, hq2, rfl, rfl⟩ := hrel
      by_cases hneg : q < 0
      · have Hq : Hid (((leN (p.drop (q + 1).toNat) : Nat) : Int) = (leN p : Int)) := by
          rw [show (q + 1).toNat = 0 by omega]
          rfl
        go_wp2
        go_ret2
        exact ⟨by rw [← Hq.out]; rfl, rfl⟩
      · obtain ⟨m, rfl⟩ := Int.eq_ofNat_of_zero_le (show 0 ≤ q by omega)
        have hmlt : m < p.length := by have := HPW.out; omega
        have hs := leN_drop_step p m hmlt
        have hle := leN_drop_le p m
        have hv := UInt8.toNat_lt p[m]
        have hc := HC.out m hmlt
        rw [show ((m : Int) + 1).toNat = m + 1 by omega]
        generalize hX : leN (p.drop (m + 1)) = X at *
        generalize hV : (p[m]).toNat = V at *
        have HX := Lib.hid hX
        have HS := Lib.hid hs
        have hb3 : X * 256 + V < 9223372036854775808 := by have := HX0.out; omega
        clear hX hV hs hle
        go_wp2
        go_round
        case rel => exact ⟨(m : Int) - 1, by omega, by omega, rfl, by rw [show ((m : Int) - 1 + 1).toNat = m by omega, HS.out]; go_num⟩
        case measure => simp [intOf]

theorem refGet_any (A : Option Addr) (n c : Nat) (l : List UInt8) (i wd : Int) (w : World) (h : Bytes8 w A n c l) (hi : -9223372036854775808 ≤ i ∧ i ≤ 9223372036854775807) :
    Calls Try.prog 34 #[.slice A n c, .int .i64 i, .int .i64 wd] w fun e w' => e = .returned (.tuple #[.int .i64 (getN l i wd), .int .i64 (getE l i wd)]) ∧ w = w' := by
  have hl := h.len
  rcases roomE_cases n i wd with hr | hr | ⟨hr, hw, h0, h1⟩
  · refine (refGet_bad A n c i wd w h.le hi 1 hr (.inl rfl)).mono ?_
    rintro e w' ⟨rfl, rfl⟩
    exact ⟨by simp [getN, getE, hl, hr], rfl⟩
  · refine (refGet_bad A n c i wd w h.le hi 3 hr (.inr rfl)).mono ?_
    rintro e w' ⟨rfl, rfl⟩
    exact ⟨by simp [getN, getE, hl, hr], rfl⟩
  · have hb : 1 ≤ wd ∧ wd ≤ 8 := by rcases isW_cases hw with h | h | h | h <;> omega
    obtain ⟨k, rfl⟩ := Int.eq_ofNat_of_zero_le h0
    have hm := h.most
    have hc := h.cap
    obtain ⟨b, off, rfl, hbl, hcell⟩ := h.row.lit (by rw [u8s_length]; omega)
    have hpl : (part l k wd).length = wd.toNat := part_len h0 (by omega) (by omega)
    have hC : ∀ j (h : j < (part l k wd).length), w.cell? ⟨b, off + (k + j), none⟩ = some (.int .u8 ((part l k wd)[j].toNat : Int)) := fun j hj => by
      have := hcell (k + j) _ (u8s_at l (k + j) (by omega))
      simpa [part] using this
    by_cases hx : leN (part l k wd) < 9223372036854775808
    · refine (refGet_good b off n c k wd (part l k wd) w hw h1 h.le (by omega) hC hx (fun h8 => ?_)).mono ?_
      · subst h8
        have h7 : 7 < (part l k 8).length := by omega
        refine ⟨_, hC 7 h7, ?_⟩
        generalize hp : part l k 8 = p at *
        match p, hpl with
        | [b0, b1, b2, b3, b4, b5, b6, b7], _ =>
          simp only [leN] at hx
          simp only [List.getElem_cons_succ, List.getElem_cons_zero]
          omega
      · rintro e w' ⟨rfl, rfl⟩
        refine ⟨?_, rfl⟩
        have e0 : getE l k wd = 0 := by simp [getE, hl, hr]; omega
        simp [getN, e0]
    · have h8 : wd = 8 := by
        have hlt := leN_lt (part l k wd)
        rw [hpl] at hlt
        rcases isW_cases hw with h | h | h | h
        all_goals subst h
        all_goals simp at hlt
        all_goals omega
      subst h8
      have h7 : 7 < (part l k 8).length := by omega
      have e0 : getE l k 8 = 2 := by simp [getE, hl, hr]; omega
      refine (refGet_big b off n c k _ w h1 h.le (hC 7 h7) ?_).mono ?_
      · generalize hp : part l k 8 = p at *
        match p, hpl with
        | [b0, b1, b2, b3, b4, b5, b6, b7], _ =>
          simp only [leN] at hx
          simp only [List.getElem_cons_succ, List.getElem_cons_zero]
          have := UInt8.toNat_lt b0; have := UInt8.toNat_lt b1; have := UInt8.toNat_lt b2; have := UInt8.toNat_lt b3
          have := UInt8.toNat_lt b4; have := UInt8.toNat_lt b5; have := UInt8.toNat_lt b6
          omega
      · rintro e w' ⟨rfl, rfl⟩
        refine ⟨?_, rfl⟩
        simp [getN, e0]

end Go.Proofs.Ytoacgoelhidmbaa
