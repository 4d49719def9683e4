/-
  Layer 1's Get.
-/
import Derived.Test.YtolapeocdaknjaaCodeB
namespace Go.Proofs.Ytolapeocdaknjaa
open Go.RowKit
set_option linter.unusedVariables false
set_option linter.unusedSimpArgs false

def part (l : List UInt8) (i wd : Int) : List UInt8 := (l.drop i.toNat).take wd.toNat
def getE (l : List UInt8) (i wd : Int) : Int := if roomE l.length i wd = 0 then (if 9223372036854775808 ≤ leN (part l i wd) then 2 else 0) else roomE l.length i wd
def getN (l : List UInt8) (i wd : Int) : Int := if getE l i wd = 0 then (leN (part l i wd) : Int) else 0

theorem roomE_cases (n : Nat) (i wd : Int) : roomE n i wd = 1 ∨ roomE n i wd = 3 ∨ (roomE n i wd = 0 ∧ isW wd = true ∧ 0 ≤ i ∧ i + wd ≤ n) := by
  unfold roomE
  cases h : isW wd
  · simp
  · by_cases h2 : i < 0 ∨ (n : Int) - wd < i
    · simp [h2]
    · simp [h2]; omega

theorem leN_lt (l : List UInt8) : leN l < 256 ^ l.length := by
  induction l with
  | nil => simp [leN]
  | cons b r ih =>
    have := UInt8.toNat_lt b
    simp only [leN, List.length_cons, Nat.pow_succ]
    omega

theorem part_len {l : List UInt8} {i wd : Int} (h0 : 0 ≤ i) (h1 : 0 ≤ wd) (h : i + wd ≤ l.length) : (part l i wd).length = wd.toNat := by
  simp only [part, List.length_take, List.length_drop]; omega

set_option maxHeartbeats 400000 in
theorem Get_bad (A : Option Addr) (n c : Nat) (i wd : Int) (w : World) (hn : n ≤ 9223372036854775807) (hi : -9223372036854775808 ≤ i ∧ i ≤ 9223372036854775807) (r : Int) (hr : roomE n i wd = r) (h13 : r = 1 ∨ r = 3) :
    Calls Try.prog 17 #[.slice A n c, .int .i64 i, .int .i64 wd] w fun e w' => e = .returned (.tuple #[.int .i64 0, .int .i64 r]) ∧ w = w' := by
  have P := Lib.hid (place_any A n c i wd w hn hi r hr)
  clear hi hr
  rcases h13 with rfl | rfl
  all_goals go_enter Try.func17, Try.ntmps17
  all_goals go_wp2_with (go_at_call 23; refine (P.out).mono ?_; rintro e w' ⟨rfl, rfl⟩)
  all_goals go_ret2
  all_goals exact ⟨rfl, rfl⟩

theorem wrap64_neg (x : Nat) (h : 9223372036854775808 ≤ x) (h2 : x < 18446744073709551616) : wrap64 (x : Int) < 0 := by
  unfold wrap64; omega

set_option maxHeartbeats 400000 in
theorem Get_good (b off n c k : Nat) (wd : Int) (w : World) (x : Nat) (h : isW wd = true) (hk : k + wd ≤ n) (hc : n ≤ c) (hm : c ≤ 9223372036854775807)
    (hj : ∀ m : Nat, (m : Int) = wd → Calls Try.prog 30 #[.slice (some ⟨b, off + k, none⟩) m (c - k)] w fun e w' => e = .returned (.int .u64 (x : Int)) ∧ Below w.heap.size w w')
    (hx : x < 9223372036854775808) :
    Calls Try.prog 17 #[.slice (some ⟨b, off, none⟩) n c, .int .i64 k, .int .i64 wd] w fun e w' =>
      e = .returned (.tuple #[.int .i64 x, .int .i64 0]) ∧ Below w.heap.size w w' := by
  have P := Lib.hid (place_any (some ⟨b, off, none⟩) n c k wd w (by omega) (by rcases isW_cases h with h | h | h | h <;> omega) 0 (by
    simp only [roomE, h]; rcases isW_cases h with h | h | h | h <;> simp <;> omega))
  have J := Lib.hid hj
  clear hj
  rcases isW_cases h with rfl | rfl | rfl | rfl
  all_goals clear h
  all_goals go_enter Try.func17, Try.ntmps17
  all_goals go_wp2_with (go_at_call 23; refine (P.out).mono ?_; rintro e w' ⟨rfl, rfl⟩)
  all_goals refine (J.out _ rfl).mono ?_
  all_goals rintro e w' ⟨rfl, hb⟩
  all_goals go_wp2
  all_goals go_ret2
  all_goals exact ⟨rfl, hb⟩

set_option maxHeartbeats 400000 in
theorem Get_big (b off n c k : Nat) (wd : Int) (w : World) (x : Nat) (h : wd = 8) (hk : k + wd ≤ n) (hc : n ≤ c) (hm : c ≤ 9223372036854775807)
    (hj : ∀ m : Nat, (m : Int) = wd → Calls Try.prog 30 #[.slice (some ⟨b, off + k, none⟩) m (c - k)] w fun e w' => e = .returned (.int .u64 (x : Int)) ∧ Below w.heap.size w w')
    (hx : wrap64 (x : Int) < 0) :
    Calls Try.prog 17 #[.slice (some ⟨b, off, none⟩) n c, .int .i64 k, .int .i64 wd] w fun e w' =>
      e = .returned (.tuple #[.int .i64 0, .int .i64 2]) ∧ Below w.heap.size w w' := by
  subst h
  have P := Lib.hid (place_any (some ⟨b, off, none⟩) n c k 8 w (by omega) (by omega) 0 (by
    simp [roomE, isW]; omega))
  have J := Lib.hid hj
  clear hj
  go_enter Try.func17, Try.ntmps17
  go_wp2_with (go_at_call 23; refine (P.out).mono ?_; rintro e w' ⟨rfl, rfl⟩)
  refine (J.out _ rfl).mono ?_
  rintro e w' ⟨rfl, hb⟩
  go_wp2
  go_ret2
  exact ⟨rfl, hb⟩

theorem Get_any (A : Option Addr) (n c : Nat) (l : List UInt8) (i wd : Int) (w : World) (h : Bytes8 w A n c l) (hi : -9223372036854775808 ≤ i ∧ i ≤ 9223372036854775807) :
    Calls Try.prog 17 #[.slice A n c, .int .i64 i, .int .i64 wd] w fun e w' => e = .returned (.tuple #[.int .i64 (getN l i wd), .int .i64 (getE l i wd)]) ∧ Below w.heap.size w w' := by
  have hl := h.len
  rcases roomE_cases n i wd with hr | hr | ⟨hr, hw, h0, h1⟩
  · refine (Get_bad A n c i wd w h.le hi 1 hr (.inl rfl)).mono ?_
    rintro e w' ⟨rfl, rfl⟩
    exact ⟨by simp [getN, getE, hl, hr], Below.refl _ _⟩
  · refine (Get_bad A n c i wd w h.le hi 3 hr (.inr rfl)).mono ?_
    rintro e w' ⟨rfl, rfl⟩
    exact ⟨by simp [getN, getE, hl, hr], Below.refl _ _⟩
  · have hb : 1 ≤ wd ∧ wd ≤ 8 := by rcases isW_cases hw with h | h | h | h <;> omega
    obtain ⟨k, rfl⟩ := Int.eq_ofNat_of_zero_le h0
    have hm := h.most
    have hc := h.cap
    obtain ⟨b, off, rfl, hbl, hcell⟩ := h.row.lit (by rw [u8s_length]; omega)
    have hpl : (part l k wd).length = wd.toNat := part_len h0 (by omega) (by omega)
    have hB : ∀ m : Nat, (m : Int) = wd → Bytes8 w (some ⟨b, off + k, none⟩) m (c - k) (part l k wd) := fun m hmw =>
      ⟨by rw [hpl]; omega, by omega, by omega, by
        have hr2 := (h.row.drop k).take wd.toNat
        rw [u8s_drop, u8s_take] at hr2
        simpa [part, Addr.add_lit] using hr2⟩
    have hJ : ∀ m : Nat, (m : Int) = wd → Calls Try.prog 30 #[.slice (some ⟨b, off + k, none⟩) m (c - k)] w fun e w' => e = .returned (.int .u64 (leN (part l k wd) : Int)) ∧ Below w.heap.size w w' := fun m hmw =>
      join_any _ m (c - k) _ w (hB m hmw) (by rw [hmw]; exact hw)
    by_cases hx : leN (part l k wd) < 9223372036854775808
    · refine (Get_good b off n c k wd w (leN (part l k wd)) hw h1 hc hm hJ hx).mono ?_
      rintro e w' ⟨rfl, hb⟩
      refine ⟨?_, hb⟩
      have e0 : getE l k wd = 0 := by simp [getE, hl, hr]; omega
      simp [getN, e0]
    · have h8 : wd = 8 := by
        have hlt := leN_lt (part l k wd)
        rw [hpl] at hlt
        rcases isW_cases hw with h | h | h | h
        all_goals subst h
        all_goals simp at hlt
        all_goals omega
      have hx2 : leN (part l k wd) < 18446744073709551616 := by
        have hlt := leN_lt (part l k wd)
        rw [hpl, h8] at hlt
        simpa [h8] using hlt
      refine (Get_big b off n c k wd w (leN (part l k wd)) h8 h1 hc hm hJ (wrap64_neg _ (by omega) hx2)).mono ?_
      rintro e w' ⟨rfl, hb⟩
      refine ⟨?_, hb⟩
      have e0 : getE l k wd = 2 := by simp [getE, hl, hr]; omega
      simp [getN, e0]

end Go.Proofs.Ytolapeocdaknjaa
