/-
  The reference's Put; both Zero.
-/
import Derived.Test.YtolapeocdaknjaaCodeF
import Derived.Test.YtolapeocdaknjaaMemB
namespace Go.Proofs.Ytolapeocdaknjaa
open Go.RowKit
set_option linter.unusedVariables false
set_option linter.unusedSimpArgs false

def zeroB (l : List UInt8) : Bool := l.all (· == 0)

theorem zeroB_take {l : List UInt8} {k : Nat} (h : zeroB (l.take k) = true) (hk : k < l.length) : zeroB (l.take (k + 1)) = (l[k] == 0) := by
  rw [List.take_succ_eq_append_getElem hk]
  simp only [zeroB, List.all_append] at *
  rw [h]
  simp

theorem zeroB_false {l : List UInt8} {k : Nat} (hk : k < l.length) (h : l[k] ≠ 0) : zeroB l = false := by
  simp only [zeroB, List.all_eq_false]
  exact ⟨l[k], List.getElem_mem _, by simpa using h⟩

set_option maxHeartbeats 400000 in
theorem Zero_any (A : Option Addr) (n c : Nat) (l : List UInt8) (w : World) (h : Bytes8 w A n c l) (r : Bool) (hz : zeroB l = r) :
    Calls Try.prog 18 #[.slice A n c] w fun e w' => e = .returned (.bool r) ∧ w = w' := by
  obtain ⟨hl, hcap, hmost, hr⟩ := h
  have HL := Lib.hid hl
  have HZ := Lib.hid hz
  have hn : n ≤ 9223372036854775807 := by omega
  by_cases hp : 0 < n
  · obtain ⟨b, off, rfl, hb, hcell⟩ := hr.lit (by rw [u8s_length]; omega)
    have HC := Lib.hid hcell
    clear hl hz hr hcell
    go_enter Try.func18, Try.ntmps18
    go_wp2
    go_loop [7] (fun i => ∃ k : Nat, k ≤ n ∧ i = .int .i64 k ∧ Hid (zeroB (l.take k) = true)) (fun i => n - (intOf i).toNat)
    case atStart => exact ⟨0, by omega, rfl, rfl⟩
    case round =>
      obtain ⟨k, hk, rfl, hzk⟩ := hrel
      by_cases hlt : k < n
      · have hkl : k < l.length := by have := HL.out; omega
        have hc := HC.out k _ (u8s_at l k hkl)
        by_cases h0 : l[k] = 0
        · have hz1 : Hid (zeroB (l.take (k + 1)) = true) := by
            rw [zeroB_take hzk.out hkl, h0]; rfl
          have hc0 : w.cell? ⟨b, off + k, none⟩ = some (.int .u8 0) := by rw [hc, h0]; rfl
          clear hc h0
          go_wp2
          go_round
          case rel => exact ⟨k + 1, by omega, by go_num, hz1⟩
          case measure => simp [intOf]; omega
        · have hf : zeroB l = false := zeroB_false hkl h0
          obtain rfl : false = r := by rw [← HZ.out, hf]
          have hne : ((l[k].toNat : Int) != 0) = true := by
            rw [bne_iff_ne]
            intro he
            exact h0 (UInt8.toNat_inj.1 (by simpa using he))
          generalize l[k].toNat = v at *
          clear h0 hf
          go_wp2
          go_ret
          exact ⟨rfl, rfl⟩
      · have ht : zeroB l = true := by
          have := hzk.out
          rwa [List.take_of_length_le (by have := HL.out; omega)] at this
        obtain rfl : true = r := by rw [← HZ.out, ht]
        clear ht
        go_wp2
        go_ret
        exact ⟨rfl, rfl⟩
  · obtain rfl : n = 0 := by omega
    obtain rfl : l = [] := List.eq_nil_of_length_eq_zero hl
    obtain rfl : true = r := by rw [← hz]; rfl
    clear hl hz hr
    go_enter Try.func18, Try.ntmps18
    go_wp2
    refine wp_loop_rounds 1 ?_
    rw [rounds_succ]
    go_wp2
    go_ret
    exact ⟨rfl, rfl⟩

set_option maxHeartbeats 400000 in
theorem refZero_any (A : Option Addr) (n c : Nat) (l : List UInt8) (w : World) (h : Bytes8 w A n c l) (r : Bool) (hz : zeroB l = r) :
    Calls Try.prog 21 #[.slice A n c] w fun e w' => e = .returned (.bool r) ∧ w = w' := by
  obtain ⟨hl, hcap, hmost, hr⟩ := h
  have HL := Lib.hid hl
  have HZ := Lib.hid hz
  have hn : n ≤ 9223372036854775807 := by omega
  by_cases hp : 0 < n
  · obtain ⟨b, off, rfl, hb, hcell⟩ := hr.lit (by rw [u8s_length]; omega)
    have HC := Lib.hid hcell
    clear hl hz hr hcell
    go_enter Try.func21, Try.ntmps21
    go_wp2
    go_loop [3] (fun i => ∃ k : Nat, k ≤ n ∧ i = .int .i64 k ∧ Hid (zeroB (l.take k) = true)) (fun i => n - (intOf i).toNat)
    case atStart => exact ⟨0, by omega, rfl, rfl⟩
    case round =>
      obtain ⟨k, hk, rfl, hzk⟩ := hrel
      by_cases hlt : k < n
      · have hkl : k < l.length := by have := HL.out; omega
        have hc := HC.out k _ (u8s_at l k hkl)
        by_cases h0 : l[k] = 0
        · have hz1 : Hid (zeroB (l.take (k + 1)) = true) := by
            rw [zeroB_take hzk.out hkl, h0]; rfl
          have hc0 : w.cell? ⟨b, off + k, none⟩ = some (.int .u8 0) := by rw [hc, h0]; rfl
          clear hc h0
          go_wp2
          go_round
          case rel => exact ⟨k + 1, by omega, by go_num, hz1⟩
          case measure => simp [intOf]; omega
        · have hf : zeroB l = false := zeroB_false hkl h0
          obtain rfl : false = r := by rw [← HZ.out, hf]
          have hne : ((l[k].toNat : Int) != 0) = true := by
            rw [bne_iff_ne]
            intro he
            exact h0 (UInt8.toNat_inj.1 (by simpa using he))
          generalize l[k].toNat = v at *
          clear h0 hf
          go_wp2
          go_ret
          exact ⟨rfl, rfl⟩
      · have ht : zeroB l = true := by
          have := hzk.out
          rwa [List.take_of_length_le (by have := HL.out; omega)] at this
        obtain rfl : true = r := by rw [← HZ.out, ht]
        clear ht
        go_wp2
        go_ret
        exact ⟨rfl, rfl⟩
  · obtain rfl : n = 0 := by omega
    obtain rfl : l = [] := List.eq_nil_of_length_eq_zero hl
    obtain rfl : true = r := by rw [← hz]; rfl
    clear hl hz hr
    go_enter Try.func21, Try.ntmps21
    go_wp2
    refine wp_loop_rounds 1 ?_
    rw [rounds_succ]
    go_wp2
    go_ret
    exact ⟨rfl, rfl⟩

end Go.Proofs.Ytolapeocdaknjaa
