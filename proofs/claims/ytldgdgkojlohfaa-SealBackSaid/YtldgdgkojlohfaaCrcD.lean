/-
  Layer 2's Table; the reference's Sum and More; the document's example.
-/
import Derived.Test.YtldgdgkojlohfaaCrcC
import Derived.OwnWalk
import Derived.Lib.SlBytesConst
namespace Go.Proofs.Ytldgdgkojlohfaa
open Go.RowKit
set_option linter.unusedVariables false
set_option linter.unusedSimpArgs false

set_option maxHeartbeats 400000 in
theorem refMore_bad (sum : Int) (A : Option Addr) (n c : Nat) (w : World) (hs : sum < 0 ∨ 4294967295 < sum) :
    Calls Try.prog 32 #[.int .i64 sum, .slice A n c] w fun e w' => e = .returned (.int .i64 0) ∧ w = w' := by
  rcases hs with hs | hs
  all_goals go_enter Try.func32, Try.ntmps32
  all_goals go_wp2
  all_goals go_ret
  all_goals exact ⟨rfl, rfl⟩

set_option maxHeartbeats 800000 in
theorem refMore_good (s : Nat) (A : Option Addr) (n c : Nat) (l : List UInt8) (w : World) (h : Bytes8 w A n c l) (hs : s < 4294967296) :
    Calls Try.prog 32 #[.int .i64 (s : Int), .slice A n c] w fun e w' => e = .returned (.int .i64 (Crc.more s l : Int)) ∧ w = w' := by
  have hm := h.le
  have hx0 : bits .xor .i64 (s : Int) 4294967295 = ((s ^^^ Crc.ones : Nat) : Int) := i64_xor_nat s 4294967295 (by omega) (by omega)
  have hz := Crc.xor_lt hs Crc.ones_lt
  have HZ : Hid (Crc.feed (s ^^^ Crc.ones) l ^^^ Crc.ones = Crc.more s l) := rfl
  generalize s ^^^ Crc.ones = z at *
  have END : Hid (∀ m : Nat, m < 4294967296 → bits .xor .i64 (m : Int) 4294967295 = ((m ^^^ Crc.ones : Nat) : Int)) := fun m hm => i64_xor_nat m 4294967295 (by omega) (by omega)
  by_cases hp : 0 < n
  · obtain ⟨b, off, rfl, hb, hcell⟩ := h.row.lit (by rw [u8s_length, h.len]; omega)
    have HC := Lib.hid hcell
    have HL := Lib.hid h.len
    clear h hcell
    go_enter Try.func32, Try.ntmps32
    go_wp2
    go_loop [5, 6] (fun r i => ∃ k m : Nat, k ≤ n ∧ i = .int .i64 k ∧ r = .int .i64 m ∧ m < 4294967296 ∧ Hid (m = Crc.feed z (l.take k))) (fun _ i => n - (intOf i).toNat)
    case atStart => exact ⟨0, z, by omega, rfl, rfl, hz, rfl⟩
    case round =>
      obtain ⟨k, m, hk, rfl, rfl, hmm, HM⟩ := hrel
      by_cases hlt : k < n
      · have hkl : k < l.length := by have := HL.out; omega
        have hcu := UInt8.toNat_lt l[k]
        have hst : Hid (Crc.it 8 (m ^^^ l[k].toNat) = Crc.feed z (l.take (k + 1))) := by rw [Crc.feed_take_succ _ _ _ hkl, ← HM.out]; rfl
        have hc0 : w.cell? ⟨b, off + k, none⟩ = some (.int .u8 (l[k].toNat : Int)) := HC.out k _ (u8s_at l k hkl)
        have hul := Crc.upd_lt hmm l[k]
        unfold Crc.upd at hul
        generalize l[k].toNat = u at *
        have hxl : m ^^^ u < 4294967296 := Crc.xor_lt hmm (by omega)
        have e1 := i64_xor_nat m u (by omega) (by omega)
        have S := Lib.hid (fun W => refStep_any (m ^^^ u) hxl W)
        generalize m ^^^ u = x at *
        generalize Crc.it 8 x = ix at *
        go_wp2_with (go_at_call 44; refine (S.out _).mono ?_; rintro e w' ⟨rfl, rfl⟩)
        go_round
        case rel => exact ⟨k + 1, ix, by omega, by go_num, rfl, hul, hst⟩
        case measure => simp [intOf]; omega
      · obtain rfl : k = n := by omega
        have HM2 : Hid (m = Crc.feed z l) := by
          have := HM.out
          rwa [List.take_of_length_le (by have := HL.out; omega)] at this
        have hx := END.out m hmm
        go_wp2
        go_ret
        exact ⟨ret_int (by rw [← HZ.out, HM2.out]), rfl⟩
  · obtain rfl : n = 0 := by omega
    obtain rfl : l = [] := List.eq_nil_of_length_eq_zero h.len
    have hx := END.out z hz
    clear h
    go_enter Try.func32, Try.ntmps32
    go_wp2
    refine wp_loop_rounds 1 ?_
    rw [rounds_succ]
    go_wp2
    go_ret
    exact ⟨ret_int (by rw [← HZ.out]; rfl), rfl⟩

set_option maxHeartbeats 400000 in
theorem refSum_any (A : Option Addr) (n c : Nat) (l : List UInt8) (w : World) (h : Bytes8 w A n c l) :
    Calls Try.prog 23 #[.slice A n c] w fun e w' => e = .returned (.int .i64 (Crc.sum l : Int)) ∧ w = w' := by
  have M := Lib.hid (refMore_good 0 A n c l w h (by omega))
  have E : Hid (Crc.more 0 l = Crc.sum l) := by
    show Crc.feed (0 ^^^ Crc.ones) l ^^^ Crc.ones = _
    rw [Nat.zero_xor]
    rfl
  clear h
  generalize Crc.more 0 l = x at *
  go_enter Try.func23, Try.ntmps23
  go_wp2_with (go_at_call 32; refine (M.out).mono ?_; rintro e w' ⟨rfl, rfl⟩)
  go_ret
  exact ⟨ret_int (by rw [E.out]), rfl⟩

end Go.Proofs.Ytldgdgkojlohfaa
