/-
  Layer 2's Table; the reference's Sum and More; the document's example.
-/
import Derived.Test.YtjgbojgabgffgaaCrcC
import Derived.OwnWalk
import Derived.Lib.SlBytesConst
namespace Go.Proofs.Ytjgbojgabgffgaa
open Go.RowKit
set_option linter.unusedVariables false
set_option linter.unusedSimpArgs false

set_option maxHeartbeats 400000 in
theorem refMore_bad (sum : Int) (A : Option Addr) (n c : Nat) (w : World) (hs : sum < 0 ∨ 4294967295 < sum) :
    Calls Try.prog 11 #[.int .i64 sum, .slice A n c] w fun e w' => e = .returned (.int .i64 0) ∧ w = w' := by
  rcases hs with hs | hs
  all_goals go_enter Try.func11, Try.ntmps11
  all_goals go_wp2
  all_goals go_ret
  all_goals exact ⟨rfl, rfl⟩

set_option maxHeartbeats 800000 in
theorem refMore_good (s : Nat) (A : Option Addr) (n c : Nat) (l : List UInt8) (w : World) (h : Bytes8 w A n c l) (hs : s < 4294967296) :
    Calls Try.prog 11 #[.int .i64 (s : Int), .slice A n c] w fun e w' => e = .returned (.int .i64 (Crc.more s l : Int)) ∧ w = w' := by
  have hm := h.le
  have hx0 : bits .xor .i64 (s : Int) 4294967295 = ((s ^^^ Crc.ones : Nat) : Int) := i64_xor_nat s 4294967295 (by omega) (by omega)
  have hz := Crc.xor_lt hs Crc.ones_lt
  have HZ : Hid (Crc.feed (s ^^^ Crc.ones) l ^^^ Crc.ones = Crc.more s l) := rfl
  generalize s ^^^ Crc.ones = z at *
  have END : Hid (∀ m : Nat, m < 4294967296 → bits .xor .i64 (m : Int) 4294967295 = ((m ^^^ Crc.ones : Nat) : Int)) := fun m hm => i64_xor_nat m 4294967295 (by omega) (by omega)
  by_cases hp : 0 < n
  · obtain ⟨b, off, rfl, hb, hcell⟩ := h.row.lit (by rw [u8s_length, h.len]; omega)
    have HC := Lib.hid hcell
    have HL := Lib.hid h.len
    clear h hcell
    go_enter Try.func11, Try.ntmps11
    go_wp2
    go_loop [5, 6] (fun r i => ∃ k m : Nat, k ≤ n ∧ i = .int .i64 k ∧ r = .int .i64 m ∧ m < 4294967296 ∧ Hid (m = Crc.feed z (l.take k))) (fun _ i => n - (intOf i).toNat)
    case atStart => exact ⟨0, z, by omega, rfl, rfl, hz, rfl⟩
    case round =>
      obtain ⟨k, m, hk, rfl, rfl, hmm, HM⟩ := hrel
      by_cases hlt : k < n
      · have hkl : k < l.length := by have := HL.out; omega
        have hcu := UInt8.toNat_lt l[k]
        have hst : Hid (Crc.it 8 (m ^^^ l[k].toNat) = Crc.feed z (l.take (k + 1))) := by rw [Crc.feed_take_succ _ _ _ hkl, ← HM.out]; rfl
        have hc0 : w.cell? ⟨b, off + k, none⟩ = some (.int .u8 (l[k].toNat : Int)) := HC.out k _ (u8s_at l k hkl)
        have hul := Crc.upd_lt hmm l[k]
        unfold Crc.upd at hul
        generalize l[k].toNat = u at *
        have hxl : m ^^^ u < 4294967296 := Crc.xor_lt hmm (by omega)
        have e1 := i64_xor_nat m u (by omega) (by omega)
        have S := Lib.hid (fun W => refStep_any (m ^^^ u) hxl W)
        generalize m ^^^ u = x at *
        generalize Crc.it 8 x = ix at *
        go_wp2_with (go_at_call 13; refine (S.out _).mono ?_; rintro e w' ⟨rfl, rfl⟩)
        go_round
        case rel => exact ⟨k + 1, ix, by omega, by go_num, rfl, hul, hst⟩
        case measure => simp [intOf]; omega
      · obtain rfl : k = n := by omega
        have HM2 : Hid (m = Crc.feed z l) := by
          have := HM.out
          rwa [List.take_of_length_le (by have := HL.out; omega)] at this
        have hx := END.out m hmm
        go_wp2
        go_ret
        exact ⟨ret_int (by rw [← HZ.out, HM2.out]), rfl⟩
  · obtain rfl : n = 0 := by omega
    obtain rfl : l = [] := List.eq_nil_of_length_eq_zero h.len
    have hx := END.out z hz
    clear h
    go_enter Try.func11, Try.ntmps11
    go_wp2
    refine wp_loop_rounds 1 ?_
    rw [rounds_succ]
    go_wp2
    go_ret
    exact ⟨ret_int (by rw [← HZ.out]; rfl), rfl⟩

set_option maxHeartbeats 400000 in
theorem refSum_any (A : Option Addr) (n c : Nat) (l : List UInt8) (w : World) (h : Bytes8 w A n c l) :
    Calls Try.prog 9 #[.slice A n c] w fun e w' => e = .returned (.int .i64 (Crc.sum l : Int)) ∧ w = w' := by
  have M := Lib.hid (refMore_good 0 A n c l w h (by omega))
  have E : Hid (Crc.more 0 l = Crc.sum l) := by
    show Crc.feed (0 ^^^ Crc.ones) l ^^^ Crc.ones = _
    rw [Nat.zero_xor]
    rfl
  clear h
  generalize Crc.more 0 l = x at *
  go_enter Try.func9, Try.ntmps9
  go_wp2_with (go_at_call 11; refine (M.out).mono ?_; rintro e w' ⟨rfl, rfl⟩)
  go_ret
  exact ⟨ret_int (by rw [E.out]), rfl⟩

set_option maxRecDepth 100000 in
set_option maxHeartbeats 800000 in
theorem Table_any (w : World) :
    Calls Try.prog 12 #[] w fun e w' => ∃ A c, e = .returned (.slice A 256 c) ∧ Ints w' A 256 c ((List.range 256).map fun m => (Crc.it 8 m : Int)) ∧ Below w.heap.size w w' := by
  have IX : Hid (∀ k : Nat, k < 256 → ∀ W, (Instr.index 36 (.agg (tab 256).toArray) (.int .i64 (k : Int))).run Try.prog W = .ok (.int .u32 (Crc.it 8 k : Int)) W) := by
    intro k hk W
    have h := tab_at 256 k hk
    rw [if_pos hk] at h
    exact run_index_ints W 36 34 256 .u32 .i64 (tab 256) k _ Try.underlying36 Try.underlying34 (by kernel_rfl) hk h
  go_enter Try.func12, Try.ntmps12
  go_wp2_with (go_at_call 14; refine (eight_any _).mono ?_; rintro e w1 ⟨rfl, hb1⟩)
  go_loopw [1, 5] (fun v i wr => ∃ k : Nat, k ≤ 256 ∧ i = .int .i64 k ∧ Hid (wr.ownsRow w.heap.size 3 1 v k (i64s ((List.range k).map fun m => (Crc.it 8 m : Int)))) ∧ w.heap.size ≤ wr.heap.size ∧ Below w.heap.size w wr) (fun _ i _ => 256 - (intOf i).toNat)
  case atStart => exact ⟨0, by omega, rfl, World.ownsRow_nil _ _ _ _, hb1.size, hb1⟩
  case round =>
    obtain ⟨k, hk, rfl, hown, hs, hbel⟩ := hrel
    by_cases hlt : k < 256
    · have hix := IX.out k hlt
      have hil := Crc.it_lt 8 (n := k) (by omega)
      generalize hZ : Crc.it 8 k = ix at *
      have HZ := Lib.hid hZ
      clear hZ
      go_wp2_with (at_builtin; refine wpList_append_new _ rfl _ _ 28 rfl w.heap.size 3 3 (.int .i64 0) 8 Try.underlying28 (by kernel_rfl) rfl u1 k _ rfl hown hs [.int .i64 (ix : Int)] 1 1 rfl rfl (by simp [Value.oneCell']) (by omega) (by omega) ?_; intro v' w2 hown' hs' hb')
      go_roundw
      case rel =>
        refine ⟨k + 1, by omega, by go_num, ?_, hs', hbel.trans (hb'.mono (Nat.le_refl _))⟩
        have h := hown'.out
        rw [show i64s ((List.range (k + 1)).map fun m => (Crc.it 8 m : Int)) = i64s ((List.range k).map fun m => (Crc.it 8 m : Int)) ++ [.int .i64 (ix : Int)] by rw [List.range_succ, List.map_append, i64s_append, ← HZ.out]; rfl]
        exact h
      case measure => simp [intOf]; omega
    · obtain rfl : k = 256 := by omega
      obtain ⟨A', c', hv, hB⟩ := Ints.of_own hown.out
      have HV := Lib.hid hv
      clear hv
      go_wp2
      go_ret
      exact ⟨A', c', by rw [HV.out]; rfl, hB, hbel⟩

set_option maxHeartbeats 800000 in
theorem lives_any (w : World) : Calls Try.prog 7 #[] w fun e w' => e = .returned (.bool true) ∧ Below w.heap.size w w' := by
  have E : Hid (Crc.sum [[49, 50, 51, 52, 53, 54, 55, 56, 57]].flatten = 3808858755) := by unfold Hid; decide +kernel
  have P : Hid (Calls Try.prog 8 #[.slice (some ⟨w.heap.size + 1, 0, none⟩) 1 1] ((w.alloc (.cells #[.int .u8 49, .int .u8 50, .int .u8 51, .int .u8 52, .int .u8 53, .int .u8 54, .int .u8 55, .int .u8 56, .int .u8 57] 5 (9, 10))).alloc (.cells #[.slice (some ⟨w.heap.size, 0, none⟩) 9 9] 22)) fun e w' =>
      e = .returned (.int .i64 3808858755) ∧ Below w.heap.size w w') := by
    refine (Sum_any (some ⟨w.heap.size + 1, 0, none⟩) 1 1 [[49, 50, 51, 52, 53, 54, 55, 56, 57]] _ ?_).mono ?_
    · have := Pcs.one (Bytes8.new w [49, 50, 51, 52, 53, 54, 55, 56, 57] 5 (9, 10) (by simp)) 22
      simpa [u8s] using this
    · rintro e w' ⟨rfl, hb⟩
      rw [E.out]
      exact ⟨rfl, (((Below.refl _ _).alloc (Nat.le_refl _) _).alloc (by simp) _).trans (hb.mono (by simp; omega))⟩
  have cv := fun (w : World) (C : Array Value) (n c : Nat) => Lib.run_convert_bytes_const (P := Try.prog) w 22 5 C n c Try.underlying22 Try.underlying5
  go_enter Try.func7, Try.ntmps7
  go_wp2_with (go_at_call 8; refine (P.out).mono ?_; rintro e w1 ⟨rfl, hb⟩)
  go_ret
  exact ⟨rfl, hb⟩

end Go.Proofs.Ytjgbojgabgffgaa
