/-
  The walk of CrcTable.
-/
import Derived.Test.YtjgbojgabgffgaaCrcLawA
import Derived.Deep.RegionHeld3
namespace Go.Proofs.Ytjgbojgabgffgaa
open Go.RowKit
set_option linter.unusedVariables false
set_option linter.unusedSimpArgs false

set_option maxRecDepth 100000 in
set_option maxHeartbeats 800000 in
theorem table_walk (x : Int) (w : World) (_hs : -9223372036854775808 ≤ x ∧ x ≤ 9223372036854775807) :
    Calls Try.prog 4 #[.int .i64 x] w fun e w' => e = .returned (.bool true) ∧ Below w.heap.size w w' := by
  have hand := i64_and255 x
  obtain ⟨k, hk⟩ := Int.eq_ofNat_of_zero_le (show 0 ≤ x % 256 by omega)
  have hk2 : k < 256 := by omega
  rw [hk] at hand
  have hk0 : (0 : Int) ≤ (k : Int) := by omega
  have hk1 : (k : Int) < 256 := by omega
  clear hk
  have T : Hid (∀ W : World, Calls Try.prog 12 #[] W fun e w' => ∃ b off c, e = .returned (.slice (some ⟨b, off, none⟩) 256 c) ∧ 256 ≤ c ∧ w'.cell? ⟨b, off + k, none⟩ = some (.int .i64 (Crc.it 8 k : Int)) ∧ Below W.heap.size W w') := by
    intro W
    refine (Table_any W).mono ?_
    rintro e w' ⟨A', c, rfl, hI, hb⟩
    obtain ⟨b, off, rfl, _, hc⟩ := hI.row.lit (by simp [i64s_length])
    exact ⟨b, off, c, rfl, hI.cap, hc k _ (by rw [i64s_at _ k (by simpa using hk2)]; simp), hb⟩
  have S : Hid (∀ W, Calls Try.prog 13 #[.int .i64 (k : Int)] W fun e w' => e = .returned (.int .i64 (Crc.it 8 k : Int)) ∧ W = w') := fun W => refStep_any k (by omega) W
  generalize Crc.it 8 k = z at *
  go_enter Try.func4, Try.ntmps4
  go_wp2_with (first
    | (go_at_call 12; refine (T.out _).mono ?_; rintro e w1 ⟨b, off, c, rfl, hcc, hcell, hb1⟩))
  go_region_held3 (fun w' => w'.cell? ⟨b, off + k, none⟩ = some (.int .i64 (z : Int))) (first | go_keep | (rw [hb4.cell (p := ⟨b, off + k, none⟩) (cell_lt ‹_›)]; assumption))
    (first
    | (go_at_call 13; refine (S.out _).mono ?_; rintro e w' ⟨rfl, rfl⟩)
    | (go_at_call 7; refine (lives_any _).mono ?_; rintro e w4 ⟨rfl, hb4⟩))
  go_wp2
  go_ret
  exact ⟨rfl, hb1.drew.trans (hb4.mono hb1.size)⟩

end Go.Proofs.Ytjgbojgabgffgaa
