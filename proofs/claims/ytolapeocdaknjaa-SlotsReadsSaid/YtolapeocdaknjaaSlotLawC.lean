/-
  The walk of SlotsReads.
-/
import Derived.Test.YtolapeocdaknjaaSlotD
import Derived.Test.YtolapeocdaknjaaSlotF
import Derived.Test.YtolapeocdaknjaaMemI
namespace Go.Proofs.Ytolapeocdaknjaa
open Go.RowKit
set_option linter.unusedVariables false
set_option linter.unusedSimpArgs false

set_option maxRecDepth 100000 in
set_option maxHeartbeats 800000 in
/-- equal lists are the same -/
theorem refSlSame_any (A : Option Addr) (n c : Nat) (A2 : Option Addr) (c2 : Nat) (l : List Slt) (w : World) (h : Trs w A n c l) (h2 : Trs w A2 n c2 l) :
    Calls Try.prog 11 #[.slice A n c, .slice A2 n c2] w fun e w' => e = .returned (.bool true) ∧ Below w.heap.size w w' := by
  have hle : n ≤ 9223372036854775807 := Nat.le_trans h.cap h.most
  have HC : Hid (∀ k, k < n → ∃ b off b2 off2 x0 x1 x2, A = some ⟨b, off, none⟩ ∧ A2 = some ⟨b2, off2, none⟩ ∧ ∀ W, Below w.heap.size w W → (W.cell? ⟨b, off + k * 3, none⟩ = some (.int .i64 x0) ∧ W.cell? ⟨b, off + k * 3 + 1, none⟩ = some (.int .i64 x1) ∧ W.cell? ⟨b, off + k * 3 + 2, none⟩ = some (.int .i64 x2)) ∧ W.cell? ⟨b2, off2 + k * 3, none⟩ = some (.int .i64 x0) ∧ W.cell? ⟨b2, off2 + k * 3 + 1, none⟩ = some (.int .i64 x1) ∧ W.cell? ⟨b2, off2 + k * 3 + 2, none⟩ = some (.int .i64 x2)) := by
    intro k hk
    obtain ⟨b, off, x0, x1, x2, e1, g1, g2, g3, g4, g5⟩ := trs_at h hk (by rw [h.len]; exact hk)
    obtain ⟨b2, off2, y0, y1, y2, f1, f2, f3, f4, f5, f6⟩ := trs_at h2 hk (by rw [h.len]; exact hk)
    rw [g2] at f3
    cases f3
    exact ⟨b, off, b2, off2, x0, x1, x2, e1, f1, fun W hW => ⟨⟨(hW.cell (p := ⟨b, off + k * 3, none⟩) g1).trans g3, (hW.cell (p := ⟨b, off + k * 3 + 1, none⟩) g1).trans g4, (hW.cell (p := ⟨b, off + k * 3 + 2, none⟩) g1).trans g5⟩, (hW.cell (p := ⟨b2, off2 + k * 3, none⟩) f2).trans f4, (hW.cell (p := ⟨b2, off2 + k * 3 + 1, none⟩) f2).trans f5, (hW.cell (p := ⟨b2, off2 + k * 3 + 2, none⟩) f2).trans f6⟩⟩
  clear h h2
  go_enter Try.func11, Try.ntmps11
  go_wp2
  go_loopw [5] (fun i wr => ∃ k : Nat, k ≤ n ∧ i = .int .i64 k ∧ Hid (Below w.heap.size w wr)) (fun i _ => n - (intOf i).toNat)
  case atStart => exact ⟨0, by omega, rfl, Below.refl _ _⟩
  case round =>
    obtain ⟨k, hk, rfl, hbr⟩ := hrel
    by_cases hlt : k < n
    · obtain ⟨b, off, b2, off2, x0, x1, x2, rfl, rfl, hcs⟩ := HC.out k hlt
      obtain ⟨⟨d0, d1, d2⟩, d3, d4, d5⟩ := hcs _ hbr.out
      clear hcs
      go_wp2
      go_quiet (fail)
      go_wp2
      go_roundw
      case rel => exact ⟨k + 1, by omega, by go_num, below_drewN hbr.out _⟩
      case measure => simp [intOf]; omega
    · obtain rfl : k = n := by omega
      go_wp2
      go_ret
      exact ⟨rfl, hbr.out⟩

set_option maxRecDepth 100000 in
set_option maxHeartbeats 1600000 in
theorem slotsreads_walk (A : Option Addr) (n c : Nat) (l0 : List UInt8) (w : World) (h : Bytes8 w A n c l0) :
    Calls Try.prog 4 #[.slice A n c] w fun e w' => e = .returned (.bool true) ∧ Below w.heap.size w w' := by
  have hn2 := h.le
  obtain ⟨q, l, hB, hq, hcase⟩ := cut_bytes 600 h
  have LV : Hid (∀ W, Below w.heap.size w W → Calls Try.prog 6 #[] W fun e w' => e = .returned (.bool true) ∧ Below w.heap.size w w') := fun W hW => (lives10_any W).mono fun e w' ⟨h1, h2⟩ => ⟨h1, hW.trans (h2.mono hW.size)⟩
  obtain ⟨x, m, F, P1, P2, P3⟩ : ∃ (x : Int) (m : Nat) (F : List Slt), (Calls Try.prog 9 #[.slice A q c] w fun e w' => ∃ A' c', e = .returned (.tuple #[.slice A' m c', .int .i64 x]) ∧ Trs w' A' m c' F ∧ Below w.heap.size w w') ∧
      (∀ W, Below w.heap.size w W → Calls Try.prog 10 #[.slice A q c] W fun e w' => ∃ A' c', e = .returned (.tuple #[.slice A' m c', .int .i64 x]) ∧ Trs w' A' m c' F ∧ Below W.heap.size W w' ∧ Below w.heap.size w w') ∧
      (∀ W A1 c1 A2 c2, Below w.heap.size w W → Trs W A1 m c1 F → Trs W A2 m c2 F → Calls Try.prog 11 #[.slice A1 m c1, .slice A2 m c2] W fun e w' => e = .returned (.bool true) ∧ Below w.heap.size w w') := by
    refine ⟨readSE10 l, (readSL10 l).length, readSL10 l, ?_, fun W hW => ?_, fun W A1 c1 A2 c2 hW h1 h2 => ?_⟩
    · refine (SlRead_any A q c l w hB).mono ?_
      rintro e w' ⟨A', m, c', rfl, hT, hb⟩
      obtain rfl := hT.len
      exact ⟨A', c', rfl, hT, hb⟩
    · refine (refSlRead_any A q c l W (hB.below hW)).mono ?_
      rintro e w' ⟨A', m, c', rfl, hT, hb⟩
      obtain rfl := hT.len
      exact ⟨A', c', rfl, hT, hb, hW.trans (hb.mono hW.size)⟩
    · exact (refSlSame_any A1 _ c1 A2 c2 _ W h1 h2).mono fun e w' ⟨g1, g2⟩ => ⟨g1, hW.trans (g2.mono hW.size)⟩
  have HP1 := Lib.hid P1
  have HP2 := Lib.hid P2
  have HP3 := Lib.hid P3
  clear h hB P1 P2 P3
  rcases hcase with ⟨h1, h3, rfl⟩ | ⟨h1, rfl⟩
  all_goals go_enter Try.func4, Try.ntmps4
  all_goals go_wp2_with (first
    | (go_at_call 9; (with_reducible refine (HP1.out).mono ?_); rintro e w1 ⟨A1, c1, rfl, hT1, hb1⟩; have HT1 := Lib.hid hT1; clear hT1)
    | (go_at_call 10; (with_reducible refine (HP2.out _ hb1).mono ?_); rintro e w2 ⟨A2, c2, rfl, hT2, hk2, hb2⟩; have HT2 := Lib.hid hT2; have HT3 := Lib.hid (HT1.out.below hk2); clear hT2 hk2)
    | (go_at_call 11; (with_reducible refine (HP3.out _ _ _ _ _ hb2 HT3.out HT2.out).mono ?_); rintro e w3 ⟨rfl, hb3⟩)
    | (go_at_call 6; (with_reducible refine (LV.out _ (by first | assumption | exact hb3.drew)).mono ?_); rintro e w5 ⟨rfl, hb5⟩))
  all_goals go_ret
  all_goals exact ⟨rfl, hb5⟩

end Go.Proofs.Ytolapeocdaknjaa
