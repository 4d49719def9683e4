/-
  The walk of SlotsPuts.
-/
import Derived.Test.YtolapeocdaknjaaSlotD
import Derived.Test.YtolapeocdaknjaaSlotE
namespace Go.Proofs.Ytolapeocdaknjaa
open Go.RowKit
set_option linter.unusedVariables false
set_option linter.unusedSimpArgs false

set_option maxRecDepth 100000 in
set_option maxHeartbeats 1600000 in
theorem slotsputs_walk (A : Option Addr) (n c : Nat) (l : List Slt) (w : World) (h : Trs w A n c l) (hb : ∀ q ∈ l, (-9223372036854775808 ≤ q.1 ∧ q.1 ≤ 9223372036854775807) ∧ (-9223372036854775808 ≤ q.2.1 ∧ q.2.1 ≤ 9223372036854775807) ∧ (-9223372036854775808 ≤ q.2.2 ∧ q.2.2 ≤ 9223372036854775807)) :
    Calls Try.prog 3 #[.slice A n c] w fun e w' => e = .returned (.bool true) ∧ Below w.heap.size w w' := by
  have hbd : ∀ q ∈ l, sltBd q := hb
  have hle : n ≤ 9223372036854775807 := Nat.le_trans h.cap h.most
  have LV : Hid (∀ W, Below w.heap.size w W → Calls Try.prog 6 #[] W fun e w' => e = .returned (.bool true) ∧ Below w.heap.size w w') := fun W hW => (lives10_any W).mono fun e w' ⟨h1, h2⟩ => ⟨h1, hW.trans (h2.mono hW.size)⟩
  by_cases hn : n ≤ 100
  · obtain ⟨x, z, P1, P2⟩ : ∃ (x : Int) (z : ByteArray), (∀ W, Below w.heap.size w W → Calls Try.prog 7 #[.slice A n c] W fun e w' => ∃ A' m c', e = .returned (.tuple #[.slice A' m c', .int .i64 x]) ∧ (∀ W', Below w'.heap.size w' W' → (convert 24 9 (.slice A' m c')).run Try.prog W' = .ok (.string z) W') ∧ Below w.heap.size w w') ∧
        (∀ W, Below w.heap.size w W → Calls Try.prog 8 #[.slice A n c] W fun e w' => ∃ A' m c', e = .returned (.tuple #[.slice A' m c', .int .i64 x]) ∧ (∀ W', Below w'.heap.size w' W' → (convert 24 9 (.slice A' m c')).run Try.prog W' = .ok (.string z) W') ∧ Below W.heap.size W w' ∧ Below w.heap.size w w') :=
      ⟨putSE10 l, ⟨(putSB10 l).toArray⟩, fun W hW => (SlPut_any A n c l W (h.below hW) hbd).mono fun e w' hp => by
          obtain ⟨A', m, c', h1, h2, h3⟩ := hp.put
          exact ⟨A', m, c', h1, fun W' hW' => run_str (h2.below hW'), hW.trans (h3.mono hW.size)⟩,
        fun W hW => (refSlPut_any A n c l W (h.below hW)).mono fun e w' ⟨A', m, c', h1, h2, h3⟩ => ⟨A', m, c', h1, fun W' hW' => run_str (h2.below hW'), h3, hW.trans (h3.mono hW.size)⟩⟩
    have HP1 := Lib.hid P1
    have HP2 := Lib.hid P2
    clear h P1 P2 hb hbd
    go_enter Try.func3, Try.ntmps3
    go_wp2_with (first
      | (go_at_call 7; (with_reducible refine (HP1.out _ (Below.refl _ _)).mono ?_); rintro e w1 ⟨A1, m1, c1, rfl, hc1, hb1⟩; have HC1 := Lib.hid hc1; clear hc1)
      | (go_at_call 8; (with_reducible refine (HP2.out _ hb1).mono ?_); rintro e w2 ⟨A2, m2, c2, rfl, hc2, hk2, hb2⟩; have cv1 := HC1.out _ hk2; have cv2 := hc2 _ (Below.refl _ _); clear hc2)
      | (go_at_call 6; (with_reducible refine (LV.out _ (by first | assumption | exact hb2.drew)).mono ?_); rintro e w5 ⟨rfl, hb5⟩))
    go_ret
    exact ⟨rfl, hb5⟩
  · clear h hb hbd
    go_enter Try.func3, Try.ntmps3
    go_wp2_with (go_at_call 6; (with_reducible refine (LV.out _ (Below.refl _ _)).mono ?_); rintro e w5 ⟨rfl, hb5⟩)
    go_ret
    exact ⟨rfl, hb5⟩

end Go.Proofs.Ytolapeocdaknjaa
