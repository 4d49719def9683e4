/-
  Joined: PolR, PolT.
-/
import Derived.Test.YtccippplpcjaiaaJRunB09
import Derived.Test.YtccippplpcjaiaaJRunB04
/-
  Layer 18: the reference's Count, Latest.
-/
namespace Go.Proofs.Ytccippplpcjaiaa
open Go.RowKit
set_option linter.unusedVariables false
set_option linter.unusedSimpArgs false

/-- mapping k of a slice, where it lies -/
theorem trs_at18 {w : World} {A : Option Addr} {n c : Nat} {l : List (Int × Int × Int)} (h : Trs w A n c l) {k : Nat} (hk : k < n) : ∃ b off x0 x1 x2, A = some ⟨b, off, none⟩ ∧ b < w.heap.size ∧ l.getD k (0, 0, 0) = (x0, x1, x2) ∧ k < l.length ∧ w.cell? ⟨b, off + k * 3, none⟩ = some (.int .i64 x0) ∧ w.cell? ⟨b, off + k * 3 + 1, none⟩ = some (.int .i64 x1) ∧ w.cell? ⟨b, off + k * 3 + 2, none⟩ = some (.int .i64 x2) := by
  obtain ⟨b, off, rfl, hb, hc⟩ := h.lit (by omega)
  have hkl : k < l.length := by have := h.len; omega
  obtain ⟨h0, h1, h2⟩ := hc k hkl
  rw [getD18 hkl]
  exact ⟨b, off, _, _, _, rfl, hb, rfl, hkl, h0, h1, h2⟩
end Go.Proofs.Ytccippplpcjaiaa

/-
  Layer 18: the reference's SameMaps.
-/
namespace Go.Proofs.Ytccippplpcjaiaa
open Go.RowKit
set_option linter.unusedVariables false
set_option linter.unusedSimpArgs false

set_option maxRecDepth 100000 in
set_option maxHeartbeats 1600000 in
theorem refSameMaps_any18 (A A2 : Option Addr) (n c n2 c2 : Nat) (l l2 : List (Int × Int × Int)) (w : World) (h : Trs w A n c l) (h2 : Trs w A2 n2 c2 l2) (r : Bool) (hr : decide (l = l2) = r) :
    Calls Try.prog 14 #[.slice A n c, .slice A2 n2 c2] w fun e w' => e = .returned (.bool r) ∧ Below w.heap.size w w' := by
  have hle : n ≤ 9223372036854775807 := Nat.le_trans h.cap h.most
  have hle2 : n2 ≤ 9223372036854775807 := Nat.le_trans h2.cap h2.most
  have hl := h.len
  have hl2 := h2.len
  by_cases hn : n = n2
  · subst hn
    have HR := Lib.hid hr
    have HC := Lib.hid (fun (k : Nat) (hk : k < n) => trs_at18 h hk)
    have HC2 := Lib.hid (fun (k : Nat) (hk : k < n) => trs_at18 h2 hk)
    clear h h2 hr
    go_enter Try.func14, Try.ntmps14
    go_wp2
    go_loopw [5] (fun i wr => ∃ k : Nat, k ≤ n ∧ i = .int .i64 k ∧ Hid (l.take k = l2.take k) ∧ Hid (Below w.heap.size w wr)) (fun i _ => n - (intOf i).toNat)
    case atStart => exact ⟨0, by omega, rfl, rfl, Below.refl _ _⟩
    case round =>
      obtain ⟨k, hk, rfl, hT, hbel⟩ := hrel
      by_cases hlt : k < n
      · obtain ⟨b, off, x0, x1, x2, rfl, hb, hx, hkl, d0, d1, d2⟩ := HC.out k hlt
        obtain ⟨b2, off2, y0, y1, y2, rfl, hb2, hy, hkl2, e0, e1, e2⟩ := HC2.out k hlt
        rw [getD18 hkl] at hx
        rw [getD18 hkl2] at hy
        have c0 := (hbel.out.cell (p := ⟨b, off + k * 3, none⟩) hb).trans d0
        have c1 := (hbel.out.cell (p := ⟨b, off + k * 3 + 1, none⟩) hb).trans d1
        have c2 := (hbel.out.cell (p := ⟨b, off + k * 3 + 2, none⟩) hb).trans d2
        have g0 := (hbel.out.cell (p := ⟨b2, off2 + k * 3, none⟩) hb2).trans e0
        have g1 := (hbel.out.cell (p := ⟨b2, off2 + k * 3 + 1, none⟩) hb2).trans e1
        have g2 := (hbel.out.cell (p := ⟨b2, off2 + k * 3 + 2, none⟩) hb2).trans e2
        clear d0 d1 d2 e0 e1 e2
        by_cases hxy : x0 = y0 ∧ x1 = y1 ∧ x2 = y2
        · obtain ⟨rfl, rfl, rfl⟩ := hxy
          have hT1 : Hid (l.take (k + 1) = l2.take (k + 1)) := by
            rw [List.take_succ_eq_append_getElem hkl, List.take_succ_eq_append_getElem hkl2, hT.out, hx, hy]; rfl
          clear hx hy
          go_wp2
          go_region
          all_goals go_wp2
          all_goals go_roundw
          all_goals first
            | exact ⟨k + 1, by omega, by push_cast; rfl, hT1, hbel.out.drew⟩
            | (simp only [intOf]; omega)
        · obtain rfl : false = r := by
            rw [← HR.out]
            symm
            apply decide_eq_false
            intro h
            subst h
            rw [hx] at hy
            exact hxy (by simpa using hy)
          clear hx hy
          have hc3 : ¬ x0 = y0 ∨ (x0 = y0 ∧ ¬ x1 = y1) ∨ (x0 = y0 ∧ x1 = y1 ∧ ¬ x2 = y2) := by
            by_cases a : x0 = y0
            · by_cases b : x1 = y1
              · by_cases c : x2 = y2
                · exact absurd ⟨a, b, c⟩ hxy
                · exact .inr (.inr ⟨a, b, c⟩)
              · exact .inr (.inl ⟨a, b⟩)
            · exact .inl a
          clear hxy
          rcases hc3 with hne | ⟨rfl, hne⟩ | ⟨rfl, rfl, hne⟩
          all_goals
            go_wp2
            go_region
            all_goals go_wp2
            all_goals go_ret
            all_goals exact ⟨rfl, hbel.out.drew⟩
      · obtain rfl : k = n := by omega
        obtain rfl : true = r := by
          rw [← HR.out]
          symm
          apply decide_eq_true
          have := hT.out
          rwa [List.take_of_length_le (by omega), List.take_of_length_le (by omega)] at this
        go_wp2
        go_ret
        exact ⟨rfl, hbel.out⟩
  · obtain rfl : false = r := by
      rw [← hr]
      symm
      apply decide_eq_false
      intro h
      subst h
      omega
    have hnI : ¬ (n : Int) = (n2 : Int) := by omega
    clear h h2 hr
    go_enter Try.func14, Try.ntmps14
    go_wp2
    go_ret
    exact ⟨rfl, Below.refl _ _⟩
end Go.Proofs.Ytccippplpcjaiaa
