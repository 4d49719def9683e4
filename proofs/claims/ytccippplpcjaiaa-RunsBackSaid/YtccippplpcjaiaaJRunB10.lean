/-
  Joined: RunA.
-/
import Derived.Test.YtccippplpcjaiaaJRunB08
import Derived.Test.YtccippplpcjaiaaJRunB04
/-
  Layer 19: the reference's Same.
-/
namespace Go.Proofs.Ytccippplpcjaiaa
open Go.RowKit
set_option linter.unusedVariables false
set_option linter.unusedSimpArgs false

theorem getD19 {α : Type} {l : List α} {k : Nat} (h : k < l.length) (d : α) : l.getD k d = l[k] := by simp [List.getD_eq_getElem?_getD, h]

set_option maxRecDepth 100000 in
set_option maxHeartbeats 1600000 in
theorem refSame_any19 (A A2 : Option Addr) (n c n2 c2 : Nat) (l l2 : List Run19) (w : World) (h : Rns w A n c l) (h2 : Rns w A2 n2 c2 l2) (r : Bool) (hr : decide (l = l2) = r) :
    Calls Try.prog 9 #[.slice A n c, .slice A2 n2 c2] w fun e w' => e = .returned (.bool r) ∧ Below w.heap.size w w' := by
  have hle : n ≤ 9223372036854775807 := Nat.le_trans h.cap h.most
  have hle2 : n2 ≤ 9223372036854775807 := Nat.le_trans h2.cap h2.most
  have hl := h.len
  have hl2 := h2.len
  by_cases hn : n = n2
  · subst hn
    have HR := Lib.hid hr
    have HC := Lib.hid (fun (k : Nat) (hk : k < n) => rns_at h hk)
    have HC2 := Lib.hid (fun (k : Nat) (hk : k < n) => rns_at h2 hk)
    clear h h2 hr
    go_enter Try.func9, Try.ntmps9
    go_wp2
    go_loopw [5] (fun i wr => ∃ k : Nat, k ≤ n ∧ i = .int .i64 k ∧ Hid (l.take k = l2.take k) ∧ Hid (Below w.heap.size w wr)) (fun i _ => n - (intOf i).toNat)
    case atStart => exact ⟨0, by omega, rfl, rfl, Below.refl _ _⟩
    case round =>
      obtain ⟨k, hk, rfl, hT, hbel⟩ := hrel
      by_cases hlt : k < n
      · obtain ⟨b, off, ⟨x0, x1, x2, x3⟩, rfl, hb, hx, hkl, d0, d1, d2, d3⟩ := HC.out k hlt
        obtain ⟨b2, off2, ⟨y0, y1, y2, y3⟩, rfl, hb2, hy, hkl2, e0, e1, e2, e3⟩ := HC2.out k hlt
        rw [getD19 hkl] at hx
        rw [getD19 hkl2] at hy
        have c0 := (hbel.out.cell (p := ⟨b, off + k * 4, none⟩) hb).trans d0
        have c1 := (hbel.out.cell (p := ⟨b, off + k * 4 + 1, none⟩) hb).trans d1
        have c2 := (hbel.out.cell (p := ⟨b, off + k * 4 + 2, none⟩) hb).trans d2
        have c3 := (hbel.out.cell (p := ⟨b, off + k * 4 + 3, none⟩) hb).trans d3
        have g0 := (hbel.out.cell (p := ⟨b2, off2 + k * 4, none⟩) hb2).trans e0
        have g1 := (hbel.out.cell (p := ⟨b2, off2 + k * 4 + 1, none⟩) hb2).trans e1
        have g2 := (hbel.out.cell (p := ⟨b2, off2 + k * 4 + 2, none⟩) hb2).trans e2
        have g3 := (hbel.out.cell (p := ⟨b2, off2 + k * 4 + 3, none⟩) hb2).trans e3
        clear d0 d1 d2 d3 e0 e1 e2 e3
        by_cases hxy : x0 = y0 ∧ x1 = y1 ∧ x2 = y2 ∧ x3 = y3
        · obtain ⟨rfl, rfl, rfl, rfl⟩ := hxy
          have hT1 : Hid (l.take (k + 1) = l2.take (k + 1)) := by
            rw [List.take_succ_eq_append_getElem hkl, List.take_succ_eq_append_getElem hkl2, hT.out, hx, hy]; rfl
          clear hx hy
          go_wp2
          go_region
          all_goals go_wp2
          all_goals go_roundw
          all_goals first
            | exact ⟨k + 1, by omega, by push_cast; rfl, hT1, hbel.out.drew⟩
            | (simp only [intOf]; omega)
        · obtain rfl : false = r := by
            rw [← HR.out]
            symm
            apply decide_eq_false
            intro h
            subst h
            rw [hx] at hy
            exact hxy (by simpa using hy)
          clear hx hy
          have hc3 : ¬ x0 = y0 ∨ (x0 = y0 ∧ ¬ x1 = y1) ∨ (x0 = y0 ∧ x1 = y1 ∧ ¬ x2 = y2) ∨ (x0 = y0 ∧ x1 = y1 ∧ x2 = y2 ∧ ¬ x3 = y3) := by
            by_cases a : x0 = y0
            · by_cases b : x1 = y1
              · by_cases c : x2 = y2
                · by_cases d : x3 = y3
                  · exact absurd ⟨a, b, c, d⟩ hxy
                  · exact .inr (.inr (.inr ⟨a, b, c, d⟩))
                · exact .inr (.inr (.inl ⟨a, b, c⟩))
              · exact .inr (.inl ⟨a, b⟩)
            · exact .inl a
          clear hxy
          rcases hc3 with hne | ⟨rfl, hne⟩ | ⟨rfl, rfl, hne⟩ | ⟨rfl, rfl, rfl, hne⟩
          all_goals
            go_wp2
            go_region
            all_goals go_wp2
            all_goals go_ret
            all_goals exact ⟨rfl, hbel.out.drew⟩
      · obtain rfl : k = n := by omega
        obtain rfl : true = r := by
          rw [← HR.out]
          symm
          apply decide_eq_true
          have := hT.out
          rwa [List.take_of_length_le (by omega), List.take_of_length_le (by omega)] at this
        go_wp2
        go_ret
        exact ⟨rfl, hbel.out⟩
  · obtain rfl : false = r := by
      rw [← hr]
      symm
      apply decide_eq_false
      intro h
      subst h
      omega
    have hnI : ¬ (n : Int) = (n2 : Int) := by omega
    clear h h2 hr
    go_enter Try.func9, Try.ntmps9
    go_wp2
    go_ret
    exact ⟨rfl, Below.refl _ _⟩
end Go.Proofs.Ytccippplpcjaiaa
