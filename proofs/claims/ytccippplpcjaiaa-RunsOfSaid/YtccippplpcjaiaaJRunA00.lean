/-
  Joined, on top of RunB: OpenH 1, RunLv 4, RunLawA 1.
-/
import Derived.Test.YtccippplpcjaiaaJRunB00
import Derived.Test.YtccippplpcjaiaaJRunB01
import Derived.Test.YtccippplpcjaiaaJRunB02
import Derived.Test.YtccippplpcjaiaaJRunB03
import Derived.Test.YtccippplpcjaiaaJRunB04
import Derived.Test.YtccippplpcjaiaaJRunB05
import Derived.Test.YtccippplpcjaiaaJRunB06
import Derived.Test.YtccippplpcjaiaaJRunB07
import Derived.Test.YtccippplpcjaiaaJRunB08
import Derived.Test.YtccippplpcjaiaaJRunB09
import Derived.Test.YtccippplpcjaiaaJRunB10
import Derived.Test.YtccippplpcjaiaaJRunB11
import Derived.Test.YtccippplpcjaiaaJRunB12
import Derived.Test.YtccippplpcjaiaaJRunB13
import Derived.Test.YtccippplpcjaiaaJRunB14
import Derived.Test.YtccippplpcjaiaaJRunB15
/-
  Slices of structs of integers, opened; of three and of four integers as lists.
-/
namespace Go.Proofs.Ytccippplpcjaiaa
open Go.ChangeShapes Go.WideShapes Go.ChangeAt Go.RowKit Go.Deep
set_option linter.unusedVariables false
set_option linter.unusedSimpArgs false

section
variable {H : Type} {enc : TypeId × Value → H} {P : Program} {w : World} {base : Nat} {held : Bool}

end

theorem open_trs {H : Type} {enc : TypeId × Value → H} {P : Program} {w : World} {base : Nat} {held : Bool} {t e : TypeId} {fs : Array Field} {A : Option Addr} {n c : Nat} {d : DataW H} {p : List MemPlace} (ht : P.underlying t = some (.slice e)) (he : P.underlying e = some (.struct fs)) (h3 : fs.size = 3)
    (hone : oneCellFields P fs = true) (hC : P.cellsOf e = 3) (hf : fs.toList.map (fun f => P.underlying f.type) = List.replicate 3 (some (.int .i64)))
    (h : DataW.Trod enc P w base (fun _ => true) held t (.slice A n c) d p) :
    ∃ l : List (Int × Int × Int), Trs w A n c l ∧ ∀ q ∈ l, (-9223372036854775808 ≤ q.1 ∧ q.1 ≤ 9223372036854775807) ∧ (-9223372036854775808 ≤ q.2.1 ∧ q.2.1 ≤ 9223372036854775807) ∧ (-9223372036854775808 ≤ q.2.2 ∧ q.2.2 ≤ 9223372036854775807) := by
  obtain ⟨h1, h2, f, hfx⟩ := open_islice ht he hone (hC.trans h3.symm) (by rw [h3]; exact hf) h
  rw [h3] at hfx
  refine ⟨(List.range n).map fun i => (f i 0, f i 1, f i 2), ⟨by simp, h1, h2, fun k hk => ?_⟩, fun q hq => ?_⟩
  · have hk' : k < n := by simpa using hk
    obtain ⟨x, e, hx⟩ := hfx k hk'
    simp only [List.getElem_map, List.getElem_range]
    exact ⟨x, e, by simpa using (hx 0 (by omega)).1, (hx 1 (by omega)).1, (hx 2 (by omega)).1⟩
  · obtain ⟨i, hi, rfl⟩ := List.mem_map.1 hq
    obtain ⟨x, e, hx⟩ := hfx i (List.mem_range.1 hi)
    exact ⟨(hx 0 (by omega)).2, (hx 1 (by omega)).2, (hx 2 (by omega)).2⟩

end Go.Proofs.Ytccippplpcjaiaa

/-
  Layer 19: the law's example; are mappings' numbers small.
-/
namespace Go.Proofs.Ytccippplpcjaiaa
open Go.RowKit
set_option linter.unusedVariables false
set_option linter.unusedSimpArgs false

/-- what small answers -/
def sm19 (l : List Map19) : Bool := decide (l.length ≤ 2000 ∧ ∀ k, k < l.length → 0 ≤ (l.getD k zeroM19).1 ∧ (l.getD k zeroM19).1 ≤ 281474976710655 ∧ 0 ≤ (l.getD k zeroM19).2.1 ∧ (l.getD k zeroM19).2.1 ≤ 281474976710655)
theorem sm19_yes {l : List Map19} : sm19 l = true ↔ l.length ≤ 2000 ∧ ∀ k, k < l.length → 0 ≤ (l.getD k zeroM19).1 ∧ (l.getD k zeroM19).1 ≤ 281474976710655 ∧ 0 ≤ (l.getD k zeroM19).2.1 ∧ (l.getD k zeroM19).2.1 ≤ 281474976710655 := by unfold sm19; exact decide_eq_true_iff
theorem sm19_small {l : List Map19} (h : sm19 l = true) : l.length ≤ 2000 ∧ Small19 l := by
  obtain ⟨h1, h2⟩ := sm19_yes.1 h
  refine ⟨h1, fun x hx => ?_⟩
  obtain ⟨k, hk, rfl⟩ := List.getElem_of_mem hx
  have := h2 k hk
  rwa [getD19 hk] at this

set_option maxRecDepth 100000 in
set_option maxHeartbeats 1600000 in
theorem small_any19 (l : List Map19) (A : Option Addr) (n c : Nat) (w : World) (h : Trs w A n c l) : Calls Try.prog 7 #[.slice A n c] w fun e w' => e = .returned (.bool (sm19 l)) ∧ w = w' := by
  have hle : n ≤ 9223372036854775807 := Nat.le_trans h.cap h.most
  have hl := h.len
  have NO : Hid (∀ k x0 x1 x2, k < n → l.getD k zeroM19 = (x0, x1, x2) → ¬ (0 ≤ x0 ∧ x0 ≤ 281474976710655 ∧ 0 ≤ x1 ∧ x1 ≤ 281474976710655) → sm19 l = false) := fun k x0 x1 x2 hk e hx => by
    cases hs : sm19 l with
    | false => rfl
    | true =>
      have := (sm19_yes.1 hs).2 k (by omega)
      rw [e] at this
      exact absurd this hx
  have MANY : Hid (2000 < n → sm19 l = false) := fun hn => by
    cases hs : sm19 l with
    | false => rfl
    | true => have := (sm19_yes.1 hs).1; omega
  have YES : Hid (n ≤ 2000 → (∀ k, k < n → ∃ x0 x1 x2, l.getD k zeroM19 = (x0, x1, x2) ∧ 0 ≤ x0 ∧ x0 ≤ 281474976710655 ∧ 0 ≤ x1 ∧ x1 ≤ 281474976710655) → sm19 l = true) := fun hn hk => by
    refine sm19_yes.2 ⟨by omega, fun k h2 => ?_⟩
    obtain ⟨x0, x1, x2, e, hx⟩ := hk k (by omega)
    rw [e]
    exact hx
  have HT := Lib.hid h
  clear h hl
  generalize sm19 l = r at *
  go_enter Try.func7, Try.ntmps7
  go_wp2
  go_loopw [3] (fun i wr => ∃ k : Nat, k ≤ n ∧ k ≤ 2001 ∧ i = .int .i64 k ∧ Hid (∀ j, j < k → ∃ x0 x1 x2, l.getD j zeroM19 = (x0, x1, x2) ∧ 0 ≤ x0 ∧ x0 ≤ 281474976710655 ∧ 0 ≤ x1 ∧ x1 ≤ 281474976710655) ∧ w = wr) (fun i _ => n - (intOf i).toNat)
  case atStart => exact ⟨0, by omega, by omega, rfl, fun j hj => absurd hj (Nat.not_lt_zero _), rfl⟩
  case round =>
    obtain ⟨k, hk, hk2, rfl, HK, rfl⟩ := hrel
    by_cases hlt : k < n
    · by_cases hlt2 : k < 2001
      · obtain ⟨b, off, x0, x1, x2, rfl, hb, hx, d0, d1, d2⟩ := trs_at19 HT.out hlt
        have HX := Lib.hid hx
        clear hx
        by_cases h0 : 0 ≤ x0
        · by_cases h1 : x0 ≤ 281474976710655
          · by_cases h2 : 0 ≤ x1
            · by_cases h3 : x1 ≤ 281474976710655
              · have HK2 : Hid (∀ j, j < k + 1 → ∃ x0 x1 x2, l.getD j zeroM19 = (x0, x1, x2) ∧ 0 ≤ x0 ∧ x0 ≤ 281474976710655 ∧ 0 ≤ x1 ∧ x1 ≤ 281474976710655) := fun j hj => by
                  by_cases hjk : j < k
                  · exact HK.out j hjk
                  · obtain rfl : j = k := by omega
                    exact ⟨x0, x1, x2, HX.out, h0, h1, h2, h3⟩
                clear HK HX YES NO MANY HT
                go_wp2
                go_roundw
                case rel => exact ⟨k + 1, by omega, by omega, by push_cast; rfl, HK2, trivial⟩
                case measure => simp [intOf]; omega
              · obtain rfl := NO.out k x0 x1 x2 hlt HX.out (fun h => h3 h.2.2.2)
                go_wp2
                go_ret
                exact ⟨rfl, rfl⟩
            · obtain rfl := NO.out k x0 x1 x2 hlt HX.out (fun h => h2 h.2.2.1)
              go_wp2
              go_ret
              exact ⟨rfl, rfl⟩
          · obtain rfl := NO.out k x0 x1 x2 hlt HX.out (fun h => h1 h.2.1)
            go_wp2
            go_ret
            exact ⟨rfl, rfl⟩
        · obtain rfl := NO.out k x0 x1 x2 hlt HX.out (fun h => h0 h.1)
          go_wp2
          go_ret
          exact ⟨rfl, rfl⟩
      · obtain rfl := MANY.out (by omega)
        have hg : ¬ n ≤ 2000 := by omega
        go_wp2
        go_ret
        exact ⟨by show Ending.returned (.bool (decide ((n : Int) ≤ 2000))) = _; rw [decide_eq_false (by omega)], rfl⟩
    · obtain rfl : k = n := by omega
      by_cases h2 : k ≤ 2000
      · obtain rfl := YES.out h2 HK.out
        go_wp2
        go_ret
        exact ⟨by show Ending.returned (.bool (decide ((k : Int) ≤ 2000))) = _; rw [decide_eq_true (by omega)], rfl⟩
      · obtain rfl := MANY.out (by omega)
        go_wp2
        go_ret
        exact ⟨by show Ending.returned (.bool (decide ((k : Int) ≤ 2000))) = _; rw [decide_eq_false (by omega)], rfl⟩
end Go.Proofs.Ytccippplpcjaiaa

/-
  Layer 19: RunsOf.
-/
namespace Go.Proofs.Ytccippplpcjaiaa
open Go.RowKit
set_option linter.unusedVariables false
set_option linter.unusedSimpArgs false

set_option maxRecDepth 100000 in
set_option maxHeartbeats 800000 in
theorem runsof_walk (A : Option Addr) (n c : Nat) (l : List Map19) (w : World) (h : Trs w A n c l) (hbd : ∀ q ∈ l, (-9223372036854775808 ≤ q.1 ∧ q.1 ≤ 9223372036854775807) ∧ (-9223372036854775808 ≤ q.2.1 ∧ q.2.1 ≤ 9223372036854775807) ∧ (-9223372036854775808 ≤ q.2.2 ∧ q.2.2 ≤ 9223372036854775807)) :
    Calls Try.prog 3 #[.slice A n c] w fun e w' => e = .returned (.bool true) ∧ Below w.heap.size w w' := by
  have SL := Lib.hid (small_any19 l A n c w h)
  have LV : Hid (∀ W, Hid (Below w.heap.size w W) → Calls Try.prog 8 #[] W fun e w' => e = .returned (.bool true) ∧ Hid (Below w.heap.size w w')) := fun W hW => (lives19_any W).mono fun e w' ⟨h1, h2⟩ => ⟨h1, hW.out.trans (h2.mono hW.out.size)⟩
  have B0 : Hid (Below w.heap.size w w) := Below.refl _ _
  cases hs : sm19 l with
  | false =>
    rw [hs] at SL
    clear h hbd hs
    go_enter Try.func3, Try.ntmps3
    go_wp2_with (first
      | (go_at_call 7; (with_reducible refine (SL.out).mono ?_); rintro e w1 ⟨rfl, rfl⟩)
      | (go_at_call 8; (with_reducible refine (LV.out _ B0).mono ?_); rintro e w2 ⟨rfl, HB2⟩))
    go_ret
    exact ⟨rfl, HB2.out⟩
  | true =>
    rw [hs] at SL
    obtain ⟨hl2, hsm⟩ := sm19_small hs
    have hl := h.len
    have OF : Hid (Calls Try.prog 10 #[.slice A n c] w fun e w' => ∃ A' c', e = .returned (.slice A' (of19 l).length c') ∧ Hid (Rns w' A' (of19 l).length c' (of19 l)) ∧ Hid (Below w.heap.size w w')) := Of_any19 l A n c w h (by omega) hsm
    have RO : Hid (∀ W A1 n1 c1, Hid (Below w.heap.size w W) → Hid (Rns W A1 n1 c1 (of19 l)) → Calls Try.prog 11 #[.slice A n c] W fun e w' => ∃ A' c', e = .returned (.slice A' (of19 l).length c') ∧ Hid (Rns w' A' (of19 l).length c' (of19 l)) ∧ Hid (Rns w' A1 n1 c1 (of19 l)) ∧ Hid (Below w.heap.size w w')) := fun W A1 n1 c1 hW hR => (refOf_any19 l A n c W (h.below hW.out) (by omega) hsm).mono fun e w' ⟨A', c', h1, h2, h3⟩ => ⟨A', c', h1, h2, hR.out.below h3, hW.out.trans (h3.mono hW.out.size)⟩
    have SM : Hid (∀ W A1 n1 c1 A2 n2 c2, Hid (Rns W A1 n1 c1 (of19 l)) → Hid (Rns W A2 n2 c2 (of19 l)) → Hid (Below w.heap.size w W) → Calls Try.prog 9 #[.slice A1 n1 c1, .slice A2 n2 c2] W fun e w' => e = .returned (.bool true) ∧ Hid (Below w.heap.size w w')) := fun W A1 n1 c1 A2 n2 c2 h1 h2 hW => (refSame_any19 A1 A2 n1 c1 n2 c2 _ _ W h1.out h2.out true (by simp)).mono fun e w' ⟨h1, h2⟩ => ⟨h1, hW.out.trans (h2.mono hW.out.size)⟩
    clear h hbd hs hsm
    generalize (of19 l).length = m at *
    go_enter Try.func3, Try.ntmps3
    go_wp2_with (first
      | (go_at_call 7; (with_reducible refine (SL.out).mono ?_); rintro e w1 ⟨rfl, rfl⟩)
      | (go_at_call 10; (with_reducible refine (OF.out).mono ?_); rintro e w2 ⟨A1, c1, rfl, HR1, HB1⟩)
      | (go_at_call 11; (with_reducible refine (RO.out _ _ _ _ HB1 HR1).mono ?_); rintro e w3 ⟨A2, c2, rfl, HR2, HR3, HB2⟩)
      | (go_at_call 9; (with_reducible refine (SM.out _ _ _ _ _ _ _ HR3 HR2 HB2).mono ?_); rintro e w4 ⟨rfl, HB3⟩)
      | (go_at_call 8; (with_reducible refine (LV.out _ HB3).mono ?_); rintro e w5 ⟨rfl, HB4⟩))
    go_ret
    exact ⟨rfl, HB4.out⟩
end Go.Proofs.Ytccippplpcjaiaa
