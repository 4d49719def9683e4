/-
  Joined: SpnB.
-/
import Derived.Deep.RegionHeld3
import Derived.Test.YtnjlganofjkpfaaGreatJBldB31
/-
  Layer 13: Fits, the reference's Fits.
-/
namespace Go.Proofs.YtnjlganofjkpfaaGreat
open Go.RowKit
set_option linter.unusedVariables false
set_option linter.unusedSimpArgs false

set_option maxRecDepth 100000 in
set_option maxHeartbeats 1600000 in
theorem Fits_any13 {A : Option Addr} {n c : Nat} {L : List Int} (lo hi : Int) (w : World) (h : Ints w A n c L) :
    Calls Tryz.prog 61 #[spnV lo hi, .slice A n c] w fun e w' => e = .returned (.int .i64 (fit13 lo hi L)) ∧ Below w.heap.size w w' := by
  have hw0 := SpnAt.new w lo hi
  have hb0 := (Below.refl w.heap.size w).alloc (Nat.le_refl _) (.cells #[.int .i64 lo, .int .i64 hi] 78)
  have a0 := hw0.c0
  have a1 := hw0.c1
  have RT := Lib.hid (Right_any13 lo hi (w.alloc (.cells #[.int .i64 lo, .int .i64 hi] 78)))
  obtain ⟨f, hf⟩ : ∃ f, fit13 lo hi L = f := ⟨_, rfl⟩
  rw [hf]
  have HW0 := Lib.hid hw0
  have HB0 := Lib.hid hb0
  have HI := Lib.hid h
  have hl := h.len
  have hcap := h.cap
  have hmost := h.most
  have hle := h.le
  clear h hw0 hb0
  cases hr : rB13 lo hi with
  | false =>
    rw [hr] at RT
    obtain rfl : 1 = f := by rw [← hf, fit13_arg hr]
    clear hf hr
    go_enter Tryz.func61, Tryz.ntmps61
    go_wp2_with (go_at_call 78; (with_reducible refine (RT.out).mono ?_); rintro e w1 ⟨rfl, hb1⟩; have HB1 := Lib.hid (HB0.out.trans (hb1.mono HB0.out.size)); clear hb1)
    go_ret
    exact ⟨rfl, HB1.out⟩
  | true =>
    rw [hr] at RT
    have HR := Lib.hid hr
    have HF := Lib.hid hf
    clear hf hr
    go_enter Tryz.func61, Tryz.ntmps61
    go_wp2_with (go_at_call 78; (with_reducible refine (RT.out).mono ?_); rintro e w1 ⟨rfl, hb1⟩; have HB1 := Lib.hid (HB0.out.trans (hb1.mono HB0.out.size)); have HW1 := Lib.hid (HW0.out.later hb1); have HI1 := Lib.hid (HI.out.below HB1.out); clear hb1)
    clear RT HW0 HB0 HI a0 a1
    go_loopw [5] (fun i wr => ∃ k : Nat, k ≤ n ∧ i = .int .i64 ((k + 1 : Nat) : Int) ∧ Hid (Below w1.heap.size w1 wr) ∧ Hid (∀ j, j + 1 < L.length → j < k → L.getD j 0 < L.getD (j + 1) 0)) (fun i _ => n + 1 - (intOf i).toNat)
    case atStart => exact ⟨0, by omega, rfl, Below.refl _ _, fun j _ h => by omega⟩
    case round =>
      obtain ⟨k, hk, rfl, hb, hord⟩ := hrel
      obtain ⟨m, hm⟩ : ∃ m, m = k + 1 := ⟨_, rfl⟩
      rw [← hm]
      by_cases hlt : m < n
      · obtain ⟨b, off, hA, _, hc⟩ := (HI1.out.below hb.out).row.lit (by rw [i64s_length]; omega)
        have ck := hc k _ (i64s_at L k (by omega))
        have cm := hc m _ (i64s_at L m (by omega))
        have ek : L.getD k 0 = L[k]'(by omega) := by rw [List.getD_eq_getElem?_getD, List.getElem?_eq_getElem (by omega)]; rfl
        have em : L.getD (k + 1) 0 = L[m]'(by omega) := by rw [← hm, List.getD_eq_getElem?_getD, List.getElem?_eq_getElem (by omega)]; rfl
        have hw : IntKind.i64.wrap ((m : Int) - 1) = (k : Int) := (IntWalk.i64_in _ (by omega)).trans (by omega)
        have hw2 : IntKind.i64.wrap (k : Int) = (k : Int) := IntWalk.i64_in _ (by omega)
        have YES : Hid (L[k]'(by omega) < L[m]'(by omega) → ∀ j, j + 1 < L.length → j < k + 1 → L.getD j 0 < L.getD (j + 1) 0) := fun hx j hj hjk => by
          by_cases hjk2 : j < k
          · exact hord.out j hj hjk2
          · obtain rfl : j = k := by omega
            rw [ek, em]; exact hx
        have NO : Hid (L[m]'(by omega) ≤ L[k]'(by omega) → 8 = f) := fun hx => by
          rw [← HF.out, fit13_order HR.out (ord13_no (j := k) (by omega) (by rw [ek, em]; exact hx))]
        have hkn : k < n := by omega
        have HM := Lib.hid hm
        clear hc ek em
        generalize L[k]'(by omega) = x at *
        generalize L[m]'(by omega) = y at *
        clear hm
        subst hA
        by_cases hxy : y ≤ x
        · have hd : decide (y ≤ x) = true := by simpa using hxy
          obtain rfl := NO.out hxy
          clear YES NO hxy
          go_wp2
          go_quiet (fail)
          go_wp2
          go_ret
          exact ⟨rfl, below_drewN (HB1.out.trans (hb.out.mono HB1.out.size)) _⟩
        · have hd : decide (y ≤ x) = false := by simpa using hxy
          have HY := Lib.hid (YES.out (by omega))
          clear YES NO hxy
          go_wp2
          go_quiet (fail)
          go_wp2
          go_roundw
          case rel => exact ⟨k + 1, by omega, by rw [HM.out]; simp, below_drewN hb.out _, HY.out⟩
          case measure => have := HM.out; simp [intOf]; omega
      · have HO : Hid (ord13 L = true) := ord13_yes.2 fun j hj => hord.out j hj (by omega)
        have hb2 := Lib.hid (HB1.out.trans (hb.out.mono HB1.out.size))
        have HW2 := Lib.hid (HW1.out.later hb.out)
        have HI2 := Lib.hid (HI1.out.below hb.out)
        clear HB1 HW1 HI1 hord hb hm
        go_wp2
        go_loopw [29] (fun i ws => ∃ k : Nat, k ≤ n ∧ i = .int .i64 (k : Int) ∧ Hid (Below wr.heap.size wr ws) ∧ Hid (∀ j, j < k → hB13 lo hi (L.getD j 0) = true)) (fun i _ => n - (intOf i).toNat)
        case atStart => exact ⟨0, by omega, rfl, Below.refl _ _, fun j h => by omega⟩
        case round =>
          obtain ⟨k, hk, rfl, hb, hin⟩ := hrel
          by_cases hlt2 : k < n
          · obtain ⟨b, off, hA, _, hc⟩ := (HI2.out.below hb.out).row.lit (by rw [i64s_length]; omega)
            have ck := hc k _ (i64s_at L k (by omega))
            have ek : L.getD k 0 = L[k]'(by omega) := by rw [List.getD_eq_getElem?_getD, List.getElem?_eq_getElem (by omega)]; rfl
            have YES : Hid (hB13 lo hi (L[k]'(by omega)) = true → ∀ j, j < k + 1 → hB13 lo hi (L.getD j 0) = true) := fun hx j hj => by
              by_cases hjk2 : j < k
              · exact hin.out j hjk2
              · obtain rfl : j = k := by omega
                rw [ek]; exact hx
            have NO : Hid (hB13 lo hi (L[k]'(by omega)) = false → 9 = f) := fun hx => by
              rw [← HF.out, fit13_key HR.out HO.out (ins13_no (j := k) (by omega) (by rw [ek]; exact hx))]
            clear hc ek
            generalize L[k]'(by omega) = x at *
            have HS : Hid (∀ W, Calls Tryz.prog 79 #[spnV lo hi, .int .i64 x] W _) := fun W => Has_any13 lo hi x W
            obtain ⟨r, hr⟩ : ∃ r, hB13 lo hi x = r := ⟨_, rfl⟩
            rw [hr] at HS YES NO
            subst hA
            have s0 := (HW2.out.later hb.out).c0
            have s1 := (HW2.out.later hb.out).c1
            clear hr
            cases r with
            | false =>
              obtain rfl := NO.out rfl
              clear YES NO
              go_wp2_with (go_at_call 79; (with_reducible refine (HS.out _).mono ?_); rintro e w5 ⟨rfl, hb5⟩)
              go_ret
              exact ⟨rfl, hb2.out.trans ((hb.out.trans (hb5.mono hb.out.size)).mono hb2.out.size)⟩
            | true =>
              have HY := Lib.hid (YES.out rfl)
              clear YES NO
              go_wp2_with (go_at_call 79; (with_reducible refine (HS.out _).mono ?_); rintro e w5 ⟨rfl, hb5⟩)
              go_roundw
              case rel => exact ⟨k + 1, by omega, by simp, hb.out.trans (hb5.mono hb.out.size), HY.out⟩
              case measure => simp [intOf]; omega
          · have HFF : Hid (0 = f) := by rw [← HF.out]; exact (fit13_ok HR.out HO.out (ins13_yes.2 fun j hj => hin.out j (by omega))).symm
            obtain rfl := HFF.out
            go_wp2
            go_ret
            exact ⟨rfl, hb2.out.trans (hb.out.mono hb2.out.size)⟩

end Go.Proofs.YtnjlganofjkpfaaGreat
