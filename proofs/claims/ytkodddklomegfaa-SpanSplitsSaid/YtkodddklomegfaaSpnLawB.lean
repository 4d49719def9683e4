/-
  The walk of SpanSplits.
-/
import Derived.Test.YtkodddklomegfaaSpnLawA
import Derived.Test.YtkodddklomegfaaRegS
namespace Go.Proofs.Ytkodddklomegfaa
open Go.RowKit
set_option linter.unusedVariables false
set_option linter.unusedSimpArgs false

theorem Prs.lit13 {w : World} {g o n c : Nat} {L : List Int} {hi : Int} (h : Prs w (some ⟨g, o, none⟩) n c ((List.range n).map (chd13 hi L))) {k : Nat} (hk : k < n) :
    w.cell? ⟨g, o + k * 2, none⟩ = some (.int .i64 (L.getD k 0)) ∧ w.cell? ⟨g, o + (k * 2 + 1), none⟩ = some (.int .i64 (end13 hi L k)) := by
  obtain ⟨g2, o2, e, h0, h1⟩ := h.at_ hk
  injection e with e
  injection e with e1 e2
  subst e1; subst e2
  rw [List.getElem_map, List.getElem_range] at h0 h1
  exact ⟨h0, h1⟩
theorem Ints.lit13 {w : World} {b off n c : Nat} {L : List Int} (h : Ints w (some ⟨b, off, none⟩) n c L) {k : Nat} (hk : k < n) : w.cell? ⟨b, off + k, none⟩ = some (.int .i64 (L.getD k 0)) := by
  have hl := h.len
  obtain ⟨b2, o2, e, _, hc⟩ := h.row.lit (by rw [i64s_length]; omega)
  injection e with e
  injection e with e1 e2
  subst e1; subst e2
  have := hc k _ (i64s_at L k (by omega))
  rwa [show L.getD k 0 = L[k]'(by omega) by rw [List.getD_eq_getElem?_getD, List.getElem?_eq_getElem (by omega)]; rfl]

/-- the cells that a round reads: the child's span, its key, the end of the child before it -/
def SpF (W : World) (g o b off k j : Nat) (x y z : Int) : Prop :=
  W.cell? ⟨g, o + k * 2, none⟩ = some (.int .i64 x) ∧ W.cell? ⟨g, o + (k * 2 + 1), none⟩ = some (.int .i64 y) ∧ W.cell? ⟨g, o + k * 2 + 1, none⟩ = some (.int .i64 y) ∧ W.cell? ⟨b, off + k, none⟩ = some (.int .i64 x) ∧ W.cell? ⟨g, o + j * 2 + 1, none⟩ = some (.int .i64 z)

set_option maxRecDepth 100000 in
set_option maxHeartbeats 3200000 in
/-- no children: the list is empty -/
theorem splits_none (lo hi : Int) (A : Option Addr) (n c : Nat) (L : List Int) (key : Int) (w : World) (h : Ints w A n c L) (hn : n ≤ 200) (hf : fit13 lo hi L ≠ 0 ∨ n = 0) :
    Calls Try.prog 4 #[spnV lo hi, .slice A n c, .int .i64 key] w fun e w' => e = .returned (.bool true) ∧ Below w.heap.size w w' := by
  have hS0 := TlS.start w lo hi
  have hle := h.le
  have hcap := h.cap
  have hmost := h.most
  have dl : decide ((200 : Int) < (n : Int)) = false := by simp; omega
  have hl0 : spl13 lo hi L = [] := by
    rcases hf with hf | hf
    · exact spl13_bad hf
    · have : L = [] := List.eq_nil_of_length_eq_zero (by rw [h.len]; exact hf)
      subst this
      unfold spl13
      split <;> rfl
  have SP : Hid (∀ W, TlS w W lo hi → Calls Try.prog 14 #[spnV lo hi, .slice A n c] W fun e w' => ∃ A' c', e = .returned (.slice A' 0 c') ∧ TlS w w' lo hi) := fun W hW => (Split_any13 lo hi W (h.below hW.bel) (by omega)).mono fun e w' ⟨A', c', h1, h2, h3, _⟩ => by
    rw [hl0] at h1
    exact ⟨A', c', h1, hW.later h3⟩
  have FT : Hid (∀ W, TlS w W lo hi → Calls Try.prog 10 #[spnV lo hi, .slice A n c] W fun e w' => e = .returned (.int .i64 (fit13 lo hi L)) ∧ TlS w w' lo hi) := fun W hW => (Fits_any13 lo hi W (h.below hW.bel)).mono fun e w' ⟨h1, h2⟩ => ⟨h1, hW.later h2⟩
  have LV : Hid (∀ W, TlS w W lo hi → Calls Try.prog 5 #[] W fun e w' => e = .returned (.bool true) ∧ Below w.heap.size w w') := fun W hW => (lives13_any W).mono fun e w' ⟨h1, h2⟩ => ⟨h1, hW.bel.trans (h2.mono hW.bel.size)⟩
  generalize fit13 lo hi L = f at *
  clear hl0 h
  obtain ⟨k0, k1⟩ := hS0.cs
  by_cases h0 : f = 0
  · subst h0
    obtain rfl : n = 0 := by rcases hf with hf | hf; exact absurd rfl hf; exact hf
    clear hf
    go_enter Try.func4, Try.ntmps4
    go_wp2_with (first
      | (go_at_call 14; (with_reducible refine (SP.out _ hS0).mono ?_); rintro e w1 ⟨A1, c1, rfl, hS1⟩; obtain ⟨m0, m1⟩ := hS1.cs; clear k0 k1)
      | (go_at_call 10; (with_reducible refine (FT.out _ hS1).mono ?_); rintro e w2 ⟨rfl, hS2⟩)
      | (go_at_call 5; (with_reducible refine (LV.out _ hS2).mono ?_); rintro e w3 ⟨rfl, hb3⟩))
    go_ret
    exact ⟨rfl, hb3⟩
  · have hne : (f != 0) = true := by simpa using h0
    clear hf h0
    go_enter Try.func4, Try.ntmps4
    go_wp2_with (first
      | (go_at_call 14; (with_reducible refine (SP.out _ hS0).mono ?_); rintro e w1 ⟨A1, c1, rfl, hS1⟩; obtain ⟨m0, m1⟩ := hS1.cs; clear k0 k1)
      | (go_at_call 10; (with_reducible refine (FT.out _ hS1).mono ?_); rintro e w2 ⟨rfl, hS2⟩)
      | (go_at_call 5; (with_reducible refine (LV.out _ hS2).mono ?_); rintro e w3 ⟨rfl, hb3⟩))
    go_ret
    exact ⟨rfl, hb3⟩

set_option maxRecDepth 100000 in
set_option maxHeartbeats 6400000 in
theorem splits_some (lo hi : Int) (A : Option Addr) (n c : Nat) (L : List Int) (key : Int) (w : World) (h : Ints w A n c L) (hn : n ≤ 200) (hf : fit13 lo hi L = 0) (hp : 0 < n) :
    Calls Try.prog 4 #[spnV lo hi, .slice A n c, .int .i64 key] w fun e w' => e = .returned (.bool true) ∧ Below w.heap.size w w' := by
  have hS0 := TlS.start w lo hi
  have hle := h.le
  have hcap := h.cap
  have hmost := h.most
  have hln := h.len
  have dl : decide ((200 : Int) < (n : Int)) = false := by simp; omega
  have dz : ((n : Int) == 0) = false := by simp; omega
  have SP : Hid (∀ W, TlS w W lo hi → Calls Try.prog 14 #[spnV lo hi, .slice A n c] W fun e w' => ∃ A' c', e = .returned (.slice A' n c') ∧ Prs w' A' n c' ((List.range n).map (chd13 hi L)) ∧ TlS w w' lo hi) := fun W hW => (Split_good13 lo hi W (h.below hW.bel) (by omega) hf).mono fun e w' ⟨A', c', h1, h2, h3, _⟩ => by
    rw [spl13_ok hf, hln] at h2
    exact ⟨A', c', h1, h2, hW.later h3⟩
  have FT : Hid (∀ W, TlS w W lo hi → Calls Try.prog 10 #[spnV lo hi, .slice A n c] W fun e w' => e = .returned (.int .i64 0) ∧ TlS w w' lo hi ∧ Below W.heap.size W w') := fun W hW => (Fits_any13 lo hi W (h.below hW.bel)).mono fun e w' ⟨h1, h2⟩ => by
    rw [hf] at h1
    exact ⟨h1, hW.later h2, h2⟩
  have LV : Hid (∀ W, Below w.heap.size w W → Calls Try.prog 5 #[] W fun e w' => e = .returned (.bool true) ∧ Below w.heap.size w w') := fun W hW => (lives13_any W).mono fun e w' ⟨h1, h2⟩ => ⟨h1, hW.trans (h2.mono hW.size)⟩
  have IN : Hid (∀ k, k < n → L.getD k 0 < end13 hi L k ∧ end13 hi L k ≤ hi ∧ 0 ≤ L.getD k 0 ∧ lo ≤ L.getD k 0 ∧ hi ≤ 281474976710656) := fun k hk => end13_in hf (by omega)
  have NX : Hid (∀ k, k + 1 < n → end13 hi L k = L.getD (k + 1) 0) := fun k hk => end13_next (by omega)
  have LST : Hid (end13 hi L (n - 1) = hi) := end13_last (by omega)
  have NUM : Hid (num13 hi L key n = if L.getD 0 0 ≤ key ∧ key < hi then 1 else 0) := by
    have := num13_all hf key (by omega)
    rwa [hln] at this
  have STP : Hid (∀ k, num13 hi L key (k + 1) = num13 hi L key k + if hB13 (L.getD k 0) (end13 hi L k) key then 1 else 0) := fun k => rfl
  have NLE : Hid (∀ k, num13 hi L key k ≤ k) := num13_le hi L key
  have HI := Lib.hid h
  obtain ⟨b, off, hA, _, _⟩ := h.row.lit (by rw [i64s_length]; omega)
  clear h hf
  subst hA
  obtain ⟨k0, k1⟩ := hS0.cs
  obtain ⟨nl, hnl⟩ : ∃ nl, nl = n - 1 := ⟨_, rfl⟩
  have hw1 : IntKind.i64.wrap ((n : Int) - 1) = (nl : Int) := (IntWalk.i64_in _ (by omega)).trans (by omega)
  have hw2 : IntKind.i64.wrap (nl : Int) = (nl : Int) := IntWalk.i64_in _ (by omega)
  have hnl2 : nl < n := by omega
  rw [← hnl] at LST
  clear hnl
  go_enter Try.func4, Try.ntmps4
  go_wp2_with (first
    | (go_at_call 14; (with_reducible refine (SP.out _ hS0).mono ?_); rintro e w1 ⟨A1, c1, rfl, hP1, hS1⟩; obtain ⟨m0, m1⟩ := hS1.cs; have HP1 := Lib.hid hP1; clear k0 k1 hP1)
    | (go_at_call 10; (with_reducible refine (FT.out _ hS1).mono ?_); rintro e w2 ⟨rfl, hS2, hk2⟩; obtain ⟨q0, q1⟩ := hS2.cs; have HP2 := Lib.hid (HP1.out.below hk2); clear m0 m1 hk2))
  have HI2 := Lib.hid (HI.out.below hS2.bel)
  have hc1 := HP2.out.cap
  have hc2 := HP2.out.most
  obtain ⟨g, o, hA1, _, _⟩ := HP2.out.at_ hp
  subst hA1
  have HB2 := Lib.hid hS2.bel
  have HS2 := Lib.hid hS2
  have e0 := (HP2.out.lit13 hp).1
  have e1 := (HP2.out.lit13 hnl2).2
  rw [LST.out, ← Nat.add_assoc] at e1
  have e2 := HI2.out.lit13 hp
  rw [Nat.zero_mul, Nat.add_zero] at e0
  rw [Nat.add_zero] at e2
  clear SP FT hS0 hS1 hS2 HP1 HI LST
  obtain ⟨x0, hx0⟩ : ∃ x0, L.getD 0 0 = x0 := ⟨_, rfl⟩
  rw [hx0] at e0 e2 NUM
  clear hx0
  go_quiet (fail)
  clear e0 e1 hw1 hw2
  go_wp2
  go_loopw [8, 9] (fun s i wr => ∃ k : Nat, k ≤ n ∧ i = .int .i64 k ∧ s = .int .i64 ((num13 hi L key k : Nat) : Int) ∧ Hid (Below w2.heap.size w2 wr)) (fun _ i _ => n - (intOf i).toNat)
  case atStart => exact ⟨0, by omega, rfl, rfl, below_drewN (Below.refl _ _) _⟩
  case round =>
    obtain ⟨k, hk, rfl, rfl, hbw⟩ := hrel
    have hnk := NLE.out k
    by_cases hlt : k < n
    · obtain ⟨i1, i2, i3, i4, i5⟩ := IN.out k hlt
      obtain ⟨j, hj⟩ : ∃ j, j = k - 1 := ⟨_, rfl⟩
      obtain ⟨z, hz⟩ : ∃ z, end13 hi L j = z := ⟨_, rfl⟩
      have FX : Hid (∀ W, Below w2.heap.size w2 W → SpF W g o b off k j (L.getD k 0) (end13 hi L k) z) := fun W hW => by
        have a := (HP2.out.below hW).lit13 hlt
        have a2 := (HP2.out.below hW).lit13 (show j < n by omega)
        have a3 := (HI2.out.below hW).lit13 hlt
        refine ⟨a.1, a.2, by rw [Nat.add_assoc]; exact a.2, a3, by rw [Nat.add_assoc, ← hz]; exact a2.2⟩
      have hzx : Hid (0 < k → L.getD k 0 = z) := fun h0 => by
        have := NX.out j (by omega)
        rw [hz] at this
        rw [this]; congr 1; omega
      have ST1 := Lib.hid (STP.out k)
      have RT : Hid (∀ W, Below w2.heap.size w2 W → Calls Try.prog 6 #[spnV (L.getD k 0) (end13 hi L k)] W fun e w' => e = .returned (.bool true) ∧ Below w2.heap.size w2 w' ∧ SpF w' g o b off k j (L.getD k 0) (end13 hi L k) z) := fun W hW => by
        have := Right_any13 (L.getD k 0) (end13 hi L k) W
        rw [rB13_yes.2 ⟨i3, by omega, by omega⟩] at this
        exact this.mono fun e w' ⟨h1, h2⟩ => ⟨h1, hW.trans (h2.mono hW.size), FX.out _ (hW.trans (h2.mono hW.size))⟩
      have HS : Hid (∀ W, Below w2.heap.size w2 W → Calls Try.prog 8 #[spnV (L.getD k 0) (end13 hi L k), .int .i64 (L.getD k 0)] W fun e w' => e = .returned (.bool true) ∧ Below w2.heap.size w2 w' ∧ SpF w' g o b off k j (L.getD k 0) (end13 hi L k) z) := fun W hW => by
        have := Has_any13 (L.getD k 0) (end13 hi L k) (L.getD k 0) W
        rw [hB13_yes.2 ⟨Int.le_refl _, i1⟩] at this
        exact this.mono fun e w' ⟨h1, h2⟩ => ⟨h1, hW.trans (h2.mono hW.size), FX.out _ (hW.trans (h2.mono hW.size))⟩
      obtain ⟨r, hr⟩ : ∃ r, hB13 (L.getD k 0) (end13 hi L k) key = r := ⟨_, rfl⟩
      rw [hr] at ST1
      have HK : Hid (∀ W, Below w2.heap.size w2 W → Calls Try.prog 8 #[spnV (L.getD k 0) (end13 hi L k), .int .i64 key] W fun e w' => e = .returned (.bool r) ∧ Below w2.heap.size w2 w') := fun W hW => by
        have := Has_any13 (L.getD k 0) (end13 hi L k) key W
        rw [hr] at this
        exact this.mono fun e w' ⟨h1, h2⟩ => ⟨h1, hW.trans (h2.mono hW.size)⟩
      have hwj : Hid (0 < k → IntKind.i64.wrap ((k : Int) - 1) = (j : Int) ∧ IntKind.i64.wrap (j : Int) = (j : Int) ∧ j < n) := fun h0 => ⟨(IntWalk.i64_in _ (by omega)).trans (by omega), IntWalk.i64_in _ (by omega), by omega⟩
      have hb0 := hbw.out.drew
      have f0 := FX.out _ hb0
      have f00 := FX.out _ hbw.out
      clear hr i1 i2 i3 i4 i5 hj hz FX IN NX NUM STP NLE
      generalize L.getD k 0 = x at *
      generalize end13 hi L k = y at *
      generalize hN1 : num13 hi L key (k + 1) = N1 at *
      generalize hN0 : num13 hi L key k = N0 at *
      have HN1 := Lib.hid hN1
      clear hN1 hN0
      unfold SpF at *
      by_cases h0 : 0 < k
      · have z1 : decide ((0 : Int) < (k : Int)) = true := by simp; omega
        have z2 : decide (0 < k) = true := by simp; omega
        obtain ⟨u1, u2, u3⟩ := hwj.out h0
        obtain rfl := hzx.out h0
        clear hwj hzx
        go_wp2
        go_region_held3 (fun W => W.cell? ⟨g, o + k * 2, none⟩ = some (.int .i64 x) ∧ W.cell? ⟨g, o + (k * 2 + 1), none⟩ = some (.int .i64 y) ∧ W.cell? ⟨g, o + k * 2 + 1, none⟩ = some (.int .i64 y) ∧ W.cell? ⟨b, off + k, none⟩ = some (.int .i64 x) ∧ W.cell? ⟨g, o + j * 2 + 1, none⟩ = some (.int .i64 x))
          (assumption)
          (first
          | (go_at_call 6; (with_reducible refine (RT.out _ hb0).mono ?_); rintro e w3 ⟨rfl, hb3, f3⟩)
          | (go_at_call 8; (with_reducible refine (HS.out _ hb3).mono ?_); rintro e w4 ⟨rfl, hb4, f4⟩))
        obtain ⟨v0, v1, v2, v3, v4⟩ := f4
        cases r with
        | true =>
          rw [if_pos rfl] at ST1
          go_wp2_with (go_at_call 8; (with_reducible refine (HK.out _ hb4).mono ?_); rintro e w5 ⟨rfl, hb5⟩)
          go_roundw
          case rel => exact ⟨k + 1, by omega, by simp, by rw [HN1.out, ST1.out]; simp, hb5⟩
          case measure => simp [intOf]; omega
        | false =>
          rw [if_neg (by decide)] at ST1
          go_wp2_with (go_at_call 8; (with_reducible refine (HK.out _ hb4).mono ?_); rintro e w5 ⟨rfl, hb5⟩)
          go_roundw
          case rel => exact ⟨k + 1, by omega, by simp, by rw [HN1.out, ST1.out]; simp, hb5⟩
          case measure => simp [intOf]; omega
      · have z1 : decide ((0 : Int) < (k : Int)) = false := by simp; omega
        have z2 : decide (0 < k) = false := by simp; omega
        clear hwj hzx
        go_wp2
        refine wp_region_held_drew (S := (fun W => W.cell? ⟨g, o + k * 2, none⟩ = some (.int .i64 x) ∧ W.cell? ⟨g, o + (k * 2 + 1), none⟩ = some (.int .i64 y) ∧ W.cell? ⟨g, o + k * 2 + 1, none⟩ = some (.int .i64 y) ∧ W.cell? ⟨b, off + k, none⟩ = some (.int .i64 x) ∧ W.cell? ⟨g, o + j * 2 + 1, none⟩ = some (.int .i64 z))) (by kernel_rfl) (by assumption) (fun hHeld => ?_)
        refine wpAnyH_takeD (i := 0) (d := some 65) (v := ?va0) rfl (by rfl) (by kernel_rfl) (by kernel_rfl) (by kernel_rfl) (fun _ _ _ h => h) (Or.inl ⟨by rfl, ?hya0⟩) (by assumption) ?resta0
        case hya0 => (intro w hSw; (try dsimp only at hSw); go_simp; try (with_reducible rfl))
        try simp only [Act.put, List.setIfInBounds_toArray, List.set_cons_zero, List.set_cons_succ]
        refine wpAnyH_takeD (i := 1) (d := some 66) (v := ?va1) rfl (by rfl) (by kernel_rfl) (by kernel_rfl) (by kernel_rfl) (fun _ _ _ h => h) (Or.inl ⟨by rfl, ?hya1⟩) (by assumption) ?resta1
        case hya1 => (intro w hSw; (try dsimp only at hSw); go_simp; try (with_reducible rfl))
        try simp only [Act.put, List.setIfInBounds_toArray, List.set_cons_zero, List.set_cons_succ]
        refine wpAnyH_takeD (i := 2) (d := some 67) (v := ?va2) rfl (by rfl) (by kernel_rfl) (by kernel_rfl) (by kernel_rfl) (fun _ _ _ h => h) (Or.inl ⟨by rfl, ?hya2⟩) (by assumption) ?resta2
        case hya2 => (intro w hSw; (try dsimp only at hSw); go_simp; try (with_reducible rfl))
        try simp only [Act.put, List.setIfInBounds_toArray, List.set_cons_zero, List.set_cons_succ]
        refine wpAnyH_takeD (i := 3) (d := some 68) (v := ?va3) rfl (by rfl) (by kernel_rfl) (by kernel_rfl) (by kernel_rfl) (fun _ _ _ h => h) (Or.inl ⟨by rfl, ?hya3⟩) (by assumption) ?resta3
        case hya3 => (intro w hSw; (try dsimp only at hSw); go_simp; try (with_reducible rfl))
        try simp only [Act.put, List.setIfInBounds_toArray, List.set_cons_zero, List.set_cons_succ]
        refine wpAnyH_ready (rs := [4]) (by kernel_rfl) (by simp) ?_
        refine AllReadyH.cons rfl (fun K hK => ?_) AllReadyH.nil
        go_simp
        go_at_call 6
        (with_reducible refine (RT.out _ hb0).mono ?_)
        rintro e w3 ⟨rfl, hb3, f3⟩
        have hfa4 := f3
        refine hK.out _ _ hfa4 (fun hHelda4 => ?_)
        clear hK K
        try simp only [Act.put, List.setIfInBounds_toArray, List.set_cons_zero, List.set_cons_succ]
        refine wpAnyH_takeD (i := 5) (d := some 70) (v := ?va5) rfl (by rfl) (by kernel_rfl) (by kernel_rfl) (by kernel_rfl) (fun _ _ _ h => h) (Or.inl ⟨by rfl, ?hya5⟩) (by assumption) ?resta5
        case hya5 => (intro w hSw; (try dsimp only at hSw); go_simp; try (with_reducible rfl))
        try simp only [Act.put, List.setIfInBounds_toArray, List.set_cons_zero, List.set_cons_succ]
        refine wpAnyH_takeD (i := 6) (d := some 71) (v := ?va6) rfl (by rfl) (by kernel_rfl) (by kernel_rfl) (by kernel_rfl) (fun _ _ _ h => h) (Or.inl ⟨by rfl, ?hya6⟩) (by assumption) ?resta6
        case hya6 => (intro w hSw; (try dsimp only at hSw); go_simp; try (with_reducible rfl))
        try simp only [Act.put, List.setIfInBounds_toArray, List.set_cons_zero, List.set_cons_succ]
        refine wpAnyH_takeD (i := 7) (d := some 72) (v := ?va7) rfl (by rfl) (by kernel_rfl) (by kernel_rfl) (by kernel_rfl) (fun _ _ _ h => h) (Or.inl ⟨by rfl, ?hya7⟩) (by assumption) ?resta7
        case hya7 => (intro w hSw; (try dsimp only at hSw); go_simp; try (with_reducible rfl))
        try simp only [Act.put, List.setIfInBounds_toArray, List.set_cons_zero, List.set_cons_succ]
        refine wpAnyH_takeD (i := 8) (d := some 73) (v := ?va8) rfl (by rfl) (by kernel_rfl) (by kernel_rfl) (by kernel_rfl) (fun _ _ _ h => h) (Or.inl ⟨by rfl, ?hya8⟩) (by assumption) ?resta8
        case hya8 => (intro w hSw; (try dsimp only at hSw); go_simp; try (with_reducible rfl))
        try simp only [Act.put, List.setIfInBounds_toArray, List.set_cons_zero, List.set_cons_succ]
        refine wpAnyH_takeD (i := 9) (d := some 74) (v := ?va9) rfl (by rfl) (by kernel_rfl) (by kernel_rfl) (by kernel_rfl) (fun _ _ _ h => h) (Or.inl ⟨by rfl, ?hya9⟩) (by assumption) ?resta9
        case hya9 => (intro w hSw; (try dsimp only at hSw); go_simp; try (with_reducible rfl))
        try simp only [Act.put, List.setIfInBounds_toArray, List.set_cons_zero, List.set_cons_succ]
        refine wpAnyH_strikesD [(10, 75), (11, 76), (12, 77), (13, 78), (14, 79), (15, 80), (16, 81), (17, 82), (18, 83), (19, 84), (20, 85), (21, 86)] (by kernel_rfl) (fun _ _ _ _ h => h) (n := 12) (by assumption) rfl (by kernel_rfl) (by kernel_rfl) ?_
        try simp only [List.foldl, Act.put, List.setIfInBounds_toArray, List.set_cons_zero, List.set_cons_succ]
        refine wpAnyH_takeD (i := 22) (d := some 87) (v := ?va11) rfl (by rfl) (by kernel_rfl) (by kernel_rfl) (by kernel_rfl) (fun _ _ _ h => h) (Or.inl ⟨by rfl, ?hya11⟩) (by assumption) ?resta11
        case hya11 => (intro w hSw; (try dsimp only at hSw); go_simp; try (with_reducible rfl))
        try simp only [Act.put, List.setIfInBounds_toArray, List.set_cons_zero, List.set_cons_succ]
        refine wpAnyH_takeD (i := 23) (d := some 88) (v := ?va12) rfl (by rfl) (by kernel_rfl) (by kernel_rfl) (by kernel_rfl) (fun _ _ _ h => h) (Or.inl ⟨by rfl, ?hya12⟩) (by assumption) ?resta12
        case hya12 => (intro w hSw; (try dsimp only at hSw); go_simp; try (with_reducible rfl))
        try simp only [Act.put, List.setIfInBounds_toArray, List.set_cons_zero, List.set_cons_succ]
        refine wpAnyH_takeD (i := 24) (d := some 89) (v := ?va13) rfl (by rfl) (by kernel_rfl) (by kernel_rfl) (by kernel_rfl) (fun _ _ _ h => h) (Or.inl ⟨by rfl, ?hya13⟩) (by assumption) ?resta13
        case hya13 => (intro w hSw; (try dsimp only at hSw); go_simp; try (with_reducible rfl))
        try simp only [Act.put, List.setIfInBounds_toArray, List.set_cons_zero, List.set_cons_succ]
        refine wpAnyH_takeD (i := 25) (d := some 90) (v := ?va14) rfl (by rfl) (by kernel_rfl) (by kernel_rfl) (by kernel_rfl) (fun _ _ _ h => h) (Or.inl ⟨by rfl, ?hya14⟩) (by assumption) ?resta14
        case hya14 => (intro w hSw; (try dsimp only at hSw); go_simp; try (with_reducible rfl))
        try simp only [Act.put, List.setIfInBounds_toArray, List.set_cons_zero, List.set_cons_succ]
        refine wpAnyH_takeD (i := 26) (d := some 91) (v := ?va15) rfl (by rfl) (by kernel_rfl) (by kernel_rfl) (by kernel_rfl) (fun _ _ _ h => h) (Or.inl ⟨by rfl, ?hya15⟩) (by assumption) ?resta15
        case hya15 => (intro w hSw; (try dsimp only at hSw); go_simp; try (with_reducible rfl))
        try simp only [Act.put, List.setIfInBounds_toArray, List.set_cons_zero, List.set_cons_succ]
        refine wpAnyH_takeD (i := 27) (d := some 92) (v := ?va16) rfl (by rfl) (by kernel_rfl) (by kernel_rfl) (by kernel_rfl) (fun _ _ _ h => h) (Or.inl ⟨by rfl, ?hya16⟩) (by assumption) ?resta16
        case hya16 => (intro w hSw; (try dsimp only at hSw); go_simp; try (with_reducible rfl))
        try simp only [Act.put, List.setIfInBounds_toArray, List.set_cons_zero, List.set_cons_succ]
        refine wpAnyH_takeD (i := 28) (d := some 93) (v := ?va17) rfl (by rfl) (by kernel_rfl) (by kernel_rfl) (by kernel_rfl) (fun _ _ _ h => h) (Or.inl ⟨by rfl, ?hya17⟩) (by assumption) ?resta17
        case hya17 => (intro w hSw; (try dsimp only at hSw); go_simp; try (with_reducible rfl))
        try simp only [Act.put, List.setIfInBounds_toArray, List.set_cons_zero, List.set_cons_succ]
        refine wpAnyH_takeD (i := 29) (d := some 94) (v := ?va18) rfl (by rfl) (by kernel_rfl) (by kernel_rfl) (by kernel_rfl) (fun _ _ _ h => h) (Or.inl ⟨by rfl, ?hya18⟩) (by assumption) ?resta18
        case hya18 => (intro w hSw; (try dsimp only at hSw); go_simp; try (with_reducible rfl))
        try simp only [Act.put, List.setIfInBounds_toArray, List.set_cons_zero, List.set_cons_succ]
        refine wpAnyH_takeD (i := 30) (d := some 95) (v := ?va19) rfl (by rfl) (by kernel_rfl) (by kernel_rfl) (by kernel_rfl) (fun _ _ _ h => h) (Or.inl ⟨by rfl, ?hya19⟩) (by assumption) ?resta19
        case hya19 => (intro w hSw; (try dsimp only at hSw); go_simp; try (with_reducible rfl))
        try simp only [Act.put, List.setIfInBounds_toArray, List.set_cons_zero, List.set_cons_succ]
        refine wpAnyH_takeD (i := 31) (d := some 96) (v := ?va20) rfl (by rfl) (by kernel_rfl) (by kernel_rfl) (by kernel_rfl) (fun _ _ _ h => h) (Or.inl ⟨by rfl, ?hya20⟩) (by assumption) ?resta20
        case hya20 => (intro w hSw; (try dsimp only at hSw); go_simp; try (with_reducible rfl))
        try simp only [Act.put, List.setIfInBounds_toArray, List.set_cons_zero, List.set_cons_succ]
        refine wpAnyH_takeD (i := 32) (d := some 97) (v := ?va21) rfl (by rfl) (by kernel_rfl) (by kernel_rfl) (by kernel_rfl) (fun _ _ _ h => h) (Or.inl ⟨by rfl, ?hya21⟩) (by assumption) ?resta21
        case hya21 => (intro w hSw; (try dsimp only at hSw); go_simp; try (with_reducible rfl))
        try simp only [Act.put, List.setIfInBounds_toArray, List.set_cons_zero, List.set_cons_succ]
        refine wpAnyH_ready (rs := [33]) (by kernel_rfl) (by simp) ?_
        refine AllReadyH.cons rfl (fun K hK => ?_) AllReadyH.nil
        go_simp
        go_at_call 8
        (with_reducible refine (HS.out _ hb3).mono ?_)
        rintro e w4 ⟨rfl, hb4, f4⟩
        have hfa22 := f4
        refine hK.out _ _ hfa22 (fun hHelda22 => ?_)
        clear hK K
        try simp only [Act.put, List.setIfInBounds_toArray, List.set_cons_zero, List.set_cons_succ]
        refine wpAnyH_takeD (i := 34) (d := some 99) (v := ?va23) rfl (by rfl) (by kernel_rfl) (by kernel_rfl) (by kernel_rfl) (fun _ _ _ h => h) (Or.inl ⟨by rfl, ?hya23⟩) (by assumption) ?resta23
        case hya23 => (intro w hSw; (try dsimp only at hSw); go_simp; try (with_reducible rfl))
        try simp only [Act.put, List.setIfInBounds_toArray, List.set_cons_zero, List.set_cons_succ]
        refine wpAnyH_takeD (i := 35) (d := some 100) (v := ?va24) rfl (by rfl) (by kernel_rfl) (by kernel_rfl) (by kernel_rfl) (fun _ _ _ h => h) (Or.inl ⟨by rfl, ?hya24⟩) (by assumption) ?resta24
        case hya24 => (intro w hSw; (try dsimp only at hSw); go_simp; try (with_reducible rfl))
        try simp only [Act.put, List.setIfInBounds_toArray, List.set_cons_zero, List.set_cons_succ]
        refine wpAnyH_done (by kernel_rfl) ?_ _
        obtain ⟨v0, v1, v2, v3, v4⟩ := f4
        cases r with
        | true =>
          rw [if_pos rfl] at ST1
          go_wp2_with (go_at_call 8; (with_reducible refine (HK.out _ hb4).mono ?_); rintro e w5 ⟨rfl, hb5⟩)
          go_roundw
          case rel => exact ⟨k + 1, by omega, by simp, by rw [HN1.out, ST1.out]; simp, hb5⟩
          case measure => simp [intOf]; omega
        | false =>
          rw [if_neg (by decide)] at ST1
          go_wp2_with (go_at_call 8; (with_reducible refine (HK.out _ hb4).mono ?_); rintro e w5 ⟨rfl, hb5⟩)
          go_roundw
          case rel => exact ⟨k + 1, by omega, by simp, by rw [HN1.out, ST1.out]; simp, hb5⟩
          case measure => simp [intOf]; omega
    · obtain rfl : k = n := by omega
      have hb3 := Lib.hid (HB2.out.trans (hbw.out.mono HB2.out.size))
      obtain ⟨c0, c1⟩ := (HS2.out.later hbw.out).cs
      have ck : wr.cell? ⟨b, off, none⟩ = some (.int .i64 x0) := (hbw.out.cell (p := ⟨b, off, none⟩) (cell_lt e2)).trans e2
      clear e2 q0 q1
      have hN := NUM.out
      generalize num13 hi L key k = N at *
      by_cases p1 : x0 ≤ key
      · have p2 : decide (x0 ≤ key) = true := by simpa using p1
        by_cases p3 : key < hi
        · have p4 : decide (key < hi) = true := by simpa using p3
          rw [if_pos ⟨p1, p3⟩] at hN
          subst hN
          clear p1 p3
          go_wp2_with (go_at_call 5; (with_reducible refine (LV.out _ hb3.out).mono ?_); rintro e w12 ⟨rfl, hb4⟩)
          go_ret
          exact ⟨rfl, hb4⟩
        · have p4 : decide (key < hi) = false := by simpa using p3
          rw [if_neg (fun h => p3 h.2)] at hN
          subst hN
          clear p1 p3
          go_wp2_with (go_at_call 5; (with_reducible refine (LV.out _ hb3.out).mono ?_); rintro e w12 ⟨rfl, hb4⟩)
          go_ret
          exact ⟨rfl, hb4⟩
      · have p2 : decide (x0 ≤ key) = false := by simpa using p1
        rw [if_neg (fun h => p1 h.1)] at hN
        subst hN
        clear p1
        go_wp2_with (go_at_call 5; (with_reducible refine (LV.out _ hb3.out).mono ?_); rintro e w12 ⟨rfl, hb4⟩)
        go_ret
        exact ⟨rfl, hb4⟩

set_option maxRecDepth 100000 in
set_option maxHeartbeats 1600000 in
theorem spansplits_walk (lo hi : Int) (A : Option Addr) (n c : Nat) (L : List Int) (key : Int) (w : World) (_hlo : -9223372036854775808 ≤ lo ∧ lo ≤ 9223372036854775807) (_hhi : -9223372036854775808 ≤ hi ∧ hi ≤ 9223372036854775807)
    (h : Ints w A n c L) (_hb : ∀ x ∈ L, -9223372036854775808 ≤ x ∧ x ≤ 9223372036854775807) (_hi : -9223372036854775808 ≤ key ∧ key ≤ 9223372036854775807) :
    Calls Try.prog 4 #[spnV lo hi, .slice A n c, .int .i64 key] w fun e w' => e = .returned (.bool true) ∧ Below w.heap.size w w' := by
  by_cases hn : n ≤ 200
  · by_cases hf : fit13 lo hi L = 0
    · by_cases hp : 0 < n
      · exact splits_some lo hi A n c L key w h hn hf hp
      · exact splits_none lo hi A n c L key w h hn (.inr (by omega))
    · exact splits_none lo hi A n c L key w h hn (.inl hf)
  · have hS0 := TlS.start w lo hi
    have hle := h.le
    have dl : decide ((200 : Int) < (n : Int)) = true := by simp; omega
    have LV := Lib.hid (lives13_any (w.alloc (.cells #[.int .i64 lo, .int .i64 hi] 23)))
    have HS := Lib.hid hS0
    clear h hS0 _hlo _hhi _hb _hi
    go_enter Try.func4, Try.ntmps4
    go_wp2_with (go_at_call 5; (with_reducible refine (LV.out).mono ?_); rintro e w5 ⟨rfl, hb5⟩)
    go_ret
    exact ⟨rfl, HS.out.bel.trans (hb5.mono HS.out.bel.size)⟩

end Go.Proofs.Ytkodddklomegfaa
