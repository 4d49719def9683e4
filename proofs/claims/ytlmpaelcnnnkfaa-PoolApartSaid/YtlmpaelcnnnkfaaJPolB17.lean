/-
  Joined: PgB, PolZ.
-/
import Derived.Deep.RegionHeld3
import Derived.BigQuiet
import Derived.Test.YtlmpaelcnnnkfaaJPolB15
import Derived.Test.YtlmpaelcnnnkfaaJPolB16
/-
  Layer 18: sound.
-/
namespace Go.Proofs.Ytlmpaelcnnnkfaa
open Go.RowKit
set_option linter.unusedVariables false
set_option linter.unusedSimpArgs false

/-- the first device whose own numbers are wrong, and what is wrong -/
def Snd18 (ds : List Dev18) (k : Nat) (e : Int) : Prop := (∀ j, j < k → devS18 none ds j = 0) ∧ ((k < ds.length ∧ devS18 none ds k = e ∧ e ≠ 0) ∨ (k = ds.length ∧ e = 0))
theorem devS18_bad {ds : List Dev18} {k : Nat} (h : devR18 (ds.getD k zero18) = false) : devS18 none ds k = 2 := by unfold devS18; rw [if_pos h]
theorem devS18_ord {ds : List Dev18} {k : Nat} (h : devR18 (ds.getD k zero18) = true) (hk : 0 < k) (ho : (ds.getD k zero18).id ≤ (ds.getD (k - 1) zero18).id) : devS18 none ds k = 8 := by
  unfold devS18
  rw [if_neg (by rw [h]; decide), if_pos ⟨_, by rw [if_neg (by omega)], ho⟩]
theorem devS18_first {ds : List Dev18} (h : devR18 (ds.getD 0 zero18) = true) : devS18 none ds 0 = 0 := by
  unfold devS18
  rw [if_neg (by rw [h]; decide), if_neg (by rintro ⟨y, hy, _⟩; simp at hy)]
theorem devS18_good {ds : List Dev18} {k : Nat} (h : devR18 (ds.getD k zero18) = true) (hk : 0 < k) (ho : ¬ (ds.getD k zero18).id ≤ (ds.getD (k - 1) zero18).id) : devS18 none ds k = 0 := by
  unfold devS18
  rw [if_neg (by rw [h]; decide), if_neg (by
    rintro ⟨y, hy, h2⟩
    rw [if_neg (by omega)] at hy
    cases hy
    exact ho h2)]

set_option maxRecDepth 100000 in
set_option maxHeartbeats 3200000 in
theorem sound_any18 (ds : List Dev18) (A : Option Addr) (n c : Nat) (w : World) (h : Dvs w A n c ds) :
    Calls Try.prog 24 #[.slice A n c] w fun e w' => ∃ (k : Nat) (x : Int), e = .returned (.tuple #[.int .i64 (k : Int), .int .i64 x]) ∧ Hid (Snd18 ds k x) ∧ k ≤ n ∧ Below w.heap.size w w' := by
  have hle : n ≤ 9223372036854775807 := Nat.le_trans h.cap h.most
  have hl := h.len
  have HD := Lib.hid h
  have BAD : Hid (∀ k, k < n → (∀ j, j < k → devS18 none ds j = 0) → devR18 (ds.getD k zero18) = false → Snd18 ds k 2) := fun k hk hj hd => ⟨hj, .inl ⟨by omega, devS18_bad hd, by decide⟩⟩
  have ORD : Hid (∀ k, k < n → (∀ j, j < k → devS18 none ds j = 0) → devR18 (ds.getD k zero18) = true → 0 < k → (ds.getD k zero18).id ≤ (ds.getD (k - 1) zero18).id → Snd18 ds k 8) := fun k hk hj hd h0 ho => ⟨hj, .inl ⟨by omega, devS18_ord hd h0 ho, by decide⟩⟩
  have GOOD : Hid (∀ k, k < n → (∀ j, j < k → devS18 none ds j = 0) → devR18 (ds.getD k zero18) = true → 0 < k → ¬ (ds.getD k zero18).id ≤ (ds.getD (k - 1) zero18).id → ∀ j, j < k + 1 → devS18 none ds j = 0) := fun k hk hj hd h0 ho j hjk => by
    by_cases e : j = k
    · rw [e]; exact devS18_good hd h0 ho
    · exact hj j (by omega)
  have FST : Hid (devR18 (ds.getD 0 zero18) = true → ∀ j, j < 0 + 1 → devS18 none ds j = 0) := fun hd j hj => by
    obtain rfl : j = 0 := by omega
    exact devS18_first hd
  have END : Hid ((∀ j, j < n → devS18 none ds j = 0) → Snd18 ds n 0) := fun hj => ⟨hj, .inr ⟨hl.symm, rfl⟩⟩
  clear h
  go_enter Try.func24, Try.ntmps24
  go_wp2
  go_loopw [8] (fun i wr => ∃ (k : Nat), k ≤ n ∧ i = .int .i64 k ∧ Hid (∀ j, j < k → devS18 none ds j = 0) ∧ Hid (Below w.heap.size w wr)) (fun i _ => n - (intOf i).toNat)
  case atStart => exact ⟨0, by omega, rfl, fun j hj => by omega, Below.refl _ _⟩
  case round =>
    obtain ⟨k, hk, rfl, hJ, hbel⟩ := hrel
    by_cases hlt : k < n
    · obtain ⟨b, off, A', m, c', rfl, hb, d0, d1, d2, d3, d4, hT⟩ := HD.out.at18 hlt
      have g0 := (hbel.out.cell (p := ⟨b, off + k * 5, none⟩) hb).trans d0
      have g1 := (hbel.out.cell (p := ⟨b, off + k * 5 + 1, none⟩) hb).trans d1
      have g2 := (hbel.out.cell (p := ⟨b, off + k * 5 + 2, none⟩) hb).trans d2
      have g3 := (hbel.out.cell (p := ⟨b, off + k * 5 + 3, none⟩) hb).trans d3
      have g4 := (hbel.out.cell (p := ⟨b, off + k * 5 + 4, none⟩) hb).trans d4
      have HBN := fun o => Lib.hid (hbel.out.alloc hbel.out.size o)
      have BD := Lib.hid (BAD.out k hlt hJ.out)
      have OD := Lib.hid (ORD.out k hlt hJ.out)
      have GD := Lib.hid (GOOD.out k hlt hJ.out)
      have hRd : Hid (devR18 (ds.getD k zero18) = (in18 (ds.getD k zero18).id 0 16777215 && in18 (ds.getD k zero18).tx 0 2147483647 && in18 (ds.getD k zero18).made 0 16777215 && in18 (ds.getD k zero18).snap 0 16777215)) := Lib.hid rfl
      have I0 := Lib.hid (fun W => within_any18 (ds.getD k zero18).id 0 16777215 W)
      have I1 := Lib.hid (fun W => within_any18 (ds.getD k zero18).tx 0 2147483647 W)
      have I2 := Lib.hid (fun W => within_any18 (ds.getD k zero18).made 0 16777215 W)
      have I3 := Lib.hid (fun W => within_any18 (ds.getD k zero18).snap 0 16777215 W)
      by_cases hkp0 : k = 0
      · have FD : Hid (devR18 (ds.getD k zero18) = true → ∀ j, j < k + 1 → devS18 none ds j = 0) := by rw [hkp0]; exact FST
        have hkz : ¬ (0 : Int) < (k : Int) := by omega
        have hkd : decide ((0 : Int) < (k : Int)) = false := by simpa using hkz
        have hkd2 : decide (0 < k) = false := by simpa using hkp0
        clear BAD ORD GOOD FST END d0 d1 d2 d3 d4 hT OD GD hJ hkp0
        generalize (devR18 (ds.getD k zero18)) = rd at *
        generalize in18 (ds.getD k zero18).id 0 16777215 = r0 at *
        generalize in18 (ds.getD k zero18).tx 0 2147483647 = r1 at *
        generalize in18 (ds.getD k zero18).made 0 16777215 = r2 at *
        generalize in18 (ds.getD k zero18).snap 0 16777215 = r3 at *
        generalize (ds.getD k zero18).id = x0 at *
        generalize (ds.getD k zero18).tx = x1 at *
        generalize (ds.getD k zero18).made = x2 at *
        generalize (ds.getD k zero18).snap = x3 at *
        cases r0 <;> cases r1 <;> cases r2 <;> cases r3
        rotate_right 1
        · go_wp2_with (go_at_call 35; (first
             | (with_reducible refine (I0.out _).mono ?_)
             | (with_reducible refine (I1.out _).mono ?_)
             | (with_reducible refine (I2.out _).mono ?_)
             | (with_reducible refine (I3.out _).mono ?_)); rintro e w' ⟨rfl, rfl⟩)
          go_quiet (fail)
          go_wp2
          go_roundw
          all_goals first
            | exact ⟨k + 1, by omega, by push_cast; rfl, FD.out hRd.out, below_drewN (HBN _).out _⟩
            | (simp only [intOf]; omega)
        all_goals
          go_wp2_with (go_at_call 35; (first
             | (with_reducible refine (I0.out _).mono ?_)
             | (with_reducible refine (I1.out _).mono ?_)
             | (with_reducible refine (I2.out _).mono ?_)
             | (with_reducible refine (I3.out _).mono ?_)); rintro e w' ⟨rfl, rfl⟩)
          go_ret2
          exact ⟨k, 2, rfl, BD.out hRd.out, by omega, (HBN _).out⟩
      · obtain ⟨k', hkk⟩ : ∃ k', k = k' + 1 := ⟨k - 1, by omega⟩
        obtain ⟨b2, off2, A2, m2, c2, e2, hb2, p0, _⟩ := HD.out.at18 (k := k') (by omega)
        cases e2
        have q0 := (hbel.out.cell (p := ⟨b, off + k' * 5, none⟩) hb).trans p0
        have q0a := ((((Below.refl wr.heap.size wr).alloc (Nat.le_refl _) (.cells #[.int .i64 (ds.getD k zero18).id, .int .i64 (ds.getD k zero18).tx, .int .i64 (ds.getD k zero18).made, .int .i64 (ds.getD k zero18).snap, .slice A' m c'] 32)).cell (p := ⟨b, off + k' * 5, none⟩) (cell_lt q0))).trans q0
        have ek : k - 1 = k' := by omega
        rw [ek] at OD GD
        have hw : IntKind.i64.wrap ((k : Int) - 1) = (k' : Int) := (IntWalk.i64_in _ (by omega)).trans (by omega)
        have hw2 : IntKind.i64.wrap (k' : Int) = (k' : Int) := IntWalk.i64_in _ (by omega)
        have hkp : 0 < k := by omega
        have hkp2 : k' < n := by omega
        have HKK := Lib.hid hkk
        have hkd : decide ((0 : Int) < (k : Int)) = true := by simpa using hkp
        have hkd2 : decide (0 < k) = true := by simpa using hkp
        clear BAD ORD GOOD FST END d0 d1 d2 d3 d4 hT hJ p0 hkk ek hkp0
        generalize (devR18 (ds.getD k zero18)) = rd at *
        generalize in18 (ds.getD k zero18).id 0 16777215 = r0 at *
        generalize in18 (ds.getD k zero18).tx 0 2147483647 = r1 at *
        generalize in18 (ds.getD k zero18).made 0 16777215 = r2 at *
        generalize in18 (ds.getD k zero18).snap 0 16777215 = r3 at *
        generalize (ds.getD k zero18).id = x0 at *
        generalize (ds.getD k zero18).tx = x1 at *
        generalize (ds.getD k zero18).made = x2 at *
        generalize (ds.getD k zero18).snap = x3 at *
        generalize (ds.getD k' zero18).id = y0 at *
        by_cases hxy : x0 ≤ y0
        · have hd : decide (x0 ≤ y0) = true := by simpa using hxy
          have OD2 := Lib.hid (fun h => OD.out h hkp hxy)
          clear GD OD hxy
          cases r0 <;> cases r1 <;> cases r2 <;> cases r3
          rotate_right 1
          · go_wp2_with (go_at_call 35; (first
             | (with_reducible refine (I0.out _).mono ?_)
             | (with_reducible refine (I1.out _).mono ?_)
             | (with_reducible refine (I2.out _).mono ?_)
             | (with_reducible refine (I3.out _).mono ?_)); rintro e w' ⟨rfl, rfl⟩)
            go_quiet (fail)
            go_wp2
            go_ret2
            exact ⟨k, 8, rfl, OD2.out hRd.out, by omega, below_drewN (HBN _).out _⟩
          all_goals
            go_wp2_with (go_at_call 35; (first
             | (with_reducible refine (I0.out _).mono ?_)
             | (with_reducible refine (I1.out _).mono ?_)
             | (with_reducible refine (I2.out _).mono ?_)
             | (with_reducible refine (I3.out _).mono ?_)); rintro e w' ⟨rfl, rfl⟩)
            go_ret2
            exact ⟨k, 2, rfl, BD.out hRd.out, by omega, (HBN _).out⟩
        · have hd : decide (x0 ≤ y0) = false := by simpa using hxy
          have GD2 := Lib.hid (fun h => GD.out h hkp (by omega))
          clear GD OD hxy
          cases r0 <;> cases r1 <;> cases r2 <;> cases r3
          rotate_right 1
          · go_wp2_with (go_at_call 35; (first
             | (with_reducible refine (I0.out _).mono ?_)
             | (with_reducible refine (I1.out _).mono ?_)
             | (with_reducible refine (I2.out _).mono ?_)
             | (with_reducible refine (I3.out _).mono ?_)); rintro e w' ⟨rfl, rfl⟩)
            go_quiet (fail)
            go_wp2
            go_roundw
            all_goals first
              | exact ⟨k + 1, by omega, by push_cast; rfl, GD2.out hRd.out, below_drewN (HBN _).out _⟩
              | (simp only [intOf]; omega)
          all_goals
            go_wp2_with (go_at_call 35; (first
             | (with_reducible refine (I0.out _).mono ?_)
             | (with_reducible refine (I1.out _).mono ?_)
             | (with_reducible refine (I2.out _).mono ?_)
             | (with_reducible refine (I3.out _).mono ?_)); rintro e w' ⟨rfl, rfl⟩)
            go_ret2
            exact ⟨k, 2, rfl, BD.out hRd.out, by omega, (HBN _).out⟩
    · obtain rfl : k = n := by omega
      have HE := Lib.hid (END.out hJ.out)
      go_wp2
      go_ret2
      exact ⟨_, _, rfl, HE.out, Nat.le_refl _, hbel.out⟩
end Go.Proofs.Ytlmpaelcnnnkfaa

/-
  Layer 18: the reference's Check, its loops; Refs of a pool that may not be.
-/
namespace Go.Proofs.Ytlmpaelcnnnkfaa
open Go.RowKit
set_option linter.unusedVariables false
set_option linter.unusedSimpArgs false

end Go.Proofs.Ytlmpaelcnnnkfaa
