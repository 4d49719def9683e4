/-
  Joined: PgB, PolZ, SizR.
-/
import Derived.Deep.RegionHeld3
import Derived.BigQuiet
import Derived.Test.YtcmehjjaologpaaJSiz17
import Derived.Test.YtcmehjjaologpaaJSiz18
import Derived.Test.YtcmehjjaologpaaJSiz16
import Derived.Test.YtcmehjjaologpaaJSiz09
/-
  Layer 18: sound.
-/
namespace Go.Proofs.Ytcmehjjaologpaa
open Go.RowKit
set_option linter.unusedVariables false
set_option linter.unusedSimpArgs false

/-- the first device whose own numbers are wrong, and what is wrong -/
def Snd18 (ds : List Dev18) (k : Nat) (e : Int) : Prop := (∀ j, j < k → devS18 none ds j = 0) ∧ ((k < ds.length ∧ devS18 none ds k = e ∧ e ≠ 0) ∨ (k = ds.length ∧ e = 0))
theorem devS18_bad {ds : List Dev18} {k : Nat} (h : devR18 (ds.getD k zero18) = false) : devS18 none ds k = 2 := by unfold devS18; rw [if_pos h]
theorem devS18_ord {ds : List Dev18} {k : Nat} (h : devR18 (ds.getD k zero18) = true) (hk : 0 < k) (ho : (ds.getD k zero18).id ≤ (ds.getD (k - 1) zero18).id) : devS18 none ds k = 8 := by
  unfold devS18
  rw [if_neg (by rw [h]; decide), if_pos ⟨_, by rw [if_neg (by omega)], ho⟩]
theorem devS18_first {ds : List Dev18} (h : devR18 (ds.getD 0 zero18) = true) : devS18 none ds 0 = 0 := by
  unfold devS18
  rw [if_neg (by rw [h]; decide), if_neg (by rintro ⟨y, hy, _⟩; simp at hy)]
theorem devS18_good {ds : List Dev18} {k : Nat} (h : devR18 (ds.getD k zero18) = true) (hk : 0 < k) (ho : ¬ (ds.getD k zero18).id ≤ (ds.getD (k - 1) zero18).id) : devS18 none ds k = 0 := by
  unfold devS18
  rw [if_neg (by rw [h]; decide), if_neg (by
    rintro ⟨y, hy, h2⟩
    rw [if_neg (by omega)] at hy
    cases hy
    exact ho h2)]

set_option maxRecDepth 100000 in
set_option maxHeartbeats 3200000 in
theorem sound_any18 (ds : List Dev18) (A : Option Addr) (n c : Nat) (w : World) (h : Dvs w A n c ds) :
    Calls Try.prog 26 #[.slice A n c] w fun e w' => ∃ (k : Nat) (x : Int), e = .returned (.tuple #[.int .i64 (k : Int), .int .i64 x]) ∧ Hid (Snd18 ds k x) ∧ k ≤ n ∧ Below w.heap.size w w' := by
  have hle : n ≤ 9223372036854775807 := Nat.le_trans h.cap h.most
  have hl := h.len
  have HD := Lib.hid h
  have BAD : Hid (∀ k, k < n → (∀ j, j < k → devS18 none ds j = 0) → devR18 (ds.getD k zero18) = false → Snd18 ds k 2) := fun k hk hj hd => ⟨hj, .inl ⟨by omega, devS18_bad hd, by decide⟩⟩
  have ORD : Hid (∀ k, k < n → (∀ j, j < k → devS18 none ds j = 0) → devR18 (ds.getD k zero18) = true → 0 < k → (ds.getD k zero18).id ≤ (ds.getD (k - 1) zero18).id → Snd18 ds k 8) := fun k hk hj hd h0 ho => ⟨hj, .inl ⟨by omega, devS18_ord hd h0 ho, by decide⟩⟩
  have GOOD : Hid (∀ k, k < n → (∀ j, j < k → devS18 none ds j = 0) → devR18 (ds.getD k zero18) = true → 0 < k → ¬ (ds.getD k zero18).id ≤ (ds.getD (k - 1) zero18).id → ∀ j, j < k + 1 → devS18 none ds j = 0) := fun k hk hj hd h0 ho j hjk => by
    by_cases e : j = k
    · rw [e]; exact devS18_good hd h0 ho
    · exact hj j (by omega)
  have FST : Hid (devR18 (ds.getD 0 zero18) = true → ∀ j, j < 0 + 1 → devS18 none ds j = 0) := fun hd j hj => by
    obtain rfl : j = 0 := by omega
    exact devS18_first hd
  have END : Hid ((∀ j, j < n → devS18 none ds j = 0) → Snd18 ds n 0) := fun hj => ⟨hj, .inr ⟨hl.symm, rfl⟩⟩
  clear h
  go_enter Try.func26, Try.ntmps26
  go_wp2
  go_loopw [8] (fun i wr => ∃ (k : Nat), k ≤ n ∧ i = .int .i64 k ∧ Hid (∀ j, j < k → devS18 none ds j = 0) ∧ Hid (Below w.heap.size w wr)) (fun i _ => n - (intOf i).toNat)
  case atStart => exact ⟨0, by omega, rfl, fun j hj => by omega, Below.refl _ _⟩
  case round =>
    obtain ⟨k, hk, rfl, hJ, hbel⟩ := hrel
    by_cases hlt : k < n
    · obtain ⟨b, off, A', m, c', rfl, hb, d0, d1, d2, d3, d4, hT⟩ := HD.out.at18 hlt
      have g0 := (hbel.out.cell (p := ⟨b, off + k * 5, none⟩) hb).trans d0
      have g1 := (hbel.out.cell (p := ⟨b, off + k * 5 + 1, none⟩) hb).trans d1
      have g2 := (hbel.out.cell (p := ⟨b, off + k * 5 + 2, none⟩) hb).trans d2
      have g3 := (hbel.out.cell (p := ⟨b, off + k * 5 + 3, none⟩) hb).trans d3
      have g4 := (hbel.out.cell (p := ⟨b, off + k * 5 + 4, none⟩) hb).trans d4
      have HBN := fun o => Lib.hid (hbel.out.alloc hbel.out.size o)
      have BD := Lib.hid (BAD.out k hlt hJ.out)
      have OD := Lib.hid (ORD.out k hlt hJ.out)
      have GD := Lib.hid (GOOD.out k hlt hJ.out)
      have hRd : Hid (devR18 (ds.getD k zero18) = (in18 (ds.getD k zero18).id 0 16777215 && in18 (ds.getD k zero18).tx 0 2147483647 && in18 (ds.getD k zero18).made 0 16777215 && in18 (ds.getD k zero18).snap 0 16777215)) := Lib.hid rfl
      have I0 := Lib.hid (fun W => within_any18 (ds.getD k zero18).id 0 16777215 W)
      have I1 := Lib.hid (fun W => within_any18 (ds.getD k zero18).tx 0 2147483647 W)
      have I2 := Lib.hid (fun W => within_any18 (ds.getD k zero18).made 0 16777215 W)
      have I3 := Lib.hid (fun W => within_any18 (ds.getD k zero18).snap 0 16777215 W)
      by_cases hkp0 : k = 0
      · have FD : Hid (devR18 (ds.getD k zero18) = true → ∀ j, j < k + 1 → devS18 none ds j = 0) := by rw [hkp0]; exact FST
        have hkz : ¬ (0 : Int) < (k : Int) := by omega
        have hkd : decide ((0 : Int) < (k : Int)) = false := by simpa using hkz
        have hkd2 : decide (0 < k) = false := by simpa using hkp0
        clear BAD ORD GOOD FST END d0 d1 d2 d3 d4 hT OD GD hJ hkp0
        generalize (devR18 (ds.getD k zero18)) = rd at *
        generalize in18 (ds.getD k zero18).id 0 16777215 = r0 at *
        generalize in18 (ds.getD k zero18).tx 0 2147483647 = r1 at *
        generalize in18 (ds.getD k zero18).made 0 16777215 = r2 at *
        generalize in18 (ds.getD k zero18).snap 0 16777215 = r3 at *
        generalize (ds.getD k zero18).id = x0 at *
        generalize (ds.getD k zero18).tx = x1 at *
        generalize (ds.getD k zero18).made = x2 at *
        generalize (ds.getD k zero18).snap = x3 at *
        cases r0 <;> cases r1 <;> cases r2 <;> cases r3
        rotate_right 1
        · go_wp2_with (go_at_call 34; (first
             | (with_reducible refine (I0.out _).mono ?_)
             | (with_reducible refine (I1.out _).mono ?_)
             | (with_reducible refine (I2.out _).mono ?_)
             | (with_reducible refine (I3.out _).mono ?_)); rintro e w' ⟨rfl, rfl⟩)
          go_quiet (fail)
          go_wp2
          go_roundw
          all_goals first
            | exact ⟨k + 1, by omega, by push_cast; rfl, FD.out hRd.out, below_drewN (HBN _).out _⟩
            | (simp only [intOf]; omega)
        all_goals
          go_wp2_with (go_at_call 34; (first
             | (with_reducible refine (I0.out _).mono ?_)
             | (with_reducible refine (I1.out _).mono ?_)
             | (with_reducible refine (I2.out _).mono ?_)
             | (with_reducible refine (I3.out _).mono ?_)); rintro e w' ⟨rfl, rfl⟩)
          go_ret2
          exact ⟨k, 2, rfl, BD.out hRd.out, by omega, (HBN _).out⟩
      · obtain ⟨k', hkk⟩ : ∃ k', k = k' + 1 := ⟨k - 1, by omega⟩
        obtain ⟨b2, off2, A2, m2, c2, e2, hb2, p0, _⟩ := HD.out.at18 (k := k') (by omega)
        cases e2
        have q0 := (hbel.out.cell (p := ⟨b, off + k' * 5, none⟩) hb).trans p0
        have q0a := ((((Below.refl wr.heap.size wr).alloc (Nat.le_refl _) (.cells #[.int .i64 (ds.getD k zero18).id, .int .i64 (ds.getD k zero18).tx, .int .i64 (ds.getD k zero18).made, .int .i64 (ds.getD k zero18).snap, .slice A' m c'] 36)).cell (p := ⟨b, off + k' * 5, none⟩) (cell_lt q0))).trans q0
        have ek : k - 1 = k' := by omega
        rw [ek] at OD GD
        have hw : IntKind.i64.wrap ((k : Int) - 1) = (k' : Int) := (IntWalk.i64_in _ (by omega)).trans (by omega)
        have hw2 : IntKind.i64.wrap (k' : Int) = (k' : Int) := IntWalk.i64_in _ (by omega)
        have hkp : 0 < k := by omega
        have hkp2 : k' < n := by omega
        have HKK := Lib.hid hkk
        have hkd : decide ((0 : Int) < (k : Int)) = true := by simpa using hkp
        have hkd2 : decide (0 < k) = true := by simpa using hkp
        clear BAD ORD GOOD FST END d0 d1 d2 d3 d4 hT hJ p0 hkk ek hkp0
        generalize (devR18 (ds.getD k zero18)) = rd at *
        generalize in18 (ds.getD k zero18).id 0 16777215 = r0 at *
        generalize in18 (ds.getD k zero18).tx 0 2147483647 = r1 at *
        generalize in18 (ds.getD k zero18).made 0 16777215 = r2 at *
        generalize in18 (ds.getD k zero18).snap 0 16777215 = r3 at *
        generalize (ds.getD k zero18).id = x0 at *
        generalize (ds.getD k zero18).tx = x1 at *
        generalize (ds.getD k zero18).made = x2 at *
        generalize (ds.getD k zero18).snap = x3 at *
        generalize (ds.getD k' zero18).id = y0 at *
        by_cases hxy : x0 ≤ y0
        · have hd : decide (x0 ≤ y0) = true := by simpa using hxy
          have OD2 := Lib.hid (fun h => OD.out h hkp hxy)
          clear GD OD hxy
          cases r0 <;> cases r1 <;> cases r2 <;> cases r3
          rotate_right 1
          · go_wp2_with (go_at_call 34; (first
             | (with_reducible refine (I0.out _).mono ?_)
             | (with_reducible refine (I1.out _).mono ?_)
             | (with_reducible refine (I2.out _).mono ?_)
             | (with_reducible refine (I3.out _).mono ?_)); rintro e w' ⟨rfl, rfl⟩)
            go_quiet (fail)
            go_wp2
            go_ret2
            exact ⟨k, 8, rfl, OD2.out hRd.out, by omega, below_drewN (HBN _).out _⟩
          all_goals
            go_wp2_with (go_at_call 34; (first
             | (with_reducible refine (I0.out _).mono ?_)
             | (with_reducible refine (I1.out _).mono ?_)
             | (with_reducible refine (I2.out _).mono ?_)
             | (with_reducible refine (I3.out _).mono ?_)); rintro e w' ⟨rfl, rfl⟩)
            go_ret2
            exact ⟨k, 2, rfl, BD.out hRd.out, by omega, (HBN _).out⟩
        · have hd : decide (x0 ≤ y0) = false := by simpa using hxy
          have GD2 := Lib.hid (fun h => GD.out h hkp (by omega))
          clear GD OD hxy
          cases r0 <;> cases r1 <;> cases r2 <;> cases r3
          rotate_right 1
          · go_wp2_with (go_at_call 34; (first
             | (with_reducible refine (I0.out _).mono ?_)
             | (with_reducible refine (I1.out _).mono ?_)
             | (with_reducible refine (I2.out _).mono ?_)
             | (with_reducible refine (I3.out _).mono ?_)); rintro e w' ⟨rfl, rfl⟩)
            go_quiet (fail)
            go_wp2
            go_roundw
            all_goals first
              | exact ⟨k + 1, by omega, by push_cast; rfl, GD2.out hRd.out, below_drewN (HBN _).out _⟩
              | (simp only [intOf]; omega)
          all_goals
            go_wp2_with (go_at_call 34; (first
             | (with_reducible refine (I0.out _).mono ?_)
             | (with_reducible refine (I1.out _).mono ?_)
             | (with_reducible refine (I2.out _).mono ?_)
             | (with_reducible refine (I3.out _).mono ?_)); rintro e w' ⟨rfl, rfl⟩)
            go_ret2
            exact ⟨k, 2, rfl, BD.out hRd.out, by omega, (HBN _).out⟩
    · obtain rfl : k = n := by omega
      have HE := Lib.hid (END.out hJ.out)
      go_wp2
      go_ret2
      exact ⟨_, _, rfl, HE.out, Nat.le_refl _, hbel.out⟩
end Go.Proofs.Ytcmehjjaologpaa

/-
  Layer 18: the reference's Check, its loops; Refs of a pool that may not be.
-/
namespace Go.Proofs.Ytcmehjjaologpaa
open Go.RowKit
set_option linter.unusedVariables false
set_option linter.unusedSimpArgs false

theorem mapAt18_bad {data : Int} {l : List (Int × Int × Int)} {k : Nat} (h : mapR18 data (l.getD k (0, 0, 0)) = false) : mapAt18 data none l k = 2 := by unfold mapAt18; rw [if_pos h]
theorem mapAt18_first {data : Int} {l : List (Int × Int × Int)} (h : mapR18 data (l.getD 0 (0, 0, 0)) = true) : mapAt18 data none l 0 = 0 := by
  unfold mapAt18
  rw [if_neg (by rw [h]; decide), if_neg (by rintro ⟨y, hy, _⟩; simp at hy)]
theorem mapAt18_ord {data : Int} {l : List (Int × Int × Int)} {k : Nat} (h : mapR18 data (l.getD k (0, 0, 0)) = true) (hk : 0 < k) (ho : (l.getD k (0, 0, 0)).1 ≤ (l.getD (k - 1) (0, 0, 0)).1) : mapAt18 data none l k = 8 := by
  unfold mapAt18
  rw [if_neg (by rw [h]; decide), if_pos ⟨_, by rw [if_neg (by omega)], ho⟩]
theorem mapAt18_good {data : Int} {l : List (Int × Int × Int)} {k : Nat} (h : mapR18 data (l.getD k (0, 0, 0)) = true) (hk : 0 < k) (ho : ¬ (l.getD k (0, 0, 0)).1 ≤ (l.getD (k - 1) (0, 0, 0)).1) : mapAt18 data none l k = 0 := by
  unfold mapAt18
  rw [if_neg (by rw [h]; decide), if_neg (by
    rintro ⟨y, hy, h2⟩
    rw [if_neg (by omega)] at hy
    cases hy
    exact ho h2)]

theorem DevC.drew18 {W : World} {b : Nat} {v0 v1 v2 v3 v4 : Value} (h : DevC W b v0 v1 v2 v3 v4) (q : Nat) : DevC (W.drewN q) b v0 v1 v2 v3 v4 := ((below_drewN (Below.refl W.heap.size W) q).block b (block_lt h)).trans h
/-- what the loop over mappings wants: data in range, what was found till now, what may come -/
structure ChkI18 (data : Int) (ms : List (Int × Int × Int)) (F : Prop) (R : Int) : Prop where
  bad : ∀ k e, k < ms.length → (∀ j, j < k → mapAt18 data none ms j = 0) → mapAt18 data none ms k = e → e ≠ 0 → R = e
  all : (∀ j, j < ms.length → mapAt18 data none ms j = 0) → F

set_option maxRecDepth 100000 in
set_option maxHeartbeats 6400000 in
theorem refCheck_good18 (p : Pol18) (A : Option Addr) (n c : Nat) (w : World) (h : Dvs w A n c p.devs) (hc : cnt18 p.devs ≤ 1000000) (hh : headR18 p = true) (h2 : ¬ (4096 < p.devs.length ∨ 16384 < cnt18 p.devs)) :
    Calls Try.prog 22 #[polV18 p A n c] w fun e w' => e = .returned (.int .i64 (chkE18 p)) ∧ Below w.heap.size w w' := by
  rw [chkE18_devs hh h2]
  have hle : n ≤ 9223372036854775807 := Nat.le_trans h.cap h.most
  have hl := h.len
  have hn4 : n ≤ 4096 := by omega
  obtain ⟨W0, hW0⟩ : ∃ W0, w.alloc (.cells #[.int .i64 p.tx, .int .i64 p.time, .int .i64 p.unit, .int .i64 p.data, .slice A n c] 24) = W0 := ⟨_, rfl⟩
  have hs0 : W0.heap.size = w.heap.size + 1 := by rw [← hW0]; exact World.size_alloc _ _
  have hb0 : Below w.heap.size w W0 := by rw [← hW0]; exact (Below.refl _ _).alloc (Nat.le_refl _) _
  have hR0 : PolC W0 w.heap.size (.int .i64 p.tx) (.int .i64 p.time) (.int .i64 p.unit) (.int .i64 p.data) (.slice A n c) := by rw [← hW0]; exact heap_alloc_new w _
  obtain ⟨c0, c1, c2, c3, c4⟩ := hR0.cs
  have HB := Lib.hid hb0
  have CT := Lib.hid (refCount_any18 p A n c W0 (h.below hb0) hc)
  unfold polV18 at CT
  have hx16 : cnt18 p.devs ≤ 16384 := by omega
  have I0 := Lib.hid (fun W => refIn_any18 p.tx 0 2147483647 W)
  have I1 := Lib.hid (fun W => refIn_any18 p.time 0 16777215 W)
  have I2 := Lib.hid (fun W => refIn_any18 p.unit 1 65536 W)
  have I3 := Lib.hid (fun W => refIn_any18 p.data 0 65536 W)
  unfold headR18 at hh
  simp only [Bool.and_eq_true] at hh
  obtain ⟨⟨⟨r0, r1⟩, r2⟩, r3⟩ := hh
  have hdt := in18_yes.1 r3
  rw [r0] at I0
  rw [r1] at I1
  rw [r2] at I2
  rw [r3] at I3
  have HD := Lib.hid (h.below hb0)
  obtain ⟨R, hR⟩ : ∃ R, devsE18 p.data none p.devs = R := ⟨_, rfl⟩
  rw [hR]
  have BD : Hid (∀ i e, i < n → (∀ j, j < i → devAt18 p.data none p.devs j = 0) → devS18 none p.devs i = e → e ≠ 0 → R = e) := fun i e hi hj he h0 => by
    have hd : devAt18 p.data none p.devs i = e := by rw [devAt18, if_pos (by rw [he]; exact h0), he]
    rw [← hR, devsE18_bad (k := i) (by omega) hj (by rw [hd]; exact h0), hd]
  have CI : Hid (∀ i, i < n → (∀ j, j < i → devAt18 p.data none p.devs j = 0) → devS18 none p.devs i = 0 → ChkI18 p.data (p.devs.getD i zero18).maps (∀ j, j < i + 1 → devAt18 p.data none p.devs j = 0) R) := fun i hi hj hs => by
    have hd : devAt18 p.data none p.devs i = mapsE18 p.data none (p.devs.getD i zero18).maps := by rw [devAt18, if_neg (by rw [hs]; simp)]
    refine ⟨fun k e hk hjk he h0 => ?_, fun hall j hji => ?_⟩
    · have hm := mapsE18_bad hk hjk (by rw [he]; exact h0)
      rw [he] at hm
      rw [← hR, devsE18_bad (k := i) (by omega) hj (by rw [hd, hm]; exact h0), hd, hm]
    · by_cases e : j = i
      · rw [e, hd]; exact mapsE18_good hall
      · exact hj j (by omega)
  have EN : Hid ((∀ j, j < n → devAt18 p.data none p.devs j = 0) → R = 0) := fun hj => by rw [← hR]; exact devsE18_good (by rw [hl]; exact hj)
  clear h hb0 hR0 hR r0 r1 r2 r3 h2 hc
  unfold polV18
  generalize cnt18 p.devs = x at *
  generalize p.tx = v0 at *
  generalize p.time = v1 at *
  generalize p.unit = v2 at *
  generalize p.data = data at *
  generalize p.devs = ds at *
  go_enter Try.func22, Try.ntmps22
  go_wp2_with (first
    | (go_at_call 32; (with_reducible refine (CT.out).mono ?_); rintro e w3 ⟨rfl, hb3⟩; have HB3 := Lib.hid (hb3.mono (by omega : w.heap.size + 1 ≤ W0.heap.size)); clear hb3)
    | (go_at_call 31; (first
       | (with_reducible refine (I0.out _).mono ?_)
       | (with_reducible refine (I1.out _).mono ?_)
       | (with_reducible refine (I2.out _).mono ?_)
       | (with_reducible refine (I3.out _).mono ?_)); rintro e w' ⟨rfl, rfl⟩))
  clear I0 I1 I2 I3 CT
  go_loopw [3] (fun v wr => ∃ (i : Nat), i ≤ n ∧ v = .int .i64 i ∧ Hid (∀ j, j < i → devAt18 data none ds j = 0) ∧ Hid (Below (w.heap.size + 1) W0 wr)) (fun v _ => n - (intOf v).toNat)
  case atStart => exact ⟨0, by omega, rfl, fun j hj => by omega, HB3⟩
  case round =>
    obtain ⟨i, hi, rfl, hJ, hbel⟩ := hrel
    have hs1 : w.heap.size + 1 ≤ wr.heap.size := by have := hbel.out.size; omega
    have k3 := (hbel.out.cell (p := ⟨w.heap.size, 3, none⟩) (Nat.lt_succ_self _)).trans c3
    have k4 := (hbel.out.cell (p := ⟨w.heap.size, 4, none⟩) (Nat.lt_succ_self _)).trans c4
    by_cases hlt : i < n
    · obtain ⟨b, off, A', m, c', rfl, hb, d0, d1, d2, d3, d4, hT⟩ := HD.out.at18 hlt
      have hb' : b < w.heap.size + 1 := by omega
      have g0 := (hbel.out.cell (p := ⟨b, off + i * 5, none⟩) hb').trans d0
      have g1 := (hbel.out.cell (p := ⟨b, off + i * 5 + 1, none⟩) hb').trans d1
      have g2 := (hbel.out.cell (p := ⟨b, off + i * 5 + 2, none⟩) hb').trans d2
      have g3 := (hbel.out.cell (p := ⟨b, off + i * 5 + 3, none⟩) hb').trans d3
      have g4 := (hbel.out.cell (p := ⟨b, off + i * 5 + 4, none⟩) hb').trans d4
      have hba := hbel.out.alloc hs1 (.cells #[.int .i64 (ds.getD i zero18).id, .int .i64 (ds.getD i zero18).tx, .int .i64 (ds.getD i zero18).made, .int .i64 (ds.getD i zero18).snap, .slice A' m c'] 36)
      have HBA := Lib.hid hba
      have ka3 := (hba.cell (p := ⟨w.heap.size, 3, none⟩) (Nat.lt_succ_self _)).trans c3
      have ka4 := (hba.cell (p := ⟨w.heap.size, 4, none⟩) (Nat.lt_succ_self _)).trans c4
      have hDC : DevC (wr.alloc (.cells #[.int .i64 (ds.getD i zero18).id, .int .i64 (ds.getD i zero18).tx, .int .i64 (ds.getD i zero18).made, .int .i64 (ds.getD i zero18).snap, .slice A' m c'] 36)) wr.heap.size (.int .i64 (ds.getD i zero18).id) (.int .i64 (ds.getD i zero18).tx) (.int .i64 (ds.getD i zero18).made) (.int .i64 (ds.getD i zero18).snap) (.slice A' m c') := heap_alloc_new wr _
      have HDC := Lib.hid hDC
      have HT := Lib.hid hT
      have hml := hT.len
      have hme : m ≤ 9223372036854775807 := Nat.le_trans hT.cap hT.most
      have BDi := Lib.hid (fun e => BD.out i e hlt hJ.out)
      have CIi := Lib.hid (CI.out i hlt hJ.out)
      have SB := Lib.hid (devS18_bad (ds := ds) (k := i))
      have SO := Lib.hid (devS18_ord (ds := ds) (k := i))
      have SG := Lib.hid (devS18_good (ds := ds) (k := i))
      have SF : Hid (i = 0 → devR18 (ds.getD i zero18) = true → devS18 none ds i = 0) := fun e h => by subst e; exact devS18_first h
      have hRd : Hid (devR18 (ds.getD i zero18) = (in18 (ds.getD i zero18).id 0 16777215 && in18 (ds.getD i zero18).tx 0 2147483647 && in18 (ds.getD i zero18).made 0 16777215 && in18 (ds.getD i zero18).snap 0 16777215)) := Lib.hid rfl
      have I0 := Lib.hid (fun W => refIn_any18 (ds.getD i zero18).id 0 16777215 W)
      have I1 := Lib.hid (fun W => refIn_any18 (ds.getD i zero18).tx 0 2147483647 W)
      have I2 := Lib.hid (fun W => refIn_any18 (ds.getD i zero18).made 0 16777215 W)
      have I3 := Lib.hid (fun W => refIn_any18 (ds.getD i zero18).snap 0 16777215 W)
      clear d0 d1 d2 d3 d4 hT hba hDC
      by_cases hRR : devR18 (ds.getD i zero18) = true
      · have hall : in18 (ds.getD i zero18).id 0 16777215 = true ∧ in18 (ds.getD i zero18).tx 0 2147483647 = true ∧ in18 (ds.getD i zero18).made 0 16777215 = true ∧ in18 (ds.getD i zero18).snap 0 16777215 = true := by
          have := hRd.out
          rw [hRR] at this
          have := this.symm
          simp only [Bool.and_eq_true] at this
          exact ⟨this.1.1.1, this.1.1.2, this.1.2, this.2⟩
        rw [hall.1] at I0
        rw [hall.2.1] at I1
        rw [hall.2.2.1] at I2
        rw [hall.2.2.2] at I3
        clear hall hRd SB
        by_cases hi0 : i = 0
        · have CC := Lib.hid (CIi.out (SF.out hi0 hRR))
          have hkd2 : decide (0 < i) = false := by simpa using hi0
          have hkz : ¬ (0 : Int) < (i : Int) := by omega
          have hkd : decide ((0 : Int) < (i : Int)) = false := by simpa using hkz
          clear SO SG SF BDi CIi hRR hi0
          generalize (ds.getD i zero18) = d at *
          go_wp2_with (go_at_call 31; (first
            | (with_reducible refine (I0.out _).mono ?_)
            | (with_reducible refine (I1.out _).mono ?_)
            | (with_reducible refine (I2.out _).mono ?_)
            | (with_reducible refine (I3.out _).mono ?_)); rintro e w' ⟨rfl, rfl⟩)
          go_quiet (fail)
          go_wp2
          generalize wr.heap.size = D at *
          go_loopw [5] (fun v wr => ∃ (k : Nat), k ≤ m ∧ v = .int .i64 k ∧ Hid (∀ j, j < k → mapAt18 data none d.maps j = 0) ∧ Hid (Below (w.heap.size + 1) W0 wr) ∧ Hid (DevC wr D (.int .i64 d.id) (.int .i64 d.tx) (.int .i64 d.made) (.int .i64 d.snap) (.slice A' m c'))) (fun v _ => m - (intOf v).toNat)
          case atStart => exact ⟨0, by omega, rfl, fun j hj => by omega, below_drewN HBA.out _, HDC.out.drew18 _⟩
          case round =>
            clear HBA HDC g0 g1 g2 g3 g4 k3 k4 ka3 ka4 hbel I0 I1 I2 I3
            obtain ⟨k, hk, rfl, hJm, hbel, hDC⟩ := hrel
            obtain ⟨⟨e0, e1, e2, e3, e4⟩, _⟩ := hDC.out.cs
            have hsD := block_lt hDC.out
            have hs1 : w.heap.size + 1 ≤ wr.heap.size := by have := hbel.out.size; omega
            by_cases hkm : k < m
            · obtain ⟨b3, off3, y0, y1, y2, rfl, hb3, hx, hkl, t0, t1, t2⟩ := trs_at18 HT.out hkm
              have hb3' : b3 < w.heap.size + 1 := by omega
              have u0 := (hbel.out.cell (p := ⟨b3, off3 + k * 3, none⟩) hb3').trans t0
              have u1 := (hbel.out.cell (p := ⟨b3, off3 + k * 3 + 1, none⟩) hb3').trans t1
              have u2 := (hbel.out.cell (p := ⟨b3, off3 + k * 3 + 2, none⟩) hb3').trans t2
              have hba := hbel.out.alloc hs1 (.cells #[.int .i64 y0, .int .i64 y1, .int .i64 y2] 38)
              have HBA := Lib.hid hba
              have ka3 := (hba.cell (p := ⟨w.heap.size, 3, none⟩) (Nat.lt_succ_self _)).trans c3
              have hDa : DevC (wr.alloc (.cells #[.int .i64 y0, .int .i64 y1, .int .i64 y2] 38)) D (.int .i64 d.id) (.int .i64 d.tx) (.int .i64 d.made) (.int .i64 d.snap) (.slice (some ⟨b3, off3, none⟩) m c') := (Below.heap_alloc wr _ D hsD).trans hDC.out
              obtain ⟨⟨_, _, _, _, ea4⟩, _⟩ := hDa.cs
              have HDa := Lib.hid hDa
              have MB := Lib.hid (mapAt18_bad (data := data) (l := d.maps) (k := k))
              have MO := Lib.hid (mapAt18_ord (data := data) (l := d.maps) (k := k))
              have MG := Lib.hid (mapAt18_good (data := data) (l := d.maps) (k := k))
              have MF : Hid (k = 0 → mapR18 data (d.maps.getD k (0, 0, 0)) = true → mapAt18 data none d.maps k = 0) := fun e h => by subst e; exact mapAt18_first h
              rw [hx] at MB MO MG MF
              have hRd : Hid (mapR18 data (y0, y1, y2) = (in18 y0 0 281474976710655 && in18 y1 0 (data - 1) && in18 y2 0 16777215)) := Lib.hid rfl
              have J0 := Lib.hid (fun W => refIn_any18 y0 0 281474976710655 W)
              have J1 := Lib.hid (fun W => refIn_any18 y1 0 (data - 1) W)
              have J2 := Lib.hid (fun W => refIn_any18 y2 0 16777215 W)
              have NX : Hid (mapAt18 data none d.maps k = 0 → ∀ j, j < k + 1 → mapAt18 data none d.maps j = 0) := fun h j hj => by
                by_cases e : j = k
                · rw [e]; exact h
                · exact hJm.out j (by omega)
              have CB := Lib.hid (fun e => CC.out.bad k e hkl hJm.out)
              clear t1 t2 hx hba hDa
              by_cases hRR : mapR18 data (y0, y1, y2) = true
              · have hall : in18 y0 0 281474976710655 = true ∧ in18 y1 0 (data - 1) = true ∧ in18 y2 0 16777215 = true := by
                  have := hRd.out
                  rw [hRR] at this
                  have := this.symm
                  simp only [Bool.and_eq_true] at this
                  exact ⟨this.1.1, this.1.2, this.2⟩
                rw [hall.1] at J0
                rw [hall.2.1] at J1
                rw [hall.2.2] at J2
                clear hall hRd MB
                by_cases hk0 : k = 0
                · have HNX := Lib.hid (NX.out (MF.out hk0 hRR))
                  have hjd2 : decide (0 < k) = false := by simpa using hk0
                  have hjz : ¬ (0 : Int) < (k : Int) := by omega
                  have hjd : decide ((0 : Int) < (k : Int)) = false := by simpa using hjz
                  clear MO MG MF CB NX hRR hk0 t0
                  go_wp2_with (go_at_call 31; (first
          | (with_reducible refine (J0.out _).mono ?_)
          | (with_reducible refine (J1.out _).mono ?_)
          | (with_reducible refine (J2.out _).mono ?_)); rintro e w' ⟨rfl, rfl⟩)
                  go_quiet (fail)
                  go_wp2
                  go_roundw
                  all_goals first
                    | exact ⟨k + 1, by omega, by push_cast; rfl, HNX, below_drewN HBA.out _, HDa.out.drew18 _⟩
                    | (simp only [intOf]; omega)
                · obtain ⟨k', hkk⟩ : ∃ k', k = k' + 1 := ⟨k - 1, by omega⟩
                  obtain ⟨b4, off4, z1, z2, z3, e5, hb4, hx2, hkl2, s0, _, _⟩ := trs_at18 HT.out (k := k') (by omega)
                  cases e5
                  have q1 := (HBA.out.cell (p := ⟨b3, off3 + k' * 3, none⟩) hb3').trans s0
                  have ek : k - 1 = k' := by omega
                  rw [ek, hx2] at MO MG
                  have hw3 : IntKind.i64.wrap ((k : Int) - 1) = (k' : Int) := (IntWalk.i64_in _ (by omega)).trans (by omega)
                  have hw4 : IntKind.i64.wrap (k' : Int) = (k' : Int) := IntWalk.i64_in _ (by omega)
                  have hjp : 0 < k := by omega
                  have hjp2 : k' < m := by omega
                  have hjd : decide ((0 : Int) < (k : Int)) = true := by simpa using hjp
                  have hjd2 : decide (0 < k) = true := by simpa using hjp
                  have HKK2 := Lib.hid hkk
                  clear hkk ek hk0 MF t0 s0 hx2 hkl2
                  by_cases hyz : y0 ≤ z1
                  · obtain rfl : R = 8 := CB.out 8 (MO.out hRR hjp hyz) (by decide)
                    have hd3 : decide (y0 ≤ z1) = true := by simpa using hyz
                    clear MO MG CB NX hRR hyz
                    go_wp2_with (go_at_call 31; (first
            | (with_reducible refine (J0.out _).mono ?_)
            | (with_reducible refine (J1.out _).mono ?_)
            | (with_reducible refine (J2.out _).mono ?_)); rintro e w' ⟨rfl, rfl⟩)
                    go_quiet (fail)
                    go_wp2
                    go_ret
                    exact ⟨rfl, HB.out.trans ((below_drewN HBA.out _).mono (Nat.le_succ _))⟩
                  · have HNX := Lib.hid (NX.out (MG.out hRR hjp (by simpa using hyz)))
                    have hd3 : decide (y0 ≤ z1) = false := by simpa using hyz
                    clear MO MG CB NX hRR hyz
                    go_wp2_with (go_at_call 31; (first
            | (with_reducible refine (J0.out _).mono ?_)
            | (with_reducible refine (J1.out _).mono ?_)
            | (with_reducible refine (J2.out _).mono ?_)); rintro e w' ⟨rfl, rfl⟩)
                    go_quiet (fail)
                    go_wp2
                    go_roundw
                    all_goals first
                      | exact ⟨k + 1, by omega, by push_cast; rfl, HNX, below_drewN HBA.out _, HDa.out.drew18 _⟩
                      | (simp only [intOf]; omega)
              · have hRf : mapR18 data (y0, y1, y2) = false := by simpa using hRR
                obtain rfl : R = 2 := CB.out 2 (MB.out hRf) (by decide)
                have hex := hRd.out
                rw [hRf] at hex
                clear MO MG MF MB CB NX hRR hRf hRd t0
                generalize in18 y0 0 281474976710655 = r0 at *
                generalize in18 y1 0 (data - 1) = r1 at *
                generalize in18 y2 0 16777215 = r2 at *
                cases r0 <;> cases r1 <;> cases r2
                rotate_right 1
                · exact absurd hex (by decide)
                all_goals
                  clear hex
                  go_wp2_with (go_at_call 31; (first
          | (with_reducible refine (J0.out _).mono ?_)
          | (with_reducible refine (J1.out _).mono ?_)
          | (with_reducible refine (J2.out _).mono ?_)); rintro e w' ⟨rfl, rfl⟩)
                  go_ret
                  exact ⟨rfl, HB.out.trans (HBA.out.mono (Nat.le_succ _))⟩
            · obtain rfl : k = m := by omega
              have HALL := Lib.hid (CC.out.all (by intro j hj; exact hJm.out j (by omega)))
              go_wp2
              go_roundw
              all_goals first
                | exact ⟨i + 1, by omega, by push_cast; rfl, HALL.out, hbel⟩
                | (simp only [intOf]; omega)
        · obtain ⟨i', hii⟩ : ∃ i', i = i' + 1 := ⟨i - 1, by omega⟩
          obtain ⟨b2, off2, A2, m2, c2', e2, hb2, p0, _⟩ := HD.out.at18 (k := i') (by omega)
          cases e2
          have q0 := (hbel.out.cell (p := ⟨b, off + i' * 5, none⟩) hb').trans p0
          have q0a := (HBA.out.cell (p := ⟨b, off + i' * 5, none⟩) hb').trans p0
          have ek : i - 1 = i' := by omega
          rw [ek] at SO SG
          have hw : IntKind.i64.wrap ((i : Int) - 1) = (i' : Int) := (IntWalk.i64_in _ (by omega)).trans (by omega)
          have hw2 : IntKind.i64.wrap (i' : Int) = (i' : Int) := IntWalk.i64_in _ (by omega)
          have hkp : 0 < i := by omega
          have hkp2 : i' < n := by omega
          have HKK := Lib.hid hii
          have hkd : decide ((0 : Int) < (i : Int)) = true := by simpa using hkp
          have hkd2 : decide (0 < i) = true := by simpa using hkp
          clear hii ek hi0 p0 SF
          by_cases hxy : (ds.getD i zero18).id ≤ (ds.getD i' zero18).id
          · obtain rfl : R = 8 := BDi.out 8 (SO.out hRR hkp hxy) (by decide)
            have hd : decide ((ds.getD i zero18).id ≤ (ds.getD i' zero18).id) = true := by simpa using hxy
            clear SO SG BDi CIi hRR hxy
            generalize (ds.getD i' zero18).id = z0 at *
            generalize (ds.getD i zero18) = d at *
            go_wp2_with (go_at_call 31; (first
              | (with_reducible refine (I0.out _).mono ?_)
              | (with_reducible refine (I1.out _).mono ?_)
              | (with_reducible refine (I2.out _).mono ?_)
              | (with_reducible refine (I3.out _).mono ?_)); rintro e w' ⟨rfl, rfl⟩)
            go_quiet (fail)
            go_wp2
            go_ret
            exact ⟨rfl, HB.out.trans ((below_drewN HBA.out _).mono (Nat.le_succ _))⟩
          · have CC := Lib.hid (CIi.out (SG.out hRR hkp hxy))
            have hd : decide ((ds.getD i zero18).id ≤ (ds.getD i' zero18).id) = false := by simpa using hxy
            clear SO SG BDi CIi hRR hxy
            generalize (ds.getD i' zero18).id = z0 at *
            generalize (ds.getD i zero18) = d at *
            go_wp2_with (go_at_call 31; (first
              | (with_reducible refine (I0.out _).mono ?_)
              | (with_reducible refine (I1.out _).mono ?_)
              | (with_reducible refine (I2.out _).mono ?_)
              | (with_reducible refine (I3.out _).mono ?_)); rintro e w' ⟨rfl, rfl⟩)
            go_quiet (fail)
            go_wp2
            generalize wr.heap.size = D at *
            go_loopw [5] (fun v wr => ∃ (k : Nat), k ≤ m ∧ v = .int .i64 k ∧ Hid (∀ j, j < k → mapAt18 data none d.maps j = 0) ∧ Hid (Below (w.heap.size + 1) W0 wr) ∧ Hid (DevC wr D (.int .i64 d.id) (.int .i64 d.tx) (.int .i64 d.made) (.int .i64 d.snap) (.slice A' m c'))) (fun v _ => m - (intOf v).toNat)
            case atStart => exact ⟨0, by omega, rfl, fun j hj => by omega, below_drewN HBA.out _, HDC.out.drew18 _⟩
            case round =>
              clear HBA HDC g0 g1 g2 g3 g4 k3 k4 ka3 ka4 hbel I0 I1 I2 I3
              obtain ⟨k, hk, rfl, hJm, hbel, hDC⟩ := hrel
              obtain ⟨⟨e0, e1, e2, e3, e4⟩, _⟩ := hDC.out.cs
              have hsD := block_lt hDC.out
              have hs1 : w.heap.size + 1 ≤ wr.heap.size := by have := hbel.out.size; omega
              by_cases hkm : k < m
              · obtain ⟨b3, off3, y0, y1, y2, rfl, hb3, hx, hkl, t0, t1, t2⟩ := trs_at18 HT.out hkm
                have hb3' : b3 < w.heap.size + 1 := by omega
                have u0 := (hbel.out.cell (p := ⟨b3, off3 + k * 3, none⟩) hb3').trans t0
                have u1 := (hbel.out.cell (p := ⟨b3, off3 + k * 3 + 1, none⟩) hb3').trans t1
                have u2 := (hbel.out.cell (p := ⟨b3, off3 + k * 3 + 2, none⟩) hb3').trans t2
                have hba := hbel.out.alloc hs1 (.cells #[.int .i64 y0, .int .i64 y1, .int .i64 y2] 38)
                have HBA := Lib.hid hba
                have ka3 := (hba.cell (p := ⟨w.heap.size, 3, none⟩) (Nat.lt_succ_self _)).trans c3
                have hDa : DevC (wr.alloc (.cells #[.int .i64 y0, .int .i64 y1, .int .i64 y2] 38)) D (.int .i64 d.id) (.int .i64 d.tx) (.int .i64 d.made) (.int .i64 d.snap) (.slice (some ⟨b3, off3, none⟩) m c') := (Below.heap_alloc wr _ D hsD).trans hDC.out
                obtain ⟨⟨_, _, _, _, ea4⟩, _⟩ := hDa.cs
                have HDa := Lib.hid hDa
                have MB := Lib.hid (mapAt18_bad (data := data) (l := d.maps) (k := k))
                have MO := Lib.hid (mapAt18_ord (data := data) (l := d.maps) (k := k))
                have MG := Lib.hid (mapAt18_good (data := data) (l := d.maps) (k := k))
                have MF : Hid (k = 0 → mapR18 data (d.maps.getD k (0, 0, 0)) = true → mapAt18 data none d.maps k = 0) := fun e h => by subst e; exact mapAt18_first h
                rw [hx] at MB MO MG MF
                have hRd : Hid (mapR18 data (y0, y1, y2) = (in18 y0 0 281474976710655 && in18 y1 0 (data - 1) && in18 y2 0 16777215)) := Lib.hid rfl
                have J0 := Lib.hid (fun W => refIn_any18 y0 0 281474976710655 W)
                have J1 := Lib.hid (fun W => refIn_any18 y1 0 (data - 1) W)
                have J2 := Lib.hid (fun W => refIn_any18 y2 0 16777215 W)
                have NX : Hid (mapAt18 data none d.maps k = 0 → ∀ j, j < k + 1 → mapAt18 data none d.maps j = 0) := fun h j hj => by
                  by_cases e : j = k
                  · rw [e]; exact h
                  · exact hJm.out j (by omega)
                have CB := Lib.hid (fun e => CC.out.bad k e hkl hJm.out)
                clear t1 t2 hx hba hDa
                by_cases hRR : mapR18 data (y0, y1, y2) = true
                · have hall : in18 y0 0 281474976710655 = true ∧ in18 y1 0 (data - 1) = true ∧ in18 y2 0 16777215 = true := by
                    have := hRd.out
                    rw [hRR] at this
                    have := this.symm
                    simp only [Bool.and_eq_true] at this
                    exact ⟨this.1.1, this.1.2, this.2⟩
                  rw [hall.1] at J0
                  rw [hall.2.1] at J1
                  rw [hall.2.2] at J2
                  clear hall hRd MB
                  by_cases hk0 : k = 0
                  · have HNX := Lib.hid (NX.out (MF.out hk0 hRR))
                    have hjd2 : decide (0 < k) = false := by simpa using hk0
                    have hjz : ¬ (0 : Int) < (k : Int) := by omega
                    have hjd : decide ((0 : Int) < (k : Int)) = false := by simpa using hjz
                    clear MO MG MF CB NX hRR hk0 t0
                    go_wp2_with (go_at_call 31; (first
          | (with_reducible refine (J0.out _).mono ?_)
          | (with_reducible refine (J1.out _).mono ?_)
          | (with_reducible refine (J2.out _).mono ?_)); rintro e w' ⟨rfl, rfl⟩)
                    go_quiet (fail)
                    go_wp2
                    go_roundw
                    all_goals first
                      | exact ⟨k + 1, by omega, by push_cast; rfl, HNX, below_drewN HBA.out _, HDa.out.drew18 _⟩
                      | (simp only [intOf]; omega)
                  · obtain ⟨k', hkk⟩ : ∃ k', k = k' + 1 := ⟨k - 1, by omega⟩
                    obtain ⟨b4, off4, z1, z2, z3, e5, hb4, hx2, hkl2, s0, _, _⟩ := trs_at18 HT.out (k := k') (by omega)
                    cases e5
                    have q1 := (HBA.out.cell (p := ⟨b3, off3 + k' * 3, none⟩) hb3').trans s0
                    have ek : k - 1 = k' := by omega
                    rw [ek, hx2] at MO MG
                    have hw3 : IntKind.i64.wrap ((k : Int) - 1) = (k' : Int) := (IntWalk.i64_in _ (by omega)).trans (by omega)
                    have hw4 : IntKind.i64.wrap (k' : Int) = (k' : Int) := IntWalk.i64_in _ (by omega)
                    have hjp : 0 < k := by omega
                    have hjp2 : k' < m := by omega
                    have hjd : decide ((0 : Int) < (k : Int)) = true := by simpa using hjp
                    have hjd2 : decide (0 < k) = true := by simpa using hjp
                    have HKK2 := Lib.hid hkk
                    clear hkk ek hk0 MF t0 s0 hx2 hkl2
                    by_cases hyz : y0 ≤ z1
                    · obtain rfl : R = 8 := CB.out 8 (MO.out hRR hjp hyz) (by decide)
                      have hd3 : decide (y0 ≤ z1) = true := by simpa using hyz
                      clear MO MG CB NX hRR hyz
                      go_wp2_with (go_at_call 31; (first
            | (with_reducible refine (J0.out _).mono ?_)
            | (with_reducible refine (J1.out _).mono ?_)
            | (with_reducible refine (J2.out _).mono ?_)); rintro e w' ⟨rfl, rfl⟩)
                      go_quiet (fail)
                      go_wp2
                      go_ret
                      exact ⟨rfl, HB.out.trans ((below_drewN HBA.out _).mono (Nat.le_succ _))⟩
                    · have HNX := Lib.hid (NX.out (MG.out hRR hjp (by simpa using hyz)))
                      have hd3 : decide (y0 ≤ z1) = false := by simpa using hyz
                      clear MO MG CB NX hRR hyz
                      go_wp2_with (go_at_call 31; (first
            | (with_reducible refine (J0.out _).mono ?_)
            | (with_reducible refine (J1.out _).mono ?_)
            | (with_reducible refine (J2.out _).mono ?_)); rintro e w' ⟨rfl, rfl⟩)
                      go_quiet (fail)
                      go_wp2
                      go_roundw
                      all_goals first
                        | exact ⟨k + 1, by omega, by push_cast; rfl, HNX, below_drewN HBA.out _, HDa.out.drew18 _⟩
                        | (simp only [intOf]; omega)
                · have hRf : mapR18 data (y0, y1, y2) = false := by simpa using hRR
                  obtain rfl : R = 2 := CB.out 2 (MB.out hRf) (by decide)
                  have hex := hRd.out
                  rw [hRf] at hex
                  clear MO MG MF MB CB NX hRR hRf hRd t0
                  generalize in18 y0 0 281474976710655 = r0 at *
                  generalize in18 y1 0 (data - 1) = r1 at *
                  generalize in18 y2 0 16777215 = r2 at *
                  cases r0 <;> cases r1 <;> cases r2
                  rotate_right 1
                  · exact absurd hex (by decide)
                  all_goals
                    clear hex
                    go_wp2_with (go_at_call 31; (first
          | (with_reducible refine (J0.out _).mono ?_)
          | (with_reducible refine (J1.out _).mono ?_)
          | (with_reducible refine (J2.out _).mono ?_)); rintro e w' ⟨rfl, rfl⟩)
                    go_ret
                    exact ⟨rfl, HB.out.trans (HBA.out.mono (Nat.le_succ _))⟩
              · obtain rfl : k = m := by omega
                have HALL := Lib.hid (CC.out.all (by intro j hj; exact hJm.out j (by omega)))
                go_wp2
                go_roundw
                all_goals first
                  | exact ⟨i + 1, by omega, by push_cast; rfl, HALL.out, hbel⟩
                  | (simp only [intOf]; omega)
      · have hRf : devR18 (ds.getD i zero18) = false := by simpa using hRR
        obtain rfl : R = 2 := BDi.out 2 (SB.out hRf) (by decide)
        have hex := hRd.out
        rw [hRf] at hex
        clear SO SG SF SB BDi CIi hRR hRf hRd
        generalize in18 (ds.getD i zero18).id 0 16777215 = r0 at *
        generalize in18 (ds.getD i zero18).tx 0 2147483647 = r1 at *
        generalize in18 (ds.getD i zero18).made 0 16777215 = r2 at *
        generalize in18 (ds.getD i zero18).snap 0 16777215 = r3 at *
        generalize (ds.getD i zero18) = d at *
        cases r0 <;> cases r1 <;> cases r2 <;> cases r3
        rotate_right 1
        · exact absurd hex (by decide)
        all_goals
          clear hex
          go_wp2_with (go_at_call 31; (first
            | (with_reducible refine (I0.out _).mono ?_)
            | (with_reducible refine (I1.out _).mono ?_)
            | (with_reducible refine (I2.out _).mono ?_)
            | (with_reducible refine (I3.out _).mono ?_)); rintro e w' ⟨rfl, rfl⟩)
          go_ret
          exact ⟨rfl, HB.out.trans (HBA.out.mono (Nat.le_succ _))⟩
    · obtain rfl : i = n := by omega
      obtain rfl : R = 0 := EN.out hJ.out
      go_wp2
      go_ret
      exact ⟨rfl, HB.out.trans (hbel.out.mono (Nat.le_succ _))⟩

/-- Check of any pool -/
theorem refCheck_any18 (p : Pol18) (A : Option Addr) (n c : Nat) (w : World) (h : Dvs w A n c p.devs) (hc : cnt18 p.devs ≤ 1000000) :
    Calls Try.prog 22 #[polV18 p A n c] w fun e w' => e = .returned (.int .i64 (chkE18 p)) ∧ Below w.heap.size w w' := by
  cases hh : headR18 p with
  | false => exact refCheck_head18 p A n c w hh
  | true =>
    by_cases h2 : 4096 < p.devs.length ∨ 16384 < cnt18 p.devs
    · exact refCheck_many18 p A n c w h hc hh h2
    · exact refCheck_good18 p A n c w h hc hh h2

end Go.Proofs.Ytcmehjjaologpaa

/-
  Layer 20: the reference's Bitmaps, Base, Need and Fits.
-/
namespace Go.Proofs.Ytcmehjjaologpaa
open Go.RowKit
set_option linter.unusedVariables false
set_option linter.unusedSimpArgs false

/-- a pool in a variable of one's own, the first block behind a world, in any world after it -/
structure Vp20 (w W : World) (v0 v1 v2 v3 v4 : Value) : Prop where
  row : PolC W w.heap.size v0 v1 v2 v3 v4
  bel : Below w.heap.size w W
theorem Vp20.size {w W : World} {v0 v1 v2 v3 v4 : Value} (h : Vp20 w W v0 v1 v2 v3 v4) : w.heap.size < W.heap.size := by
  have := h.row
  unfold PolC at this
  exact (Array.getElem?_eq_some_iff.1 this).1
theorem Vp20.later {w W W' : World} {v0 v1 v2 v3 v4 : Value} (h : Vp20 w W v0 v1 v2 v3 v4) (hb : Below W.heap.size W W') : Vp20 w W' v0 v1 v2 v3 v4 :=
  ⟨h.row.later hb h.size, h.bel.trans (hb.mono (Nat.le_of_lt h.size))⟩
theorem Vp20.at {w W : World} {v0 v1 v2 v3 v4 : Value} (h : Vp20 w W v0 v1 v2 v3 v4) : W.cell? ⟨w.heap.size, 3, none⟩ = some v3 ∧ W.cell? ⟨w.heap.size, 4, none⟩ = some v4 :=
  ⟨h.row.cs.2.2.2.1, h.row.cs.2.2.2.2⟩
theorem Vp20.new (w : World) (v0 v1 v2 v3 v4 : Value) : Vp20 w (w.alloc (.cells #[v0, v1, v2, v3, v4] 24)) v0 v1 v2 v3 v4 :=
  ⟨heap_alloc_new w _, (Below.refl _ _).alloc (Nat.le_refl _) _⟩

set_option maxRecDepth 100000 in
theorem refBitmaps_any20 (n : Int) (hn : -9223372036854775808 ≤ n) (h2 : n ≤ 1099511627776) (w : World) : Calls Try.prog 9 #[.int .i64 n] w fun e w' => e = .returned (.int .i64 (bms20 n)) ∧ w = w' := by
  by_cases h1 : n < 1
  · rw [show bms20 n = 0 by unfold bms20; rw [if_pos h1]]
    go_enter Try.func9, Try.ntmps9
    go_wp2
    go_ret
    exact ⟨rfl, rfl⟩
  · obtain ⟨k, rfl⟩ := Int.eq_ofNat_of_zero_le (show 0 ≤ n by omega)
    obtain ⟨q, hq⟩ : ∃ q : Nat, (k + 959) / 960 = q := ⟨_, rfl⟩
    have hk : k ≤ 1099511627776 := by omega
    rw [show bms20 ((k : Nat) : Int) = (q : Int) by unfold bms20; rw [if_neg h1]; omega]
    have hd : ((k : Int) + 960 - 1).tdiv 960 = (q : Int) := by
      rw [show (k : Int) + 960 - 1 = ((k + 959 : Nat) : Int) by omega, show (960 : Int) = ((960 : Nat) : Int) from rfl, ← Int.ofNat_tdiv, ← hq]
    have hq2 : q ≤ 1099511627776 := by omega
    clear hq h2 hn
    go_enter Try.func9, Try.ntmps9
    go_wp2
    go_ret
    exact ⟨rfl, rfl⟩

set_option maxRecDepth 100000 in
set_option maxHeartbeats 800000 in
theorem refBase_bad20 (p : Pol18) (A : Option Addr) (n c : Nat) (w : World) (h : Dvs w A n c p.devs) (hc : cnt18 p.devs ≤ 1000000) (hv : chkE18 p ≠ 0) :
    Calls Try.prog 11 #[polV18 p A n c] w fun e w' => e = .returned (.int .i64 0) ∧ Below w.heap.size w w' := by
  obtain ⟨W0, hW0⟩ : ∃ W0, w.alloc (.cells #[.int .i64 p.tx, .int .i64 p.time, .int .i64 p.unit, .int .i64 p.data, .slice A n c] 24) = W0 := ⟨_, rfl⟩
  have hV0 : Vp20 w W0 (.int .i64 p.tx) (.int .i64 p.time) (.int .i64 p.unit) (.int .i64 p.data) (.slice A n c) := by rw [← hW0]; exact Vp20.new w _ _ _ _ _
  have CK := Lib.hid (refCheck_any18 p A n c W0 (h.below hV0.bel) hc)
  unfold polV18 at CK
  have c4 := hV0.row.cs
  obtain ⟨c0, c1, c2, c3, c4⟩ := c4
  have HB := Lib.hid hV0.bel
  have hyb : (chkE18 p != 0) = true := by simpa using hv
  clear h hV0 hv
  unfold polV18
  generalize chkE18 p = y at *
  generalize p.tx = v0 at *
  generalize p.time = v1 at *
  generalize p.unit = v2 at *
  generalize p.data = v3 at *
  go_enter Try.func11, Try.ntmps11
  go_wp2_with (go_at_call 22; (with_reducible refine (CK.out).mono ?_); rintro e w1 ⟨rfl, hb1⟩; have HB1 := Lib.hid (HB.out.trans (hb1.mono HB.out.size)); clear hb1)
  go_ret
  exact ⟨rfl, HB1.out⟩

theorem trees20_take {ds : List Dev18} {k : Nat} (h : k < ds.length) : trees20 (ds.take (k + 1)) = trees20 (ds.take k) + nod20 12 (ds.getD k zero18).maps.length := by
  rw [List.take_succ_eq_append_getElem h, trees20_snoc, getD18 h]
theorem trees20_few {ds : List Dev18} (h : ds.length ≤ 4096) (hc : cnt18 ds ≤ 16384) (k : Nat) : 0 ≤ trees20 (ds.take k) ∧ trees20 (ds.take k) ≤ 7000 := by
  have h1 := trees20_nonneg (ds.take k)
  have h2 := cnt18_le (ds := ds) k
  have h3 := trees20_le (ds.take k) (by omega)
  have h4 : (ds.take k).length ≤ ds.length := by rw [List.length_take]; omega
  omega
theorem nod20_few {m n : Nat} (hm : 1 ≤ m) (hn : n ≤ 16384) : 0 ≤ nod20 m n ∧ nod20 m n ≤ 40000 := by
  have h1 := nod20_nonneg m n
  have h2 := nod20_le (n := n) hm (by omega)
  have h3 := Nat.div_le_self (max n 1 - 1) m
  omega

set_option maxRecDepth 100000 in
set_option maxHeartbeats 1600000 in
theorem refBase_good20 (p : Pol18) (A : Option Addr) (n c : Nat) (w : World) (h : Dvs w A n c p.devs) (hv : chkE18 p = 0) :
    Calls Try.prog 11 #[polV18 p A n c] w fun e w' => e = .returned (.int .i64 (sum20 p)) ∧ Below w.heap.size w w' := by
  obtain ⟨_, hd4, hcn, _⟩ := chk20_parts hv
  obtain ⟨hD0, hD1⟩ := chk20_data hv
  obtain ⟨D, hD⟩ := Int.eq_ofNat_of_zero_le hD0
  obtain ⟨B, hB⟩ := Int.eq_ofNat_of_zero_le (bms20_nonneg p.data)
  have hB1 : B ≤ 69 := by have := bms20_few hD1; omega
  have hle : n ≤ 9223372036854775807 := Nat.le_trans h.cap h.most
  have hl := h.len
  have hn4 : n ≤ 4096 := by omega
  have hD65 : D ≤ 65536 := by omega
  have CKA : ∀ W, Below w.heap.size w W → Calls Try.prog 22 #[polV18 p A n c] W fun e w' => e = .returned (.int .i64 (chkE18 p)) ∧ Below W.heap.size W w' := fun W hb => refCheck_any18 p A n c W (h.below hb) (by omega)
  have CK : Hid (∀ W, Vp20 w W (.int .i64 p.tx) (.int .i64 p.time) (.int .i64 p.unit) (.int .i64 D) (.slice A n c) → Calls Try.prog 22 #[.agg #[.int .i64 p.tx, .int .i64 p.time, .int .i64 p.unit, .int .i64 D, .slice A n c]] W fun e w' => e = .returned (.int .i64 0) ∧ Hid (Vp20 w w' (.int .i64 p.tx) (.int .i64 p.time) (.int .i64 p.unit) (.int .i64 D) (.slice A n c))) := fun W hV => by
    have := CKA W hV.bel
    rw [hv] at this
    rw [← hD]
    refine this.mono ?_
    rintro e w' ⟨rfl, hb⟩
    exact ⟨rfl, by rw [hD]; exact hV.later hb⟩
  have RF : Hid (∀ W, Vp20 w W (.int .i64 p.tx) (.int .i64 p.time) (.int .i64 p.unit) (.int .i64 D) (.slice A n c) → Calls Try.prog 24 #[.agg #[.int .i64 p.tx, .int .i64 p.time, .int .i64 p.unit, .int .i64 D, .slice A n c]] W fun e w' => ∃ A' c', e = .returned (.slice A' D c') ∧ Hid (Ints w' A' D c' (refs18 D (blks18 p.devs))) ∧ Hid (Vp20 w w' (.int .i64 p.tx) (.int .i64 p.time) (.int .i64 p.unit) (.int .i64 D) (.slice A n c))) := fun W hV => by
    have := refRefs_good18 p A n c W (h.below hV.bel) hv D hD hD65 hcn (fun W' hb => CKA W' (hV.bel.trans (hb.mono hV.bel.size)))
    unfold polV18 at this
    rw [hD] at this
    refine this.mono ?_
    rintro e w' ⟨A', c', rfl, hI, hb⟩
    exact ⟨A', c', rfl, hI, hV.later hb⟩
  have ND : Hid (∀ (tree : Int) (m : Nat), i64b tree → capN (widN tree true) = m → ∀ (k : Nat) W, Vp20 w W (.int .i64 p.tx) (.int .i64 p.time) (.int .i64 p.unit) (.int .i64 D) (.slice A n c) → Calls Try.prog 23 #[.int .i64 tree, .int .i64 k] W fun e w' => e = .returned (.int .i64 (nod20 m k)) ∧ Hid (Vp20 w w' (.int .i64 p.tx) (.int .i64 p.time) (.int .i64 p.unit) (.int .i64 D) (.slice A n c))) := fun tree m ht hm k W hV => by
    refine (refNodes_any15 tree k m ht hm W).mono ?_
    rintro e w' ⟨rfl, hb⟩
    exact ⟨rfl, hV.later hb⟩
  have BM : Hid (∀ W, Vp20 w W (.int .i64 p.tx) (.int .i64 p.time) (.int .i64 p.unit) (.int .i64 D) (.slice A n c) → Calls Try.prog 9 #[.int .i64 D] W fun e w' => e = .returned (.int .i64 B) ∧ Hid (Vp20 w w' (.int .i64 p.tx) (.int .i64 p.time) (.int .i64 p.unit) (.int .i64 D) (.slice A n c))) := fun W hV => by
    have := refBitmaps_any20 p.data (by omega) (by omega) W
    rw [hB, hD] at this
    refine this.mono ?_
    rintro e w' ⟨rfl, rfl⟩
    exact ⟨rfl, hV⟩
  have HD : Hid (∀ k, k < n → ∃ b off A' m c', A = some ⟨b, off, none⟩ ∧ b < w.heap.size ∧ w.cell? ⟨b, off + k * 5 + 4, none⟩ = some (.slice A' m c') ∧ m ≤ 16384 ∧ trees20 (p.devs.take (k + 1)) = trees20 (p.devs.take k) + nod20 12 m) := fun k hk => by
    obtain ⟨b, off, A', m, c', e, hb, _, _, _, _, g4, hT⟩ := h.at18 hk
    have h1 := cnt18_take (ds := p.devs) (k := k) (by omega)
    have h2 := cnt18_le (ds := p.devs) (k + 1)
    have h3 := hT.len
    exact ⟨b, off, A', m, c', e, hb, g4, by omega, by rw [trees20_take (by omega), hT.len]⟩
  have TB := Lib.hid (fun k => trees20_few hd4 hcn k)
  have T0 : Hid (trees20 (p.devs.take 0) = 0) := Lib.hid rfl
  have TA : Hid (trees20 (p.devs.take n) = trees20 p.devs) := by rw [List.take_of_length_le (by omega)]; exact Lib.hid rfl
  obtain ⟨O, hO⟩ : ∃ O, often20 D (blks18 p.devs) = O := ⟨_, rfl⟩
  have hO2 : O ≤ 16384 := by
    have := chk20_often hv
    rw [hD] at this
    simp only [Int.ofNat_eq_natCast, Int.toNat_natCast] at this
    omega
  have OA : Hid (((refs18 D (blks18 p.devs)).take D).countP (fun c => decide (3 ≤ c)) = O) := by
    have : (refs18 D (blks18 p.devs)).length = D := refs18_length _ _
    rw [List.take_of_length_le (by omega), ← often20_refs]
    exact Lib.hid hO
  have OS : Hid (∀ k, k < D → ((refs18 D (blks18 p.devs)).take (k + 1)).countP (fun c => decide (3 ≤ c)) = ((refs18 D (blks18 p.devs)).take k).countP (fun c => decide (3 ≤ c)) + if 3 ≤ (refs18 D (blks18 p.devs)).getD k 0 then 1 else 0) := fun k hk => by
    have := countP20_take (l := refs18 D (blks18 p.devs)) (k := k) (fun c => decide (3 ≤ c)) (by rw [refs18_length]; exact hk)
    simpa using this
  have LL : (refs18 D (blks18 p.devs)).length = D := refs18_length _ _
  have hsum : sum20 p = 1 + nod20 6 n + nod20 18 n + trees20 p.devs + nod20 9 B + nod20 18 O + B := by
    unfold sum20
    rw [hB, hD, hl]
    simp only [Int.ofNat_eq_natCast, Int.toNat_natCast, hO]
  rw [hsum]
  obtain ⟨a1, a2⟩ := nod20_few (m := 6) (n := n) (by decide) (by omega)
  obtain ⟨b1, b2⟩ := nod20_few (m := 18) (n := n) (by decide) (by omega)
  obtain ⟨x1, x2⟩ := nod20_few (m := 9) (n := B) (by decide) (by omega)
  obtain ⟨y1, y2⟩ := nod20_few (m := 18) (n := O) (by decide) (by omega)
  have ND3 : Hid (∀ W, _ → Calls Try.prog 23 #[.int .i64 3, .int .i64 n] W _) := Lib.hid (ND.out 3 6 (by unfold i64b; omega) rfl n)
  have ND1 : Hid (∀ W, _ → Calls Try.prog 23 #[.int .i64 1, .int .i64 n] W _) := Lib.hid (ND.out 1 18 (by unfold i64b; omega) rfl n)
  have ND2 : Hid (∀ (k : Nat) W, _ → Calls Try.prog 23 #[.int .i64 2, .int .i64 k] W _) := Lib.hid (ND.out 2 12 (by unfold i64b; omega) rfl)
  have ND4 : Hid (∀ W, _ → Calls Try.prog 23 #[.int .i64 4, .int .i64 B] W _) := Lib.hid (ND.out 4 9 (by unfold i64b; omega) rfl B)
  have ND5 : Hid (∀ W, _ → Calls Try.prog 23 #[.int .i64 5, .int .i64 O] W _) := Lib.hid (ND.out 5 18 (by unfold i64b; omega) rfl O)
  obtain ⟨W0, hW0⟩ : ∃ W0, w.alloc (.cells #[.int .i64 p.tx, .int .i64 p.time, .int .i64 p.unit, .int .i64 p.data, .slice A n c] 24) = W0 := ⟨_, rfl⟩
  have hV0 : Vp20 w W0 (.int .i64 p.tx) (.int .i64 p.time) (.int .i64 p.unit) (.int .i64 D) (.slice A n c) := by rw [← hW0, hD]; exact Vp20.new w _ _ _ _ _
  have HV0 := Lib.hid hV0
  obtain ⟨c0, c1, c2, c3, c4⟩ := hV0.row.cs
  have NF := Lib.hid (fun (m k : Nat) => nod20_few (m := m) (n := k))
  clear h hv hd4 hcn hD0 hD1 CKA ND hV0 hO hB hsum
  unfold polV18
  rw [hD] at *
  generalize nod20 6 n = a at *
  generalize nod20 18 n = b at *
  generalize nod20 9 B = x at *
  generalize nod20 18 O = y at *
  generalize refs18 D (blks18 p.devs) = L at *
  generalize p.tx = v0 at *
  generalize p.time = v1 at *
  generalize p.unit = v2 at *
  generalize p.devs = ds at *
  go_enter Try.func11, Try.ntmps11
  go_wp2_with (go_at_call 22; (with_reducible refine (CK.out _ HV0.out).mono ?_); rintro e w1 ⟨rfl, hV1⟩; have d4 := hV1.out.at.2)
  have hV1d := hV1.out.later (Below.refl _ _).drew
  have hf1 := hV1d.at.2
  go_region_held3 (fun W => W.cell? ⟨w.heap.size, 4, none⟩ = some (.slice A n c) ∧ Vp20 w W (.int .i64 v0) (.int .i64 v1) (.int .i64 v2) (.int .i64 D) (.slice A n c))
    (first
      | exact ⟨hV3.out.at.2, hV3.out⟩
      | exact ⟨hV2.out.at.2, hV2.out⟩
      | exact ⟨hf1, hV1d⟩)
    (first
      | (go_at_call 23; first
        | ((with_reducible refine (ND3.out _ hV1d).mono ?_); rintro e w2 ⟨rfl, hV2⟩)
        | ((with_reducible refine (ND1.out _ hV2.out).mono ?_); rintro e w3 ⟨rfl, hV3⟩)))
  go_wp2
  have HV3 := hV3
  clear hV1 hV2 hV3 hV1d hf1 d4 CK ND3 ND1 c0 c1 c2 c3 c4 HV0
  obtain ⟨X, hX⟩ : ∃ X, wrap64 (wrap64 (1 + a) + b) = X := ⟨_, rfl⟩
  have hX2 : X = 1 + a + b := by rw [← hX]; unfold wrap64; omega
  have hX0 : 0 ≤ X := by omega
  have hX1 : X ≤ 90000 := by omega
  have hX3 : IntKind.i64.wrap (IntKind.i64.wrap (1 + a) + b) = X := by simp only [IntKind.wrap_i64]; unfold wrap64 at hX; exact hX
  have HX2 := Lib.hid hX2
  clear hX2
  clear hX
  go_loopw [3, 4] (fun s i wr => ∃ k : Nat, k ≤ n ∧ i = .int .i64 k ∧ s = .int .i64 (X + trees20 (ds.take k)) ∧ Hid (Vp20 w wr (.int .i64 v0) (.int .i64 v1) (.int .i64 v2) (.int .i64 D) (.slice A n c))) (fun _ i _ => n - (intOf i).toNat)
  case atStart => exact ⟨0, by omega, rfl, by rw [T0.out, Int.add_zero]; exact congrArg (Value.int .i64) hX3, HV3⟩
  case round =>
    clear HV3 hX3
    obtain ⟨k, hk, rfl, rfl, HV⟩ := hrel
    have d4 := HV.out.at.2
    obtain ⟨t1, t2⟩ := TB.out k
    by_cases hlt : k < n
    · obtain ⟨b', off, A', m, c', rfl, hb, g4, hm, hst⟩ := HD.out k hlt
      have gg4 := (HV.out.bel.cell (p := ⟨b', off + k * 5 + 4, none⟩) hb).trans g4
      obtain ⟨u1, u2⟩ := TB.out (k + 1)
      have hw : wrap64 (X + trees20 (ds.take k) + nod20 12 m) = X + trees20 (ds.take (k + 1)) := by unfold wrap64; omega
      have HW := Lib.hid hw
      clear hw hst g4 u1 u2
      generalize trees20 (ds.take k) = t at *
      go_wp2_with (go_at_call 23; (with_reducible refine (ND2.out m _ HV.out).mono ?_); rintro e w4 ⟨rfl, hV4⟩)
      go_roundw
      case rel => exact ⟨k + 1, by omega, by push_cast; rfl, congrArg (Value.int .i64) HW.out, hV4⟩
      case measure => simp [intOf]; omega
    · obtain rfl : k = n := by omega
      have hta := TA.out
      have HT := Lib.hid hta
      obtain ⟨Y, hY⟩ : ∃ Y, X + trees20 (ds.take k) = Y := ⟨_, rfl⟩
      have hY0 : 0 ≤ Y := by omega
      have hY1 : Y ≤ 97000 := by omega
      rw [hY]
      have HY : Hid (IntKind.i64.wrap (IntKind.i64.wrap (IntKind.i64.wrap (Y + x) + y) + B) = 1 + a + b + trees20 ds + x + y + B) := by
        have hX2 := HX2.out
        rw [hta] at hY
        refine Lib.hid ?_
        simp only [IntKind.wrap_i64]
        omega
      clear hY hta HT TB T0 TA HD ND2 HX2
      obtain ⟨e0, e1, e2, e3, e4⟩ := HV.out.row.cs
      go_wp2_with (go_at_call 24; (with_reducible refine (RF.out _ HV.out).mono ?_); rintro e w5 ⟨A', c', rfl, HI, HV5⟩)
      have hcap := HI.out.cap
      have hmost := HI.out.most
      clear RF HV d4 e0 e1 e2 e3 e4
      go_loopw [6, 7] (fun s i wr => ∃ j : Nat, j ≤ D ∧ i = .int .i64 j ∧ s = .int .i64 (((L.take j).countP (fun c => decide (3 ≤ c)) : Nat) : Int) ∧ w5 = wr) (fun _ i _ => D - (intOf i).toNat)
      case atStart => exact ⟨0, by omega, rfl, rfl, rfl⟩
      case round =>
        obtain ⟨j, hj, rfl, rfl, rfl⟩ := hrel
        by_cases hlj : j < D
        · obtain ⟨b', off, hA, _, hc⟩ := HI.out.row.lit (by rw [i64s_length]; omega)
          have hck := hc j _ (i64s_at L j (by omega))
          have hos := OS.out j hlj
          rw [getD18 (by omega)] at hos
          have hcl : (L.take j).countP (fun c => decide (3 ≤ c)) ≤ 65536 := Nat.le_trans List.countP_le_length (by rw [List.length_take]; omega)
          subst hA
          obtain ⟨z, hz⟩ : ∃ z, (L.take (j + 1)).countP (fun c => decide (3 ≤ c)) = z := ⟨_, rfl⟩
          have HZ := Lib.hid hz
          rw [hz] at hos
          clear hz hc OS OA
          generalize (L.take j).countP (fun c => decide (3 ≤ c)) = q at *
          by_cases h3 : 3 ≤ L[j]
          · rw [if_pos h3] at hos
            subst hos
            generalize L[j] = xx at *
            go_wp2
            go_roundw
            case rel => exact ⟨j + 1, by omega, by push_cast; rfl, by rw [HZ.out]; push_cast; rfl, trivial⟩
            case measure => simp [intOf]; omega
          · rw [if_neg h3] at hos
            subst hos
            generalize L[j] = xx at *
            go_wp2
            go_roundw
            case rel => exact ⟨j + 1, by omega, by push_cast; rfl, by rw [HZ.out], trivial⟩
            case measure => simp [intOf]; omega
        · obtain rfl : j = D := by omega
          have hoa := OA.out
          rw [hoa]
          clear hoa OS OA HI
          go_wp2
          have hV5d := HV5.out.later (Below.refl _ _).drew
          have hf5 := hV5d.at.1
          go_region_held3 (fun W => W.cell? ⟨w.heap.size, 3, none⟩ = some (.int .i64 j) ∧ Vp20 w W (.int .i64 v0) (.int .i64 v1) (.int .i64 v2) (.int .i64 j) (.slice A k c))
            (first
              | exact ⟨hV9.out.at.1, hV9.out⟩
              | exact ⟨hV8.out.at.1, hV8.out⟩
              | exact ⟨hV7.out.at.1, hV7.out⟩
              | exact ⟨hV6.out.at.1, hV6.out⟩
              | exact ⟨hf5, hV5d⟩)
            (first
              | (go_at_call 9; first
                | ((with_reducible refine (BM.out _ hV8.out).mono ?_); rintro e w9 ⟨rfl, hV9⟩)
                | ((with_reducible refine (BM.out _ hV5d).mono ?_); rintro e w6 ⟨rfl, hV6⟩))
              | (go_at_call 23; first
                | ((with_reducible refine (ND5.out _ hV7.out).mono ?_); rintro e w8 ⟨rfl, hV8⟩)
                | ((with_reducible refine (ND4.out _ hV6.out).mono ?_); rintro e w7 ⟨rfl, hV7⟩)))
          go_wp2
          go_ret
          exact ⟨by rw [← HY.out]; rfl, hV9.out.bel⟩

set_option maxRecDepth 100000 in
set_option maxHeartbeats 800000 in
theorem refNeed_bad20 (p : Pol18) (A : Option Addr) (n c : Nat) (w : World) (h : Dvs w A n c p.devs) (hc : cnt18 p.devs ≤ 1000000) (hv : chkE18 p ≠ 0) :
    Calls Try.prog 13 #[polV18 p A n c] w fun e w' => e = .returned (.int .i64 0) ∧ Below w.heap.size w w' := by
  obtain ⟨W0, hW0⟩ : ∃ W0, w.alloc (.cells #[.int .i64 p.tx, .int .i64 p.time, .int .i64 p.unit, .int .i64 p.data, .slice A n c] 24) = W0 := ⟨_, rfl⟩
  have hV0 : Vp20 w W0 (.int .i64 p.tx) (.int .i64 p.time) (.int .i64 p.unit) (.int .i64 p.data) (.slice A n c) := by rw [← hW0]; exact Vp20.new w _ _ _ _ _
  have BS := Lib.hid (refBase_bad20 p A n c W0 (h.below hV0.bel) hc hv)
  unfold polV18 at BS
  obtain ⟨c0, c1, c2, c3, c4⟩ := hV0.row.cs
  have HV := Lib.hid hV0
  clear h hV0 hv
  unfold polV18
  generalize p.tx = v0 at *
  generalize p.time = v1 at *
  generalize p.unit = v2 at *
  generalize p.data = v3 at *
  go_enter Try.func13, Try.ntmps13
  go_wp2_with (go_at_call 11; (with_reducible refine (BS.out).mono ?_); rintro e w1 ⟨rfl, hb1⟩; have HB1 := Lib.hid (HV.out.later hb1).bel; clear hb1)
  go_ret
  exact ⟨rfl, HB1.out⟩

set_option maxRecDepth 100000 in
set_option maxHeartbeats 800000 in
theorem refNeed_good20 (p : Pol18) (A : Option Addr) (n c : Nat) (w : World) (h : Dvs w A n c p.devs) (hv : chkE18 p = 0) :
    Calls Try.prog 13 #[polV18 p A n c] w fun e w' => e = .returned (.int .i64 (need20 (sum20 p))) ∧ Below w.heap.size w w' := by
  obtain ⟨W0, hW0⟩ : ∃ W0, w.alloc (.cells #[.int .i64 p.tx, .int .i64 p.time, .int .i64 p.unit, .int .i64 p.data, .slice A n c] 24) = W0 := ⟨_, rfl⟩
  have hV0 : Vp20 w W0 (.int .i64 p.tx) (.int .i64 p.time) (.int .i64 p.unit) (.int .i64 p.data) (.slice A n c) := by rw [← hW0]; exact Vp20.new w _ _ _ _ _
  have BS := Lib.hid (refBase_good20 p A n c W0 (h.below hV0.bel) hv)
  unfold polV18 at BS
  obtain ⟨s1, s2⟩ := sum20_bounds hv
  obtain ⟨c0, c1, c2, c3, c4⟩ := hV0.row.cs
  have HV := Lib.hid hV0
  clear h hV0 hv
  unfold polV18
  generalize p.tx = v0 at *
  generalize p.time = v1 at *
  generalize p.unit = v2 at *
  generalize p.data = v3 at *
  generalize sum20 p = s at *
  have hyb : (s == 0) = false := by simpa using (show s ≠ 0 by omega)
  have n1 := need20_more (base := s) (by omega)
  have n2 := need20_max (base := s) (by omega) s2
  have LE := Lib.hid (fun i (hi : i < need20 s) => need20_less (base := s) (by omega) hi)
  have UN := Lib.hid (fun i (hi : i ≤ need20 s) => need20_under (base := s) (by omega) hi)
  have RO := Lib.hid (need20_room (base := s) (by omega))
  have BM := Lib.hid refBitmaps_any20
  have BN := Lib.hid bms20_nonneg
  generalize need20 s = N at *
  go_enter Try.func13, Try.ntmps13
  go_wp2_with (go_at_call 11; (with_reducible refine (BS.out).mono ?_); rintro e w1 ⟨rfl, hb1⟩; have HB1 := Lib.hid (HV.out.later hb1).bel; clear hb1)
  go_loopw [4] (fun i wr => ∃ k : Int, s + 2 ≤ k ∧ k ≤ N ∧ i = .int .i64 k ∧ w1 = wr) (fun i _ => (N - intOf i).toNat)
  case atStart => exact ⟨s + 2, by omega, by omega, by first | rfl | exact congrArg (Value.int .i64) (by unfold wrap64; omega), rfl⟩
  case round =>
    obtain ⟨k, hk0, hk1, rfl, rfl⟩ := hrel
    have hu := UN.out k hk1
    have hb0 := BN.out k
    by_cases hlt : k < N
    · have hl := LE.out k hlt
      have BK := Lib.hid (BM.out k (by omega) (by omega) w1)
      clear LE UN RO BM BN
      generalize bms20 k = g at *
      go_wp2_with (go_at_call 9; (with_reducible refine (BK.out).mono ?_); rintro e w2 ⟨rfl, rfl⟩)
      go_roundw
      case rel => exact ⟨k + 1, by omega, by omega, by first | rfl | exact congrArg (Value.int .i64) (by unfold wrap64; omega), trivial⟩
      case measure => simp [intOf]; omega
    · obtain rfl : k = N := by omega
      have hl := RO.out
      have BK := Lib.hid (BM.out k (by omega) (by omega) w1)
      clear LE UN RO BM BN
      generalize bms20 k = g at *
      go_wp2_with (go_at_call 9; (with_reducible refine (BK.out).mono ?_); rintro e w2 ⟨rfl, rfl⟩)
      go_ret
      exact ⟨rfl, HB1.out⟩

theorem refBase_any20 (p : Pol18) (A : Option Addr) (n c : Nat) (w : World) (h : Dvs w A n c p.devs) (hc : cnt18 p.devs ≤ 1000000) :
    Calls Try.prog 11 #[polV18 p A n c] w fun e w' => e = .returned (.int .i64 (base20 p)) ∧ Below w.heap.size w w' := by
  by_cases hv : chkE18 p = 0
  · rw [(base20_good hv).1]
    exact refBase_good20 p A n c w h hv
  · rw [(base20_bad hv).1]
    exact refBase_bad20 p A n c w h hc hv
theorem refNeed_any20 (p : Pol18) (A : Option Addr) (n c : Nat) (w : World) (h : Dvs w A n c p.devs) (hc : cnt18 p.devs ≤ 1000000) :
    Calls Try.prog 13 #[polV18 p A n c] w fun e w' => e = .returned (.int .i64 (needL20 p)) ∧ Below w.heap.size w w' := by
  by_cases hv : chkE18 p = 0
  · rw [(base20_good hv).2]
    exact refNeed_good20 p A n c w h hv
  · rw [(base20_bad hv).2]
    exact refNeed_bad20 p A n c w h hc hv

/-- what Fits answers -/
def fit20 (p : Pol18) (n : Int) : Bool := decide (chkE18 p = 0) && decide (needL20 p ≤ n) && decide (n ≤ 14400)
theorem fit20_bad {p : Pol18} {n : Int} (h : chkE18 p ≠ 0) : fit20 p n = false := by simp [fit20, h]
theorem fit20_good {p : Pol18} {n : Int} (h : chkE18 p = 0) : fit20 p n = (decide (needL20 p ≤ n) && decide (n ≤ 14400)) := by simp [fit20, h]

set_option maxRecDepth 100000 in
set_option maxHeartbeats 800000 in
theorem refFits_any20 (p : Pol18) (A : Option Addr) (n c : Nat) (m : Int) (w : World) (h : Dvs w A n c p.devs) (hc : cnt18 p.devs ≤ 1000000) :
    Calls Try.prog 15 #[polV18 p A n c, .int .i64 m] w fun e w' => e = .returned (.bool (fit20 p m)) ∧ Below w.heap.size w w' := by
  obtain ⟨W0, hW0⟩ : ∃ W0, w.alloc (.cells #[.int .i64 p.tx, .int .i64 p.time, .int .i64 p.unit, .int .i64 p.data, .slice A n c] 24) = W0 := ⟨_, rfl⟩
  have hV0 : Vp20 w W0 (.int .i64 p.tx) (.int .i64 p.time) (.int .i64 p.unit) (.int .i64 p.data) (.slice A n c) := by rw [← hW0]; exact Vp20.new w _ _ _ _ _
  have CK := Lib.hid (refCheck_any18 p A n c W0 (h.below hV0.bel) hc)
  have NE : Hid (∀ W, Vp20 w W (.int .i64 p.tx) (.int .i64 p.time) (.int .i64 p.unit) (.int .i64 p.data) (.slice A n c) → Calls Try.prog 13 #[polV18 p A n c] W fun e w' => e = .returned (.int .i64 (needL20 p)) ∧ Below W.heap.size W w') := fun W hV => refNeed_any20 p A n c W (h.below hV.bel) hc
  unfold polV18 at CK NE
  obtain ⟨c0, c1, c2, c3, c4⟩ := hV0.row.cs
  have HV := Lib.hid hV0
  by_cases hv : chkE18 p = 0
  · rw [fit20_good hv]
    rw [hv] at CK
    clear h hV0 hv
    unfold polV18
    generalize needL20 p = N at *
    generalize p.tx = v0 at *
    generalize p.time = v1 at *
    generalize p.unit = v2 at *
    generalize p.data = v3 at *
    by_cases h1 : N ≤ m
    · rw [decide_eq_true h1, Bool.true_and]
      go_enter Try.func15, Try.ntmps15
      go_wp2_with (first
        | (go_at_call 22; (with_reducible refine (CK.out).mono ?_); rintro e w1 ⟨rfl, hb1⟩; have HV1 := Lib.hid (HV.out.later hb1); obtain ⟨d0, d1, d2, d3, d4⟩ := HV1.out.row.cs; clear hb1)
        | (go_at_call 13; (with_reducible refine (NE.out _ HV1.out).mono ?_); rintro e w2 ⟨rfl, hb2⟩; have HB2 := Lib.hid (HV1.out.later hb2).bel; clear hb2))
      go_ret
      exact ⟨rfl, HB2.out⟩
    · rw [decide_eq_false h1, Bool.false_and]
      go_enter Try.func15, Try.ntmps15
      go_wp2_with (first
        | (go_at_call 22; (with_reducible refine (CK.out).mono ?_); rintro e w1 ⟨rfl, hb1⟩; have HV1 := Lib.hid (HV.out.later hb1); obtain ⟨d0, d1, d2, d3, d4⟩ := HV1.out.row.cs; clear hb1)
        | (go_at_call 13; (with_reducible refine (NE.out _ HV1.out).mono ?_); rintro e w2 ⟨rfl, hb2⟩; have HB2 := Lib.hid (HV1.out.later hb2).bel; clear hb2))
      go_ret
      exact ⟨rfl, HB2.out⟩
  · rw [fit20_bad hv]
    have hyb : (chkE18 p == 0) = false := by simpa using hv
    clear h hV0 hv NE
    unfold polV18
    generalize chkE18 p = y at *
    generalize p.tx = v0 at *
    generalize p.time = v1 at *
    generalize p.unit = v2 at *
    generalize p.data = v3 at *
    go_enter Try.func15, Try.ntmps15
    go_wp2_with (go_at_call 22; (with_reducible refine (CK.out).mono ?_); rintro e w1 ⟨rfl, hb1⟩; have HV1 := Lib.hid (HV.out.later hb1); clear hb1)
    go_ret
    exact ⟨rfl, HV1.out.bel⟩
end Go.Proofs.Ytcmehjjaologpaa
