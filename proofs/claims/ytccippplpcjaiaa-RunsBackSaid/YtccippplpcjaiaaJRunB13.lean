/-
  Joined: RunB.
-/
import Derived.BigQuiet
import Derived.Test.YtccippplpcjaiaaJRunB10
import Derived.Test.YtccippplpcjaiaaJRunB01
/-
  Layer 19: the reference's Check.
-/
namespace Go.Proofs.Ytccippplpcjaiaa
open Go.RowKit
set_option linter.unusedVariables false
set_option linter.unusedSimpArgs false

theorem runAt19_bad {all : Int} {p : Option Run19} {l : List Run19} {k : Nat} (h : runR19 (all + all19 (l.take k)) (l.getD k zero19) = false) : runAt19 all p l k = 2 := if_pos h
theorem runAt19_over {l : List Run19} {all : Int} {k : Nat} (h : runR19 (all + all19 (l.take k)) (l.getD k zero19) = true) (hk : 0 < k) (ho : (l.getD k zero19).v < (l.getD (k - 1) zero19).v + (l.getD (k - 1) zero19).n) : runAt19 all none l k = 17 := by
  unfold runAt19
  rw [if_neg (by rw [h]; decide), if_pos ⟨_, by rw [if_neg (by omega)], ho⟩]
theorem runAt19_first {l : List Run19} {all : Int} (h : runR19 (all + all19 (l.take 0)) (l.getD 0 zero19) = true) : runAt19 all none l 0 = 0 := by
  unfold runAt19
  rw [if_neg (by rw [h]; decide), if_neg (by rintro ⟨a, ha, _⟩; simp at ha)]
theorem runAt19_good {l : List Run19} {all : Int} {k : Nat} (h : runR19 (all + all19 (l.take k)) (l.getD k zero19) = true) (hk : 0 < k) (ho : ¬ (l.getD k zero19).v < (l.getD (k - 1) zero19).v + (l.getD (k - 1) zero19).n) : runAt19 all none l k = 0 := by
  unfold runAt19
  rw [if_neg (by rw [h]; decide), if_neg (by
    rintro ⟨a, ha, h2⟩
    rw [if_neg (by omega)] at ha
    cases ha
    exact ho h2)]
theorem runAt19_right {l : List Run19} {all : Int} {p : Option Run19} {k : Nat} (h : runAt19 all p l k = 0) : runR19 (all + all19 (l.take k)) (l.getD k zero19) = true := by
  cases hr : runR19 (all + all19 (l.take k)) (l.getD k zero19) with
  | true => rfl
  | false => rw [runAt19_bad hr] at h; cases h
/-- a run in a variable -/
def RunC19 (W : World) (b : Nat) (r : Run19) : Prop := W.heap[b]? = some (.cells #[.int .i64 r.v, .int .i64 r.b, .int .i64 r.n, .int .i64 r.t] 41 (0, 0))
theorem RunC19.cs {W : World} {b : Nat} {r : Run19} (h : RunC19 W b r) : W.cell? ⟨b, 0, none⟩ = some (.int .i64 r.v) ∧ W.cell? ⟨b, 1, none⟩ = some (.int .i64 r.b) ∧ W.cell? ⟨b, 2, none⟩ = some (.int .i64 r.n) ∧ W.cell? ⟨b, 3, none⟩ = some (.int .i64 r.t) :=
  ⟨by rw [cell_of_row W b 0 _ _ _ h]; rfl, by rw [cell_of_row W b 1 _ _ _ h]; rfl, by rw [cell_of_row W b 2 _ _ _ h]; rfl, by rw [cell_of_row W b 3 _ _ _ h]; rfl⟩

set_option maxRecDepth 100000 in
set_option maxHeartbeats 6400000 in
theorem refChk_any19 (l : List Run19) (A : Option Addr) (n c : Nat) (w : World) (h : Rns w A n c l) (hbd : ∀ q ∈ l, (-9223372036854775808 ≤ q.v ∧ q.v ≤ 9223372036854775807) ∧ (-9223372036854775808 ≤ q.b ∧ q.b ≤ 9223372036854775807) ∧ (-9223372036854775808 ≤ q.n ∧ q.n ≤ 9223372036854775807) ∧ (-9223372036854775808 ≤ q.t ∧ q.t ≤ 9223372036854775807)) :
    Calls Try.prog 16 #[.slice A n c] w fun e w' => e = .returned (.int .i64 (chkE19 0 none l)) ∧ Below w.heap.size w w' := by
  have hle : n ≤ 9223372036854775807 := Nat.le_trans h.cap h.most
  have hl := h.len
  have HD := Lib.hid h
  obtain ⟨R, hR⟩ : ∃ R, chkE19 0 none l = R := ⟨_, rfl⟩
  rw [hR]
  have BD : Hid (∀ k e, k < n → (∀ j, j < k → runAt19 0 none l j = 0) → runAt19 0 none l k = e → e ≠ 0 → R = e) := fun k e hk hj he h0 => by
    rw [← hR, chk19_bad (k := k) (by omega) hj (by rw [he]; exact h0), he]
  have EN : Hid ((∀ j, j < n → runAt19 0 none l j = 0) → R = 0) := fun hj => by rw [← hR]; exact chk19_ok (by rw [hl]; exact hj)
  have ST : Hid (∀ k, k < n → all19 (l.take (k + 1)) = all19 (l.take k) + (l.getD k zero19).n) := fun k hk => by rw [all19_take (by omega), getD19 (by omega)]
  have BDS : Hid (∀ k, k < n → (-9223372036854775808 ≤ (l.getD k zero19).v ∧ (l.getD k zero19).v ≤ 9223372036854775807) ∧ (-9223372036854775808 ≤ (l.getD k zero19).b ∧ (l.getD k zero19).b ≤ 9223372036854775807) ∧ (-9223372036854775808 ≤ (l.getD k zero19).n ∧ (l.getD k zero19).n ≤ 9223372036854775807)) := fun k hk => by
    have hkl : k < l.length := by omega
    rw [getD19 hkl]
    obtain ⟨h1, h2, h3, _⟩ := hbd l[k] (List.getElem_mem hkl)
    exact ⟨h1, h2, h3⟩
  clear h hR hbd
  go_enter Try.func16, Try.ntmps16
  go_wp2
  go_loopw [3, 4] (fun v i wr => ∃ (k : Nat), k ≤ n ∧ i = .int .i64 k ∧ v = .int .i64 (all19 (l.take k)) ∧ Hid (0 ≤ all19 (l.take k) ∧ all19 (l.take k) ≤ 16384) ∧ Hid (∀ j, j < k → runAt19 0 none l j = 0) ∧ Hid (Below w.heap.size w wr)) (fun _ i _ => n - (intOf i).toNat)
  case atStart => exact ⟨0, by omega, rfl, rfl, ⟨by simp [all19], by simp [all19]⟩, fun j hj => by omega, Below.refl _ _⟩
  case round =>
    obtain ⟨k, hk, rfl, rfl, hs, hJ, hbel⟩ := hrel
    by_cases hlt : k < n
    · obtain ⟨b, off, r, rfl, hb, hx, hkl, d0, d1, d2, d3⟩ := rns_at HD.out hlt
      have g0 := (hbel.out.cell (p := ⟨b, off + k * 4, none⟩) hb).trans d0
      have g1 := (hbel.out.cell (p := ⟨b, off + k * 4 + 1, none⟩) hb).trans d1
      have g2 := (hbel.out.cell (p := ⟨b, off + k * 4 + 2, none⟩) hb).trans d2
      have g3 := (hbel.out.cell (p := ⟨b, off + k * 4 + 3, none⟩) hb).trans d3
      have HBA := Lib.hid (hbel.out.alloc hbel.out.size (.cells #[.int .i64 r.v, .int .i64 r.b, .int .i64 r.n, .int .i64 r.t] 41))
      have hbd := BDS.out k hlt
      rw [show l.getD k zero19 = r from hx] at hbd
      obtain ⟨⟨bv1, bv2⟩, ⟨bb1, bb2⟩, bn1, bn2⟩ := hbd
      obtain ⟨hs1, hs2⟩ := hs.out
      have BAD : Hid (runR19 (all19 (l.take k)) r = false → R = 2) := fun e => BD.out k 2 hlt hJ.out (runAt19_bad (by rw [Int.zero_add, show l.getD k zero19 = r from hx]; exact e)) (by decide)
      have hst := ST.out k hlt
      rw [show l.getD k zero19 = r from hx] at hst
      have HST := Lib.hid hst
      have OVR := Lib.hid (fun hr hk h => BD.out k 17 hlt hJ.out (runAt19_over (l := l) (all := 0) (k := k) hr hk h) (by decide))
      have GOO := Lib.hid (runAt19_good (l := l) (all := 0) (k := k))
      have FST : Hid (k = 0 → runR19 (0 + all19 (l.take k)) (l.getD k zero19) = true → runAt19 0 none l k = 0) := fun e hr => by subst e; exact runAt19_first hr
      have NX : Hid (runAt19 0 none l k = 0 → ∀ j, j < k + 1 → runAt19 0 none l j = 0) := fun h j hj => by
        by_cases e : j = k
        · rw [e]; exact h
        · exact hJ.out j (by omega)
      have hPR : Hid (∀ k', k = k' + 1 → 1 ≤ (l.getD k' zero19).n ∧ 0 ≤ (l.getD k' zero19).v ∧ (l.getD k' zero19).v + (l.getD k' zero19).n - 1 ≤ 281474976710655) := fun k' e => by
        have := runR19_yes.1 (runAt19_right (hJ.out k' (by omega)))
        exact ⟨this.1, this.2.1, this.2.2.1⟩
      rw [Int.zero_add, show l.getD k zero19 = r from hx] at OVR GOO FST
      clear d0 d1 d2 d3 hst
      have HXR := Lib.hid hx
      clear hx
      generalize all19 (l.take k) = s at *
      obtain ⟨v, b', n', t⟩ := r
      dsimp only at *
      by_cases c1 : n' < 1
      · obtain rfl : R = 2 := BAD.out (by
          cases hq : runR19 s ⟨v, b', n', t⟩ with
          | false => rfl
          | true =>
            have := runR19_yes.1 hq
            dsimp only at this
            omega)
        clear BAD OVR GOO FST NX hPR BD EN ST BDS
        go_wp2
        go_ret
        exact ⟨rfl, HBA.out⟩
      · by_cases c2 : 16384 < n'
        · obtain rfl : R = 2 := BAD.out (by
            cases hq : runR19 s ⟨v, b', n', t⟩ with
            | false => rfl
            | true =>
              have := runR19_yes.1 hq
              dsimp only at this
              omega)
          clear BAD OVR GOO FST NX hPR BD EN ST BDS
          go_wp2
          go_ret
          exact ⟨rfl, HBA.out⟩
        · by_cases c3 : v < 0
          · obtain rfl : R = 2 := BAD.out (by
              cases hq : runR19 s ⟨v, b', n', t⟩ with
              | false => rfl
              | true =>
                have := runR19_yes.1 hq
                dsimp only at this
                omega)
            clear BAD OVR GOO FST NX hPR BD EN ST BDS
            go_wp2
            go_ret
            exact ⟨rfl, HBA.out⟩
          · by_cases c4 : 281474976710655 < v
            · obtain rfl : R = 2 := BAD.out (by
                cases hq : runR19 s ⟨v, b', n', t⟩ with
                | false => rfl
                | true =>
                  have := runR19_yes.1 hq
                  dsimp only at this
                  omega)
              clear BAD OVR GOO FST NX hPR BD EN ST BDS
              go_wp2
              go_ret
              exact ⟨rfl, HBA.out⟩
            · by_cases c5 : 281474976710655 < v + n' - 1
              · obtain rfl : R = 2 := BAD.out (by
                  cases hq : runR19 s ⟨v, b', n', t⟩ with
                  | false => rfl
                  | true =>
                    have := runR19_yes.1 hq
                    dsimp only at this
                    omega)
                clear BAD OVR GOO FST NX hPR BD EN ST BDS
                go_wp2
                go_ret
                exact ⟨rfl, HBA.out⟩
              · by_cases c6 : b' < 0
                · obtain rfl : R = 2 := BAD.out (by
                    cases hq : runR19 s ⟨v, b', n', t⟩ with
                    | false => rfl
                    | true =>
                      have := runR19_yes.1 hq
                      dsimp only at this
                      omega)
                  clear BAD OVR GOO FST NX hPR BD EN ST BDS
                  go_wp2
                  go_ret
                  exact ⟨rfl, HBA.out⟩
                · by_cases c7 : 65536 < b'
                  · obtain rfl : R = 2 := BAD.out (by
                      cases hq : runR19 s ⟨v, b', n', t⟩ with
                      | false => rfl
                      | true =>
                        have := runR19_yes.1 hq
                        dsimp only at this
                        omega)
                    clear BAD OVR GOO FST NX hPR BD EN ST BDS
                    go_wp2
                    go_ret
                    exact ⟨rfl, HBA.out⟩
                  · by_cases c8 : 65536 < b' + n'
                    · obtain rfl : R = 2 := BAD.out (by
                        cases hq : runR19 s ⟨v, b', n', t⟩ with
                        | false => rfl
                        | true =>
                          have := runR19_yes.1 hq
                          dsimp only at this
                          omega)
                      clear BAD OVR GOO FST NX hPR BD EN ST BDS
                      go_wp2
                      go_ret
                      exact ⟨rfl, HBA.out⟩
                    · by_cases c9 : t < 0
                      · obtain rfl : R = 2 := BAD.out (by
                          cases hq : runR19 s ⟨v, b', n', t⟩ with
                          | false => rfl
                          | true =>
                            have := runR19_yes.1 hq
                            dsimp only at this
                            omega)
                        clear BAD OVR GOO FST NX hPR BD EN ST BDS
                        go_wp2
                        go_ret
                        exact ⟨rfl, HBA.out⟩
                      · by_cases c10 : 16777215 < t
                        · obtain rfl : R = 2 := BAD.out (by
                            cases hq : runR19 s ⟨v, b', n', t⟩ with
                            | false => rfl
                            | true =>
                              have := runR19_yes.1 hq
                              dsimp only at this
                              omega)
                          clear BAD OVR GOO FST NX hPR BD EN ST BDS
                          go_wp2
                          go_ret
                          exact ⟨rfl, HBA.out⟩
                        · by_cases c11 : 16384 < s + n'
                          · obtain rfl : R = 2 := BAD.out (by
                              cases hq : runR19 s ⟨v, b', n', t⟩ with
                              | false => rfl
                              | true =>
                                have := runR19_yes.1 hq
                                dsimp only at this
                                omega)
                            clear BAD OVR GOO FST NX hPR BD EN ST BDS
                            go_wp2
                            go_ret
                            exact ⟨rfl, HBA.out⟩
                          · have hrr : runR19 s ⟨v, b', n', t⟩ = true := runR19_yes.2 (by dsimp only; omega)
                            have hsn : 0 ≤ s + n' ∧ s + n' ≤ 16384 := by omega
                            have HSN := Lib.hid hsn
                            clear hsn
                            by_cases hk0 : k = 0
                            · have HNX := Lib.hid (NX.out (FST.out hk0 hrr))
                              have hkz : ¬ (0 : Int) < (k : Int) := by omega
                              have hkd : decide ((0 : Int) < (k : Int)) = false := by simpa using hkz
                              have hkd2 : decide (0 < k) = false := by simpa using hk0
                              clear BAD OVR GOO FST NX hPR BD EN ST BDS hrr hk0
                              go_wp2
                              go_quiet (fail)
                              go_wp2
                              go_roundw
                              all_goals first
                                | exact ⟨k + 1, by omega, by push_cast; rfl, by rw [HST.out], by rw [HST.out]; exact HSN.out, HNX, below_drewN HBA.out _⟩
                                | (simp only [intOf]; omega)
                            · obtain ⟨k', hkk⟩ : ∃ k', k = k' + 1 := ⟨k - 1, by omega⟩
                              obtain ⟨b2, off2, q, e2, hb2, hx2, hkl2, p0, p1, p2, p3⟩ := rns_at HD.out (k := k') (by omega)
                              cases e2
                              have hpr := hPR.out k' hkk
                              rw [show l.getD k' zero19 = q from hx2] at hpr
                              obtain ⟨hq1, hq2, hq3⟩ := hpr
                              have q0 := (HBA.out.cell (p := ⟨b, off + k' * 4, none⟩) hb).trans p0
                              have q2 := (HBA.out.cell (p := ⟨b, off + k' * 4 + 2, none⟩) hb).trans p2
                              have ek : k - 1 = k' := by omega
                              rw [ek, show l.getD k' zero19 = q from hx2] at OVR GOO
                              have hw : IntKind.i64.wrap ((k : Int) - 1) = (k' : Int) := (IntWalk.i64_in _ (by omega)).trans (by omega)
                              have hw2 : IntKind.i64.wrap (k' : Int) = (k' : Int) := IntWalk.i64_in _ (by omega)
                              have hkp : 0 < k := by omega
                              have hkp2 : k' < n := by omega
                              have hkd : decide ((0 : Int) < (k : Int)) = true := by simpa using hkp
                              have hkd2 : decide (0 < k) = true := by simpa using hkp
                              have hwq : IntKind.i64.wrap (q.v + q.n) = q.v + q.n := IntWalk.i64_in _ (by omega)
                              have HKK := Lib.hid hkk
                              clear hkk ek hk0 p0 p1 p2 p3 hx2 hkl2 FST hPR BAD
                              obtain ⟨qv, qb, qn, qt⟩ := q
                              dsimp only at *
                              by_cases ho : v < qv + qn
                              · obtain rfl : R = 17 := OVR.out hrr hkp ho
                                have hod : decide (v < qv + qn) = true := by simpa using ho
                                clear OVR GOO NX BD EN ST BDS hrr ho
                                go_wp2
                                go_quiet (fail)
                                go_wp2
                                go_ret
                                exact ⟨rfl, below_drewN HBA.out _⟩
                              · have HNX := Lib.hid (NX.out (GOO.out hrr hkp ho))
                                have hod : decide (v < qv + qn) = false := by simpa using ho
                                clear OVR GOO NX BD EN ST BDS hrr ho
                                go_wp2
                                go_quiet (fail)
                                go_wp2
                                go_roundw
                                all_goals first
                                  | exact ⟨k + 1, by omega, by push_cast; rfl, by rw [HST.out], by rw [HST.out]; exact HSN.out, HNX, below_drewN HBA.out _⟩
                                  | (simp only [intOf]; omega)
    · obtain rfl : k = n := by omega
      obtain rfl : R = 0 := EN.out hJ.out
      generalize all19 (l.take k) = s at *
      go_wp2
      go_ret
      exact ⟨rfl, hbel.out⟩
end Go.Proofs.Ytccippplpcjaiaa
