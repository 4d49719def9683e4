/-
  Layer 7: the reference's Same.
-/
import Derived.Test.YtebcbaejpebpfaaNodF
namespace Go.Proofs.Ytebcbaejpebpfaa
open Go.RowKit
set_option linter.unusedVariables false
set_option linter.unusedSimpArgs false

set_option maxRecDepth 100000 in
set_option maxHeartbeats 3200000 in
theorem refSame_any7 (w : World) (a b : Nod) (A : Option Addr) (n c : Nat) (A2 : Option Addr) (n2 c2 : Nat) (B : Option Addr) (m d : Nat) (B2 : Option Addr) (m2 d2 : Nat) (ha : NodIn w a A n c A2 n2 c2) (hb : NodIn w b B m d B2 m2 d2) (r : Bool) (hr : sameN a b = r) :
    Calls Try.prog 14 #[nodV a A n c A2 n2 c2, nodV b B m d B2 m2 d2] w fun e w' => e = .returned (.bool r) ∧ Below w.heap.size w w' := by
  have T0 := two_nodes w a b (.slice A n c) (.slice A2 n2 c2) (.slice B m d) (.slice B2 m2 d2)
  have k0 := T0.fst.c0
  have k1 := T0.fst.c1
  have k2 := T0.fst.c2
  have k3 := T0.fst.c3
  have l0 := T0.snd.c0
  have l1 := T0.snd.c1
  have l2 := T0.snd.c2
  have l3 := T0.snd.c3
  have HT := Lib.hid T0
  have HA := Lib.hid ha
  have HB := Lib.hid hb
  have han := ha.keys.le
  have hbn := hb.keys.le
  have han2 : n2 ≤ 9223372036854775807 := Nat.le_trans ha.vals.cap ha.vals.most
  have hbn2 : m2 ≤ 9223372036854775807 := Nat.le_trans hb.vals.cap hb.vals.most
  have hla := ha.keys.len
  have hlb := hb.keys.len
  have hva := ha.vals.len
  have hvb := hb.vals.len
  clear T0 ha hb
  obtain ⟨tree, leaf, ks, vs⟩ := a
  obtain ⟨tree2, leaf2, ks2, vs2⟩ := b
  simp only [sameN] at hr
  dsimp only at *
  simp only [nodV]
  by_cases h1 : tree = tree2
  · subst h1
    by_cases h2 : leaf = leaf2
    · subst h2
      by_cases h3 : n = m
      · subst h3
        by_cases h4 : n2 = m2
        · subst h4
          have HR : Hid (r = (decide (ks = ks2) && decide (vs = vs2))) := by rw [← hr]; simp [Hid]
          clear hr
          go_enter Try.func14, Try.ntmps14
          go_wp2
          generalize (w.alloc (.cells #[.int .i64 tree, .bool leaf, .slice A n c, .slice A2 n2 c2] 25)).alloc (.cells #[.int .i64 tree, .bool leaf, .slice B n d, .slice B2 n2 d2] 25) = W2 at *
          go_loopw [5] (fun i wr => ∃ k : Nat, k ≤ n ∧ i = .int .i64 k ∧ Hid (ks.take k = ks2.take k) ∧ Hid (Two7 w wr w.heap.size ⟨tree, leaf, ks, vs⟩ ⟨tree, leaf, ks2, vs2⟩ (.slice A n c) (.slice A2 n2 c2) (.slice B n d) (.slice B2 n2 d2))) (fun i _ => n - (intOf i).toNat)
          case atStart => exact ⟨0, by omega, rfl, rfl, HT⟩
          case round =>
            clear k0 k1 k2 k3 l0 l1 l2 l3
            obtain ⟨k, hk, rfl, hE, hT⟩ := hrel
            have k2 := hT.out.fst.c2
            have l2 := hT.out.snd.c2
            by_cases hlt : k < n
            · obtain ⟨b, off, rfl, hb, hcell⟩ := HA.out.keys.row.lit (by rw [i64s_length]; show 0 < ks.length; omega)
              obtain ⟨b2, off2, rfl, hb2, hcell2⟩ := HB.out.keys.row.lit (by rw [i64s_length]; show 0 < ks2.length; omega)
              have hkl : k < ks.length := by omega
              have hkl2 : k < ks2.length := by omega
              have hc1 : wr.cell? ⟨b, off + k, none⟩ = some (.int .i64 ks[k]) := (hT.out.bel.cell (p := ⟨b, off + k, none⟩) hb).trans (hcell k _ (i64s_at ks k hkl))
              have hc2 : wr.cell? ⟨b2, off2 + k, none⟩ = some (.int .i64 ks2[k]) := (hT.out.bel.cell (p := ⟨b2, off2 + k, none⟩) hb2).trans (hcell2 k _ (i64s_at ks2 k hkl2))
              clear hcell hcell2
              by_cases hx : ks[k] = ks2[k]
              · have hT1 : Hid (ks.take (k + 1) = ks2.take (k + 1)) := by
                  rw [List.take_succ_eq_append_getElem hkl, List.take_succ_eq_append_getElem hkl2, hE.out, hx]; rfl
                rw [hx] at hc1
                generalize ks2[k] = x at *
                clear hx
                go_wp2
                go_region
                go_wp2
                go_roundw
                case rel => exact ⟨k + 1, by omega, by go_num, hT1, hT.out.later ((Below.refl _ _).drew)⟩
                case measure => simp [intOf]; omega
              · obtain rfl : r = false := by
                  rw [HR.out]
                  have : decide (ks = ks2) = false := by
                    apply decide_eq_false
                    intro h
                    subst h
                    exact hx rfl
                  rw [this]; rfl
                generalize ks[k] = x at *
                generalize ks2[k] = y at *
                go_wp2
                go_region
                go_wp2
                go_ret
                exact ⟨rfl, hT.out.bel.drew⟩
            · obtain rfl : k = n := by omega
              have heq : ks = ks2 := by
                have := hE.out
                rwa [List.take_of_length_le (by omega), List.take_of_length_le (by omega)] at this
              have HR2 : Hid (r = decide (vs = vs2)) := by rw [HR.out, decide_eq_true heq]; simp [Hid]
              clear HR hE
              go_wp2
              go_loopw [6] (fun i wr => ∃ j : Nat, j ≤ n2 ∧ i = .int .i64 j ∧ Hid (vs.take j = vs2.take j) ∧ Hid (Two7 w wr w.heap.size ⟨tree, leaf, ks, vs⟩ ⟨tree, leaf, ks2, vs2⟩ (.slice A k c) (.slice A2 n2 c2) (.slice B k d) (.slice B2 n2 d2))) (fun i _ => n2 - (intOf i).toNat)
              case atStart => exact ⟨0, by omega, rfl, rfl, hT⟩
              case round =>
                clear k2 l2 hT
                obtain ⟨j, hj, rfl, hE, hT⟩ := hrel
                have k3 := hT.out.fst.c3
                have l3 := hT.out.snd.c3
                by_cases hlt : j < n2
                · obtain ⟨b, off, rfl, hb, hcell⟩ := strs_cell HA.out.vals (by omega)
                  obtain ⟨b2, off2, rfl, hb2, hcell2⟩ := strs_cell HB.out.vals (by omega)
                  have hkl : j < vs.length := by omega
                  have hkl2 : j < vs2.length := by omega
                  obtain ⟨s, hse, _, hcs⟩ := hcell j hkl
                  obtain ⟨s2, hse2, _, hcs2⟩ := hcell2 j hkl2
                  have hc1 : wr.cell? ⟨b, off + j, none⟩ = some (.string s) := (hT.out.bel.cell (p := ⟨b, off + j, none⟩) hb).trans hcs
                  have hc2 : wr.cell? ⟨b2, off2 + j, none⟩ = some (.string s2) := (hT.out.bel.cell (p := ⟨b2, off2 + j, none⟩) hb2).trans hcs2
                  clear hcs hcs2 hcell hcell2
                  dsimp only at hse hse2
                  by_cases hx : vs[j] = vs2[j]
                  · have hT1 : Hid (vs.take (j + 1) = vs2.take (j + 1)) := by
                      rw [List.take_succ_eq_append_getElem hkl, List.take_succ_eq_append_getElem hkl2, hE.out, hx]; rfl
                    obtain rfl : s = s2 := by rw [hse, hse2, hx]
                    clear hx hse hse2
                    go_wp2
                    go_region
                    go_wp2
                    go_roundw
                    case rel => exact ⟨j + 1, by omega, by go_num, hT1, hT.out.later ((Below.refl _ _).drew)⟩
                    case measure => simp [intOf]; omega
                  · obtain rfl : r = false := by
                      rw [HR2.out]
                      apply decide_eq_false
                      intro h
                      subst h
                      exact hx rfl
                    have hne : ¬ s = s2 := by
                      intro e
                      rw [hse, hse2] at e
                      injection e with e
                      exact hx (by have := congrArg Array.toList e; simpa using this)
                    have hne2 := str_ne hne
                    have hne3 : (!s.toList == s2.toList) = true := by rw [hne2]; rfl
                    clear hx hse hse2
                    go_wp2
                    go_region
                    go_wp2
                    go_ret
                    exact ⟨rfl, hT.out.bel.drew⟩
                · obtain rfl : j = n2 := by omega
                  obtain rfl : r = true := by
                    rw [HR2.out]
                    apply decide_eq_true
                    have := hE.out
                    rwa [List.take_of_length_le (by omega), List.take_of_length_le (by omega)] at this
                  go_wp2
                  go_ret
                  exact ⟨rfl, hT.out.bel⟩
        · obtain rfl : false = r := by
            rw [← hr]
            have : decide (vs = vs2) = false := by
              apply decide_eq_false
              intro h; subst h; exact h4 (hva.symm.trans hvb)
            rw [this]; simp
          have hne : ((n2 : Int) != (m2 : Int)) = true := by rw [bne_iff_ne]; omega
          clear hr
          go_enter Try.func14, Try.ntmps14
          go_wp2
          go_ret
          exact ⟨rfl, HT.out.bel⟩
      · obtain rfl : false = r := by
          rw [← hr]
          have : decide (ks = ks2) = false := by
            apply decide_eq_false
            intro h; subst h; exact h3 (hla.symm.trans hlb)
          rw [this]; simp
        have hne : ((n : Int) != (m : Int)) = true := by rw [bne_iff_ne]; omega
        clear hr
        go_enter Try.func14, Try.ntmps14
        go_wp2
        go_ret
        exact ⟨rfl, HT.out.bel⟩
    · obtain rfl : false = r := by rw [← hr]; simp [h2]
      have hne : (leaf != leaf2) = true := by cases leaf <;> cases leaf2 <;> first | rfl | exact absurd rfl h2
      clear hr
      go_enter Try.func14, Try.ntmps14
      go_wp2
      go_ret
      exact ⟨rfl, HT.out.bel⟩
  · obtain rfl : false = r := by rw [← hr]; simp [h1]
    have hne : (tree != tree2) = true := by rw [bne_iff_ne]; exact h1
    clear hr
    go_enter Try.func14, Try.ntmps14
    go_wp2
    go_ret
    exact ⟨rfl, HT.out.bel⟩

end Go.Proofs.Ytebcbaejpebpfaa
