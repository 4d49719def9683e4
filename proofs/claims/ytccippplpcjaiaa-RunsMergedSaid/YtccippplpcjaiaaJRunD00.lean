/-
  Joined, on top of RunB: RunMath 1, RunLawD 3.
-/
import Derived.Test.YtccippplpcjaiaaJRunB00
import Derived.Test.YtccippplpcjaiaaJRunB01
import Derived.Test.YtccippplpcjaiaaJRunB02
import Derived.Test.YtccippplpcjaiaaJRunB03
import Derived.Test.YtccippplpcjaiaaJRunB04
import Derived.Test.YtccippplpcjaiaaJRunB05
import Derived.Test.YtccippplpcjaiaaJRunB06
import Derived.Test.YtccippplpcjaiaaJRunB07
import Derived.Test.YtccippplpcjaiaaJRunB08
import Derived.Test.YtccippplpcjaiaaJRunB09
import Derived.Test.YtccippplpcjaiaaJRunB10
import Derived.Test.YtccippplpcjaiaaJRunB11
import Derived.Test.YtccippplpcjaiaaJRunB12
import Derived.Test.YtccippplpcjaiaaJRunB13
import Derived.Test.YtccippplpcjaiaaJRunB14
import Derived.Test.YtccippplpcjaiaaJRunB15
/-
  Layer 19's mathematics: runs of mappings, mappings of runs, runs joined.
-/
namespace Go.Proofs.Ytccippplpcjaiaa
open Go.RowKit
set_option linter.unusedVariables false
set_option linter.unusedSimpArgs false

theorem merge19_length : ∀ l : List Run19, (merge19 l).length ≤ l.length := fun l => by
  induction h : l.length generalizing l with
  | zero => rw [List.eq_nil_of_length_eq_zero h]; exact Nat.le_refl _
  | succ k ih =>
    rcases last19 l with rfl | ⟨o, a, rfl⟩
    · simp at h
    · rw [merge19_snoc]
      have := ih o (by simpa using h)
      have := addR19_length (merge19 o) a
      omega

end Go.Proofs.Ytccippplpcjaiaa

/-
  Layer 19: RunsMerged.
-/
namespace Go.Proofs.Ytccippplpcjaiaa
open Go.RowKit
set_option linter.unusedVariables false
set_option linter.unusedSimpArgs false

/-- what may be has numbers of 64 bits -/
theorem chk19_bd : ∀ {l : List Run19} {all : Int} {p : Option Run19}, 0 ≤ all → chkE19 all p l = 0 → Bd19 l
  | [], _, _, _, _ => fun q hq => by cases hq
  | r :: l, all, p, ha, h => by
    obtain ⟨h1, _, h3⟩ := chk19_cons.1 h
    have hr := runR19_yes.1 h1
    have ih := chk19_bd (by omega) h3
    intro q hq
    rcases List.mem_cons.1 hq with rfl | hq
    · omega
    · exact ih q hq
/-- the mappings of runs as one -/
theorem mer19_facts {l : List Run19} (h : chkE19 0 none l = 0) : merL19 l = merge19 l ∧ chkE19 0 none (merL19 l) = 0 ∧ Bd19 (merL19 l) ∧ mapL19 (merL19 l) = mapL19 l ∧ of19 (mapL19 l) = merL19 l ∧ (merL19 l).length ≤ l.length := by
  have e : merL19 l = merge19 l := if_pos h
  have h2 := merge19_chk h
  have hp := chk19_pos h
  have e2 : mapL19 l = maps19 l := if_pos h
  refine ⟨e, by rw [e]; exact h2, by rw [e]; exact chk19_bd (Int.le_refl 0) h2, ?_, by rw [e, e2, merge19_of hp], by rw [e]; exact merge19_length l⟩
  rw [e, e2, mapL19, if_pos h2, merge19_maps hp]

set_option maxRecDepth 100000 in
set_option maxHeartbeats 1600000 in
theorem runsmerged_walk (A : Option Addr) (n c : Nat) (l : List Run19) (w : World) (h : Rns w A n c l) (hbd : Bd19 l) :
    Calls Try.prog 6 #[.slice A n c] w fun e w' => e = .returned (.bool true) ∧ Below w.heap.size w w' := by
  have LV : Hid (∀ W, Hid (Below w.heap.size w W) → Calls Try.prog 8 #[] W fun e w' => e = .returned (.bool true) ∧ Hid (Below w.heap.size w w')) := fun W hW => (lives19_any W).mono fun e w' ⟨h1, h2⟩ => ⟨h1, hW.out.trans (h2.mono hW.out.size)⟩
  have B0 : Hid (Below w.heap.size w w) := Below.refl _ _
  have hle : n ≤ 9223372036854775807 := Nat.le_trans h.cap h.most
  have hl := h.len
  by_cases hn : n ≤ 500
  · have MG : Hid (Calls Try.prog 17 #[.slice A n c] w fun e w' => ∃ A' c', e = .returned (.slice A' (merL19 l).length c') ∧ Hid (Rns w' A' (merL19 l).length c' (merL19 l)) ∧ Hid (Below w.heap.size w w')) := Merge_any19 l A n c w h hbd
    have MP : Hid (∀ W A1 n1 c1, Hid (Below w.heap.size w W) → Hid (Rns W A1 n1 c1 (merL19 l)) → Calls Try.prog 12 #[.slice A n c] W fun e w' => ∃ A' c', e = .returned (.tuple #[.slice A' (mapL19 l).length c', .int .i64 (chkE19 0 none l)]) ∧ Hid (Trs w' A' (mapL19 l).length c' (mapL19 l)) ∧ Hid (Rns w' A1 n1 c1 (merL19 l)) ∧ Hid (Below w.heap.size w w')) := fun W A1 n1 c1 hW hR => (Maps_any19 l A n c W (h.below hW.out) hbd).mono fun e w' ⟨A', c', h1, h2, h3⟩ => ⟨A', c', h1, h2, hR.out.below h3, hW.out.trans (h3.mono hW.out.size)⟩
    by_cases hv : chkE19 0 none l = 0
    · obtain ⟨e1, f1, f2, f3, f4, f5⟩ := mer19_facts hv
      obtain ⟨hsm, hfew⟩ := mapL19_good hv
      rw [hv] at MP
      have MM : Hid (∀ W A1 c1 A2 n2 c2, Hid (Below w.heap.size w W) → Hid (Rns W A1 (merL19 l).length c1 (merL19 l)) → Hid (Trs W A2 n2 c2 (mapL19 l)) → Calls Try.prog 12 #[.slice A1 (merL19 l).length c1] W fun e w' => ∃ A' c', e = .returned (.tuple #[.slice A' (mapL19 l).length c', .int .i64 0]) ∧ Hid (Trs w' A' (mapL19 l).length c' (mapL19 l)) ∧ Hid (Rns w' A1 (merL19 l).length c1 (merL19 l)) ∧ Hid (Trs w' A2 n2 c2 (mapL19 l)) ∧ Hid (Below w.heap.size w w')) := fun W A1 c1 A2 n2 c2 hW hR hT => by
        have := Maps_any19 (merL19 l) A1 _ c1 W hR.out f2
        rw [f3, f1] at this
        exact this.mono fun e w' ⟨A', c', h1, h2, h3⟩ => ⟨A', c', h1, h2, hR.out.below h3, hT.out.below h3, hW.out.trans (h3.mono hW.out.size)⟩
      have ST : Hid (∀ W A1 n1 c1 A2 n2 c2 A3 n3 c3, Hid (Trs W A1 n1 c1 (mapL19 l)) → Hid (Trs W A2 n2 c2 (mapL19 l)) → Hid (Rns W A3 n3 c3 (merL19 l)) → Hid (Below w.heap.size w W) → Calls Try.prog 14 #[.slice A1 n1 c1, .slice A2 n2 c2] W fun e w' => e = .returned (.bool true) ∧ Hid (Trs w' A1 n1 c1 (mapL19 l)) ∧ Hid (Rns w' A3 n3 c3 (merL19 l)) ∧ Hid (Below w.heap.size w w')) := fun W A1 n1 c1 A2 n2 c2 A3 n3 c3 h1 h2 hR hW => (refSameMaps_any18 A1 A2 n1 c1 n2 c2 _ _ W h1.out h2.out true (by simp)).mono fun e w' ⟨h3, h4⟩ => ⟨h3, h1.out.below h4, hR.out.below h4, hW.out.trans (h4.mono hW.out.size)⟩
      have OF : Hid (∀ W A1 c1 A3 n3 c3, Hid (Trs W A1 (mapL19 l).length c1 (mapL19 l)) → Hid (Rns W A3 n3 c3 (merL19 l)) → Hid (Below w.heap.size w W) → Calls Try.prog 10 #[.slice A1 (mapL19 l).length c1] W fun e w' => ∃ A' c', e = .returned (.slice A' (merL19 l).length c') ∧ Hid (Rns w' A' (merL19 l).length c' (merL19 l)) ∧ Hid (Rns w' A3 n3 c3 (merL19 l)) ∧ Hid (Below w.heap.size w w')) := fun W A1 c1 A3 n3 c3 hT hR hW => by
        have := Of_any19 (mapL19 l) A1 _ c1 W hT.out (by omega) hsm
        rw [f4] at this
        exact this.mono fun e w' ⟨A', c', h1, h2, h3⟩ => ⟨A', c', h1, h2, hR.out.below h3, hW.out.trans (h3.mono hW.out.size)⟩
      have SM : Hid (∀ W A1 n1 c1 A2 n2 c2, Hid (Rns W A1 n1 c1 (merL19 l)) → Hid (Rns W A2 n2 c2 (merL19 l)) → Hid (Below w.heap.size w W) → Calls Try.prog 9 #[.slice A1 n1 c1, .slice A2 n2 c2] W fun e w' => e = .returned (.bool true) ∧ Hid (Below w.heap.size w w')) := fun W A1 n1 c1 A2 n2 c2 h1 h2 hW => (refSame_any19 A1 A2 n1 c1 n2 c2 _ _ W h1.out h2.out true (by simp)).mono fun e w' ⟨h1, h2⟩ => ⟨h1, hW.out.trans (h2.mono hW.out.size)⟩
      rw [hl] at f5
      clear h hbd hv e1 f1 f2 f3 f4 hsm hl
      generalize (merL19 l).length = m at *
      generalize (mapL19 l).length = m2 at *
      go_enter Try.func6, Try.ntmps6
      go_wp2_with (first
        | (go_at_call 17; (with_reducible refine (MG.out).mono ?_); rintro e w1 ⟨A1, c1, rfl, HR1, HB1⟩)
        | (go_at_call 12; first
          | ((with_reducible refine (MM.out _ _ _ _ _ _ HB2 HR2 HT2).mono ?_); rintro e w3 ⟨A3, c3, rfl, HT3, HR3, HT4, HB3⟩)
          | ((with_reducible refine (MP.out _ _ _ _ HB1 HR1).mono ?_); rintro e w2 ⟨A2, c2, rfl, HT2, HR2, HB2⟩))
        | (go_at_call 14; (with_reducible refine (ST.out _ _ _ _ _ _ _ _ _ _ HT4 HT3 HR3 HB3).mono ?_); rintro e w4 ⟨rfl, HT5, HR4, HB4⟩)
        | (go_at_call 10; (with_reducible refine (OF.out _ _ _ _ _ _ HT5 HR4 HB4).mono ?_); rintro e w5 ⟨A5, c5, rfl, HR5, HR6, HB5⟩)
        | (go_at_call 9; (with_reducible refine (SM.out _ _ _ _ _ _ _ HR5 HR6 HB5).mono ?_); rintro e w6 ⟨rfl, HB6⟩)
        | (go_at_call 8; (with_reducible refine (LV.out _ HB6).mono ?_); rintro e w7 ⟨rfl, HB7⟩))
      go_ret
      exact ⟨rfl, HB7.out⟩
    · have e1 : merL19 l = [] := if_neg hv
      have e2 : mapL19 l = [] := if_neg hv
      rw [e1] at MG MP
      rw [e2] at MP
      have hyb : (chkE19 0 none l != 0) = true := by simpa using hv
      clear h hbd hv e1 e2 hl
      simp only [List.length_nil] at MG MP
      generalize chkE19 0 none l = y at *
      go_enter Try.func6, Try.ntmps6
      go_wp2_with (first
        | (go_at_call 17; (with_reducible refine (MG.out).mono ?_); rintro e w1 ⟨A1, c1, rfl, HR1, HB1⟩)
        | (go_at_call 12; (with_reducible refine (MP.out _ _ _ _ HB1 HR1).mono ?_); rintro e w2 ⟨A2, c2, rfl, HT2, HR2, HB2⟩)
        | (go_at_call 8; (with_reducible refine (LV.out _ HB2).mono ?_); rintro e w7 ⟨rfl, HB7⟩))
      go_ret
      exact ⟨rfl, HB7.out⟩
  · clear h hbd
    go_enter Try.func6, Try.ntmps6
    go_wp2_with (go_at_call 8; (with_reducible refine (LV.out _ B0).mono ?_); rintro e w2 ⟨rfl, HB2⟩)
    go_ret
    exact ⟨rfl, HB2.out⟩
end Go.Proofs.Ytccippplpcjaiaa
