/-
  Layer 12: the reference's Differ.
-/
import Derived.BigQuiet
import Derived.Test.YtojmhkdlaalifaaRefT
namespace Go.Proofs.Ytojmhkdlaalifaa
open Go.RowKit
set_option linter.unusedVariables false
set_option linter.unusedSimpArgs false

set_option maxRecDepth 100000 in
set_option maxHeartbeats 3200000 in
theorem refDiffer12_any {A B : Option Addr} {n c m d : Nat} {La Lb : List Int} (w : World) (hA : Ints w A n c La) (hB : Ints w B m d Lb) (hn : n ≤ 65536) (hm : m ≤ 65536) :
    Calls Try.prog 22 #[.slice A n c, .slice B m d] w fun e w' => ∃ A' k c', e = .returned (.slice A' k c') ∧ Ints w' A' k c' (difR12 La Lb (mostR12 La Lb)) ∧ Below w.heap.size w w' ∧ Newer w.heap.size A' := by
  have e : mostR12 La Lb = max n m := by rw [mostR12, hA.len, hB.len]
  rw [e]
  clear e
  have HA := Lib.hid hA
  have HB := Lib.hid hB
  have hla := Lib.hid hA.len
  have hlb := Lib.hid hB.len
  have hcA := hA.cap
  have hmA := hA.most
  have hcB := hB.cap
  have hmB := hB.most
  clear hA hB
  obtain ⟨M, hM⟩ : ∃ M, M = max n m := ⟨_, rfl⟩
  rw [← hM]
  have hM1 : M ≤ 65536 := by omega
  have HM := Lib.hid hM
  clear hM
  go_enter Try.func22, Try.ntmps22
  go_wp2
  go_loopw [5, 6] (fun u i wr => ∃ k : Nat, k ≤ M ∧ i = .int .i64 k ∧ Hid (wr.ownsRow w.heap.size 3 1 u (difR12 La Lb k).length (i64s (difR12 La Lb k))) ∧ Hid (Below w.heap.size w wr)) (fun _ i _ => M - (intOf i).toNat)
  case atStart => exact ⟨0, by omega, rfl, by rw [difR12_zero]; exact World.ownsRow_nil _ _ _ _, Below.refl _ _⟩
  case round =>
    obtain ⟨k, hk, rfl, hown, hb⟩ := hrel
    have hs := hb.out.size
    have hle := difR12_le La Lb k
    have YES : Hid (difB12 La Lb k = true → difR12 La Lb (k + 1) = difR12 La Lb k ++ [(k : Int)]) := fun h => difR12_yes h
    have NO : Hid (difB12 La Lb k = false → difR12 La Lb (k + 1) = difR12 La Lb k) := fun h => difR12_no h
    have HD : Hid (difB12 La Lb k = !(decide (k < n) && decide (k < m) && decide (La.getD k 0 = Lb.getD k 0))) := by show _ = _; rw [difB12, hla.out, hlb.out]
    by_cases hlt : k < M
    · generalize difR12 La Lb k = cur at *
      by_cases hka : k < n
      · have da : decide ((k : Int) < (n : Int)) = true := by simp; omega
        have da2 : decide (k < n) = true := by simpa using hka
        by_cases hkb : k < m
        · have db : decide ((k : Int) < (m : Int)) = true := by simp; omega
          have db2 : decide (k < m) = true := by simpa using hkb
          obtain ⟨b1, o1, hA1, _, hc1⟩ := (HA.out.below hb.out).row.lit (by rw [i64s_length, hla.out]; omega)
          have hck1 := hc1 k _ (i64s_at La k (by rw [hla.out]; omega))
          obtain ⟨b2, o2, hB1, _, hc2⟩ := (HB.out.below hb.out).row.lit (by rw [i64s_length, hlb.out]; omega)
          have hck2 := hc2 k _ (i64s_at Lb k (by rw [hlb.out]; omega))
          have ea : La.getD k 0 = La[k]'(by rw [hla.out]; omega) := by simp [List.getD_eq_getElem?_getD, show k < La.length by rw [hla.out]; omega]
          have eb : Lb.getD k 0 = Lb[k]'(by rw [hlb.out]; omega) := by simp [List.getD_eq_getElem?_getD, show k < Lb.length by rw [hlb.out]; omega]
          rw [da2, db2, ea, eb] at HD
          clear hc1 hc2 ea eb
          generalize La[k]'(by rw [hla.out]; omega) = x at *
          generalize Lb[k]'(by rw [hlb.out]; omega) = y at *
          subst hA1; subst hB1
          by_cases hxy : x = y
          · have ht : (x == y) = true := by simpa using hxy
            have HY := Lib.hid (NO.out (by rw [HD.out]; simp [hxy]))
            clear YES NO HD hxy
            go_wp2_with (go_quiet (fail))
            go_roundw
            case rel => exact ⟨k + 1, by omega, by simp, by rw [HY.out]; exact hown, below_drewN hb.out _⟩
            case measure => simp [intOf]; omega
          · have ht : (x == y) = false := by simpa using hxy
            have HY := Lib.hid (YES.out (by rw [HD.out]; simp [hxy]))
            clear YES NO HD hxy
            go_wp2_with (first | go_quiet (fail) | (at_builtin; go_must (refine wpList_append_new (wr.drewN nq) rfl _ _ 22 rfl w.heap.size 3 3 (.int .i64 0) 8 Try.underlying22 info_i64 rfl u5 cur.length (i64s cur) rfl hown hs [.int .i64 (k : Int)] 1 1 rfl rfl (by simp [Value.oneCell']) (by omega) (by omega) ?_; intro v2 w2 hown2 hs2 hb2; have hb3 := Lib.hid ((below_drewN hb.out nq).trans hb2); clear hb2 hown)))
            go_roundw
            case rel => exact ⟨k + 1, by omega, by simp, by rw [HY.out, i64s_snoc, List.length_append]; exact hown2, hb3⟩
            case measure => simp [intOf]; omega
        · have db : decide ((k : Int) < (m : Int)) = false := by simp; omega
          have db2 : decide (k < m) = false := by simpa using hkb
          have HY := Lib.hid (YES.out (by rw [HD.out, db2]; simp))
          clear YES NO HD
          go_wp2_with (first | go_quiet (fail) | (at_builtin; go_must (refine wpList_append_new (wr.drewN nq) rfl _ _ 22 rfl w.heap.size 3 3 (.int .i64 0) 8 Try.underlying22 info_i64 rfl u5 cur.length (i64s cur) rfl hown hs [.int .i64 (k : Int)] 1 1 rfl rfl (by simp [Value.oneCell']) (by omega) (by omega) ?_; intro v2 w2 hown2 hs2 hb2; have hb3 := Lib.hid ((below_drewN hb.out nq).trans hb2); clear hb2 hown)))
          go_roundw
          case rel => exact ⟨k + 1, by omega, by simp, by rw [HY.out, i64s_snoc, List.length_append]; exact hown2, hb3⟩
          case measure => simp [intOf]; omega
      · have da : decide ((k : Int) < (n : Int)) = false := by simp; omega
        have da2 : decide (k < n) = false := by simpa using hka
        have db : decide ((k : Int) < (m : Int)) = true := by have := HM.out; simp; omega
        have db2 : decide (k < m) = true := by have := HM.out; simp; omega
        have HY := Lib.hid (YES.out (by rw [HD.out, da2]; simp))
        clear YES NO HD
        go_wp2_with (first | go_quiet (fail) | (at_builtin; go_must (refine wpList_append_new (wr.drewN nq) rfl _ _ 22 rfl w.heap.size 3 3 (.int .i64 0) 8 Try.underlying22 info_i64 rfl u5 cur.length (i64s cur) rfl hown hs [.int .i64 (k : Int)] 1 1 rfl rfl (by simp [Value.oneCell']) (by omega) (by omega) ?_; intro v2 w2 hown2 hs2 hb2; have hb3 := Lib.hid ((below_drewN hb.out nq).trans hb2); clear hb2 hown)))
        go_roundw
        case rel => exact ⟨k + 1, by omega, by simp, by rw [HY.out, i64s_snoc, List.length_append]; exact hown2, hb3⟩
        case measure => simp [intOf]; omega
    · obtain rfl : k = M := by omega
      have hkn : ¬ k < n := by have := HM.out; omega
      have hkm : ¬ k < m := by have := HM.out; omega
      have da : decide ((k : Int) < (n : Int)) = false := by simp; omega
      have da2 : decide (k < n) = false := by simpa using hkn
      have db : decide ((k : Int) < (m : Int)) = false := by simp; omega
      have db2 : decide (k < m) = false := by simpa using hkm
      go_wp2
      go_ret
      obtain ⟨A2, c2, rfl, hI2⟩ := Ints.of_own hown.out
      exact ⟨_, _, _, rfl, hI2, hb.out, Newer.of_own hown.out⟩

end Go.Proofs.Ytojmhkdlaalifaa
