/-
  Layer 12: the reference's From.
-/
import Derived.Test.YtojmhkdlaalifaaRefS
import Derived.Test.YtojmhkdlaalifaaRefG
namespace Go.Proofs.Ytojmhkdlaalifaa
open Go.RowKit
set_option linter.unusedVariables false
set_option linter.unusedSimpArgs false

theorem i64s_snoc (l : List Int) (x : Int) : i64s (l ++ [x]) = i64s l ++ [.int .i64 x] := by simp [i64s]

set_option maxRecDepth 100000 in
set_option maxHeartbeats 1600000 in
theorem refFrom12_any {B q : Nat} {v : Value} {N : Nat} {l : List Int} (m : Int) (w : World) (h : RRef12 w B q v N l) (hN : N ≤ 65536) (hl : l.length ≤ 100000) (hin : ∀ x ∈ l, 0 ≤ x ∧ x < (N : Int)) :
    Calls Try.prog 20 #[.pointer (some ⟨q, 0, none⟩), .int .i64 m] w fun e w' => ∃ A k c, e = .returned (.slice A k c) ∧ Ints w' A k c (fromR12 (lstR12 N l) m N) ∧ Below w.heap.size w w' ∧ Newer w.heap.size A := by
  have LI := Lib.hid (refList12_any w h hN hl hin)
  have hlen : (lstR12 N l).length = N := lstR12_length _ _
  clear h hin
  generalize lstR12 N l = L at *
  have hlen := Lib.hid hlen
  go_enter Try.func20, Try.ntmps20
  go_wp2_with (go_at_call 17; (with_reducible refine (LI.out).mono ?_); rintro e w1 ⟨A, c, rfl, hI, hb1, hN1⟩; have HI := Lib.hid hI; have hcap := hI.cap; have hmost := hI.most; have HB := Lib.hid hb1; clear hI hb1 hN1)
  clear LI
  go_loopw [6, 7] (fun u i wr => ∃ k : Nat, k ≤ N ∧ i = .int .i64 k ∧ Hid (wr.ownsRow w1.heap.size 3 1 u (fromR12 L m k).length (i64s (fromR12 L m k))) ∧ Hid (Below w1.heap.size w1 wr)) (fun _ i _ => N - (intOf i).toNat)
  case atStart => exact ⟨0, by omega, rfl, by rw [fromR12_zero]; exact World.ownsRow_nil _ _ _ _, Below.refl _ _⟩
  case round =>
    obtain ⟨k, hk, rfl, hown, hb⟩ := hrel
    by_cases hlt : k < N
    · obtain ⟨b, off, hA, _, hc⟩ := (HI.out.below hb.out).row.lit (by rw [i64s_length, hlen.out]; omega)
      have hck := hc k _ (i64s_at L k (by rw [hlen.out]; omega))
      have YES : Hid (m ≤ L[k]'(by rw [hlen.out]; omega) → fromR12 L m (k + 1) = fromR12 L m k ++ [(k : Int)]) := fun h => fromR12_yes (by rw [hlen.out]; omega) h
      have NO : Hid (¬ m ≤ L[k]'(by rw [hlen.out]; omega) → fromR12 L m (k + 1) = fromR12 L m k) := fun h => fromR12_no (by rw [hlen.out]; omega) h
      clear hc
      have hle := fromR12_le L m k
      have hs := hb.out.size
      generalize L[k]'(by rw [hlen.out]; omega) = x at *
      generalize fromR12 L m k = cur at *
      subst hA
      by_cases hx : m ≤ x
      · have hd : decide (m ≤ x) = true := by simpa using hx
        have HY := Lib.hid (YES.out hx)
        clear YES NO hx
        go_wp2_with (at_builtin; go_must (refine wpList_append_new wr rfl _ _ 22 rfl w1.heap.size 3 3 (.int .i64 0) 8 Try.underlying22 info_i64 rfl u6 cur.length (i64s cur) rfl hown hs [.int .i64 (k : Int)] 1 1 rfl rfl (by simp [Value.oneCell']) (by omega) (by omega) ?_; intro v2 w2 hown2 hs2 hb2; have hb3 := Lib.hid (hb.out.trans hb2); clear hb2 hown))
        go_roundw
        case rel => exact ⟨k + 1, by omega, by simp, by rw [HY.out, i64s_snoc, List.length_append]; exact hown2, hb3⟩
        case measure => simp [intOf]; omega
      · have hd : decide (m ≤ x) = false := by simpa using hx
        have HY := Lib.hid (NO.out hx)
        clear YES NO hx
        go_wp2
        go_roundw
        case rel => exact ⟨k + 1, by omega, by simp, by rw [HY.out]; exact hown, hb⟩
        case measure => simp [intOf]; omega
    · obtain rfl : k = N := by omega
      go_wp2
      go_ret
      obtain ⟨A2, c2, rfl, hI2⟩ := Ints.of_own hown.out
      exact ⟨_, _, _, rfl, hI2, HB.out.trans (hb.out.mono HB.out.size), (Newer.of_own hown.out).mono HB.out.size⟩

end Go.Proofs.Ytojmhkdlaalifaa
