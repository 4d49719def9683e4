/-
  Layer 12: List, Total.
-/
import Derived.Test.YtojmhkdlaalifaaRefA
import Derived.Test.YtojmhkdlaalifaaMemB
namespace Go.Proofs.Ytojmhkdlaalifaa
open Go.RowKit
set_option linter.unusedVariables false
set_option linter.unusedSimpArgs false

set_option maxRecDepth 100000 in
set_option maxHeartbeats 800000 in
theorem List12_any {v : Value} {A : Option Addr} {n : Nat} {L : List Int} (w : World) (h : Own12 w v A n L) :
    Calls Try.prog 16 #[v] w fun e w' => ∃ A' c', e = .returned (.slice A' n c') ∧ Ints w' A' n c' L ∧ Below w.heap.size w w' ∧ Newer w.heap.size A' := by
  have O := Lib.hid (own12_any w h)
  have HI := Lib.hid h.ints
  have hm := h.most
  clear h
  go_enter Try.func16, Try.ntmps16
  go_wp2_with (first
    | (go_at_call 24; (with_reducible refine (O.out).mono ?_); rintro e w' ⟨rfl, rfl⟩)
    | (at_builtin; go_must (refine wpList_append_row _ rfl _ _ 22 rfl w.heap.size 3 (.int .i64 0) 8 Try.underlying22 info_i64 rfl (.slice none 0 0) 0 [] rfl (World.ownsRow_nil _ _ _ _) (Nat.le_refl _) A (i64s L) n _ rfl (by rw [i64s_length]; exact HI.out.len) HI.out.row (i64s_one _) (by omega) (by omega) ?_; intro v2 w2 hown2 hs2 hb2; obtain ⟨A2, c2, hv2, HB2⟩ := Ints.of_own (n := n) (l := L) (by simpa using hown2.out); rw [hv2]; have hf2 : Hid (Newer w.heap.size A2) := Newer.of_own (by rw [← hv2]; exact hown2.out); clear hown2)))
  go_ret
  exact ⟨A2, c2, rfl, HB2, hb2, hf2.out⟩

set_option maxRecDepth 100000 in
set_option maxHeartbeats 800000 in
theorem Total12_any {v : Value} {A : Option Addr} {n : Nat} {L : List Int} (w : World) (h : Own12 w v A n L) (hs : ∀ k, k ≤ L.length → 0 ≤ sumR12 L k ∧ sumR12 L k ≤ 4611686018427387904) :
    Calls Try.prog 18 #[v] w fun e w' => e = .returned (.int .i64 L.sum) ∧ w = w' := by
  have O := Lib.hid (own12_any w h)
  have HI := Lib.hid h.ints
  have hm := h.most
  have hl := h.ints.len
  have HS := Lib.hid hs
  have FIN : Hid (sumR12 L n = L.sum) := by rw [← hl]; exact sumR12_all L
  clear h hs
  go_enter Try.func18, Try.ntmps18
  go_wp2_with (go_at_call 24; (with_reducible refine (O.out).mono ?_); rintro e w' ⟨rfl, rfl⟩)
  clear O
  go_loopw [3, 9] (fun s i wr => ∃ k : Nat, k ≤ n ∧ i = .int .i64 k ∧ s = .int .i64 (sumR12 L k) ∧ w = wr) (fun _ i _ => n - (intOf i).toNat)
  case atStart => exact ⟨0, by omega, rfl, rfl, rfl⟩
  case round =>
    obtain ⟨k, hk, rfl, rfl, rfl⟩ := hrel
    by_cases hlt : k < n
    · obtain ⟨b, off, hA, _, hc⟩ := HI.out.row.lit (by rw [i64s_length]; omega)
      have hck := hc k _ (i64s_at L k (by omega))
      subst hA
      have hS := sumR12_succ (L := L) (k := k) (by omega)
      obtain ⟨b1, b2⟩ := HS.out k (by omega)
      obtain ⟨b3, b4⟩ := HS.out (k + 1) (by omega)
      obtain ⟨s2, hs2⟩ : ∃ s2, sumR12 L (k + 1) = s2 := ⟨_, rfl⟩
      rw [hs2] at hS b3 b4
      have HE := Lib.hid hs2
      clear hs2
      generalize hx : L[k]'(by omega) = x at *
      generalize sumR12 L k = s1 at *
      have hw : wrap64 (s1 + x) = s2 := by unfold wrap64; omega
      clear hS hc HS HI FIN
      go_wp2
      go_roundw
      case rel => exact ⟨k + 1, by omega, by simp, by rw [HE.out]; exact congrArg _ hw, trivial⟩
      case measure => simp [intOf]; omega
    · obtain rfl : k = n := by omega
      go_wp2
      go_ret
      exact ⟨by rw [FIN.out]; rfl, rfl⟩

end Go.Proofs.Ytojmhkdlaalifaa
