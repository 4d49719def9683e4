/-
  Layer 12: the reference's List, From, Differ.
-/
import Derived.Test.YtojmhkdlaalifaaRefR
namespace Go.Proofs.Ytojmhkdlaalifaa
open Go.RowKit
set_option linter.unusedVariables false
set_option linter.unusedSimpArgs false

set_option maxRecDepth 100000 in
set_option maxHeartbeats 1600000 in
theorem refList12_any {B q : Nat} {v : Value} {N : Nat} {l : List Int} (w : World) (h : RRef12 w B q v N l) (hN : N ≤ 65536) (hl : l.length ≤ 100000) (hin : ∀ x ∈ l, 0 ≤ x ∧ x < (N : Int)) :
    Calls Try.prog 17 #[.pointer (some ⟨q, 0, none⟩)] w fun e w' => ∃ A c, e = .returned (.slice A N c) ∧ Ints w' A N c (lstR12 N l) ∧ Below w.heap.size w w' ∧ Newer w.heap.size A := by
  obtain ⟨A, c, rfl, hI⟩ := h.ints
  have HR := Lib.hid h
  have hc0 := h.cell0
  have hc1 := h.cell1
  have HI := Lib.hid hI
  have hcap := hI.cap
  have hmost := hI.most
  have HIN := Lib.hid hin
  obtain ⟨n, hn⟩ : ∃ n, l.length = n := ⟨_, rfl⟩
  rw [hn] at hc1 hl hcap
  clear h hI hin
  obtain ⟨i0, hi0, hz0, hz1, hz2⟩ := info_parts info_i64
  go_enter Try.func17, Try.ntmps17
  go_wp2_with (at_make; go_must (refine wpList_make_full w rfl (.tmp 8) (.tmp 8) _ rfl w.heap.size 3 i0 _ 1 Try.underlying22 hi0 hz0 hz1 .i64 .i64 _ _ N rfl rfl rfl rfl (by rw [hz2]; omega) (by simp only [maxLen]; omega) (Nat.le_refl _) ?_; intro w1 hown1 hg1; have hb1 : Hid (Below w.heap.size w w1) := below_of_grown hg1 (by simp); have HO1 : Hid (OwnI w1 w.heap.size w.heap.size (List.replicate N 0)) := own_zerosI hown1 (Nat.le_refl _); clear hown1 hg1))
  clear hc0 hc1
  go_loopw [4] (fun i wr => ∃ k : Nat, k ≤ n ∧ i = .int .i64 k ∧ Hid (OwnI wr w.heap.size w.heap.size (lstR12 N (l.take k))) ∧ Hid (Below w.heap.size w wr)) (fun i _ => n - (intOf i).toNat)
  case atStart => exact ⟨0, by omega, rfl, by rw [List.take_zero, lstR12_nil]; exact HO1, hb1⟩
  case round =>
    obtain ⟨k, hk, rfl, hO, hb⟩ := hrel
    have HRr := HR.out.later hb.out
    have hc1 := HRr.cell1
    rw [hn] at hc1
    clear HRr
    by_cases hlt : k < n
    · obtain ⟨b, off, hA, _, hc⟩ := (HI.out.below hb.out).row.lit (by rw [i64s_length]; omega)
      have hck := hc k _ (i64s_at l k (by omega))
      obtain ⟨h1, h2⟩ := HIN.out (l[k]'(by omega)) (List.getElem_mem _)
      have ht : l.take (k + 1) = l.take k ++ [l[k]'(by omega)] := List.take_succ_eq_append_getElem (by omega)
      have HT := Lib.hid ht
      clear ht hc
      generalize hx : l[k]'(by omega) = x at *
      clear hx
      obtain ⟨j, rfl⟩ := Int.eq_ofNat_of_zero_le h1
      have hj : j < N := by omega
      have hP := lstR12_push (l := l.take k) hj
      have hcj := hO.out.cell (j := j) (by rw [lstR12_length]; exact hj)
      rw [lstR12_at] at hcj
      have hfj := hO.out.free j
      have hle : cntR12 (l.take k) j ≤ k := Nat.le_trans (cntR12_le _ _) (by simp; omega)
      have hS := Lib.hid (hO.out.set j ((cntR12 (l.take k) j : Int) + 1))
      rw [← hP] at hS
      clear hP
      rw [← HT.out] at hS
      have hbS := Lib.hid (hb.out.setCell (p := ⟨w.heap.size, j, none⟩) (Nat.le_refl _) (.int .i64 ((cntR12 (l.take k) j : Int) + 1)))
      generalize cntR12 (l.take k) j = y at *
      subst hA
      clear HT hO h1 h2
      go_wp2
      go_roundw
      case rel => exact ⟨k + 1, by omega, by simp, hS, hbS⟩
      case measure => simp [intOf]; omega
    · obtain rfl : k = n := by omega
      go_wp2
      go_ret
      have hO2 := hO.out
      rw [show l.take k = l by rw [← hn, List.take_length]] at hO2
      exact ⟨_, _, rfl, hO2.ints (lstR12_length _ _) (by omega), hb.out, fun ad e => by cases e; exact Nat.le_refl _⟩

end Go.Proofs.Ytojmhkdlaalifaa
