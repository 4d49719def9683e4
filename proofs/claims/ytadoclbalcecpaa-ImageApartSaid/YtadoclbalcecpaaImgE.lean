/-
  Layer 3's laws: few writes.
-/
import Derived.Test.YtadoclbalcecpaaImgD
import Derived.Test.YtadoclbalcecpaaOpenC
namespace Go.Proofs.Ytadoclbalcecpaa
open Go.RowKit
set_option linter.unusedVariables false
set_option linter.unusedSimpArgs false

def sumL (ll : List (Int × List UInt8)) : Nat := (ll.map fun s => s.2.length).sum
theorem sumL_succ {ll : List (Int × List UInt8)} {k : Nat} (h : k < ll.length) : sumL (ll.take (k + 1)) = sumL (ll.take k) + ll[k].2.length := by
  unfold sumL
  rw [List.take_succ_eq_append_getElem h, List.map_append, List.sum_append]
  simp
theorem sumL_mem {ll : List (Int × List UInt8)} {s : Int × List UInt8} (h : s ∈ ll) : s.2.length ≤ sumL ll := by
  unfold sumL
  induction ll with
  | nil => cases h
  | cons x r ih =>
    simp only [List.map_cons, List.sum_cons]
    rcases List.mem_cons.1 h with rfl | h
    · omega
    · have := ih h; omega

/-- the writes are few -/
def fewB (ll : List (Int × List UInt8)) : Bool := decide (ll.length ≤ 30) && decide (sumL ll ≤ 9000)

theorem bool_ret {a b : Bool} (h : a = b) : Ending.returned (.bool a) = .returned (.bool b) := by rw [h]

set_option maxHeartbeats 800000 in
theorem few_any (A : Option Addr) (n c : Nat) (ll : List (Int × List UInt8)) (w : World) (h : Stp w A n c ll) (hR : ∀ s ∈ ll, s.2.length ≤ 140737488351232) :
    Calls Try.prog 8 #[.slice A n c] w fun e w' => e = .returned (.bool (fewB ll)) ∧ w = w' := by
  have hm := h.most
  have hcp := h.cap
  by_cases hp : 0 < n
  · obtain ⟨b, off, rfl, hb, hcell⟩ := h.lit hp
    have HL := Lib.hid h.len
    have HC := Lib.hid hcell
    have HR := Lib.hid hR
    clear h hcell hR
    go_enter Try.func8, Try.ntmps8
    go_wp2
    go_loop [3, 4] (fun s i => ∃ k t : Nat, k ≤ n ∧ k ≤ 31 ∧ i = .int .i64 k ∧ s = .int .i64 t ∧ Hid (t = sumL (ll.take k)) ∧ t ≤ k * 140737488351232) (fun _ i => n - (intOf i).toNat)
    case atStart => exact ⟨0, 0, by omega, by omega, rfl, rfl, rfl, by omega⟩
    case round =>
      obtain ⟨k, t, hk, hk2, rfl, rfl, HT, ht⟩ := hrel
      by_cases hlt : k < n
      · by_cases h31 : k < 31
        · have hkl : k < ll.length := by have := HL.out; omega
          obtain ⟨A', m', c', hc0, hc1, hB0⟩ := HC.out k hkl
          have hm1 := hB0.len
          have hm2 := HR.out ll[k] (List.getElem_mem _)
          have HT2 : Hid (t + m' = sumL (ll.take (k + 1))) := by
            rw [sumL_succ hkl, ← HT.out, hm1]
            rfl
          have ht2 : t + m' ≤ (k + 1) * 140737488351232 := by omega
          have hix : off + k * 2 + 1 = off + (k * 2 + 1) := by omega
          clear hB0 hm1 hm2
          go_wp2
          go_round
          case rel => exact ⟨k + 1, t + m', by omega, by omega, by go_num, by go_num, HT2, ht2⟩
          case measure => simp [intOf]; omega
        · have hn30 : ¬ n ≤ 30 := by omega
          have HF : Hid (fewB ll = false) := by
            have := HL.out
            show _ = _
            simp [fewB]; omega
          go_wp2
          go_ret
          exact ⟨bool_ret HF.out.symm, rfl⟩
      · obtain rfl : k = n := by omega
        by_cases h30 : k ≤ 30
        · have HF : Hid (decide ((t : Int) ≤ 9000) = fewB ll) := by
            have h1 := HL.out
            have h2 := HT.out
            rw [List.take_of_length_le (by omega)] at h2
            show _ = _
            have h4 : ll.length ≤ 30 := by omega
            rw [h2]
            simp only [fewB, h4, decide_true, Bool.true_and]
            exact decide_eq_decide.2 (by omega)
          go_wp2
          go_ret
          exact ⟨bool_ret HF.out, rfl⟩
        · have HF : Hid (fewB ll = false) := by
            have := HL.out
            show _ = _
            simp [fewB]; omega
          go_wp2
          go_ret
          exact ⟨bool_ret HF.out.symm, rfl⟩
  · obtain rfl : n = 0 := by omega
    obtain rfl : ll = [] := List.eq_nil_of_length_eq_zero h.len
    clear h
    go_enter Try.func8, Try.ntmps8
    go_wp2
    refine wp_loop_rounds 1 ?_
    rw [rounds_succ]
    go_wp2
    go_ret
    exact ⟨rfl, rfl⟩

/-- Write, whatever block and bytes -/
theorem Write_any {B p g n : Nat} {L : List UInt8} (k : Int) (A : Option Addr) (m c : Nat) (l : List UInt8) (w : World) (h : Img w B p g L) (hn : L.length = n * 256) (hl : Bytes8 w A m c l) :
    Calls Try.prog 12 #[.pointer (some ⟨p, 0, none⟩), .int .i64 k, .slice A m c] w fun e w' => ∃ x L', e = .returned (.int .i64 x) ∧ Kept g w w' ∧ Img w' B p g L' ∧ L'.length = n * 256 := by
  by_cases hk : k < 0 ∨ (n : Int) ≤ k
  · refine (Write_bad p k n A m c w (Blocks_img w h hn) hk).mono ?_
    rintro e w' ⟨rfl, rfl⟩
    exact ⟨_, L, rfl, Kept.refl _ _, h, hn⟩
  · obtain ⟨j, rfl⟩ := Int.eq_ofNat_of_zero_le (show 0 ≤ k by omega)
    have hj : j < n := by omega
    by_cases hm : m = 256
    · subst hm
      refine (Write_img j A c w h hn hj hl).mono ?_
      rintro e w' ⟨rfl, hk, hi⟩
      exact ⟨_, _, rfl, hk, hi, by rw [length_splice _ _ _ (by have := hl.len; omega), hn]⟩
    · refine (Write_size j A m c w h hn hj hm).mono ?_
      rintro e w' ⟨rfl, rfl⟩
      exact ⟨_, L, rfl, Kept.refl _ _, h, hn⟩

end Go.Proofs.Ytadoclbalcecpaa
