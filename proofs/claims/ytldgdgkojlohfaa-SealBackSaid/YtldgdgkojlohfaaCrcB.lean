/-
  Layer 2's array of registers after eight steps.
-/
import Derived.Test.YtldgdgkojlohfaaCrcA
import Derived.Test.YtldgdgkojlohfaaMemD
import Derived.Outline
namespace Go.Proofs.Ytldgdgkojlohfaa
open Go.RowKit
set_option linter.unusedVariables false
set_option linter.unusedSimpArgs false

/-- the array when its first n places are filled -/
def tab (n : Nat) : List Value := (List.range 256).map fun m => .int .u32 (if m < n then (Crc.it 8 m : Int) else 0)

theorem tab_length (n : Nat) : (tab n).length = 256 := by simp [tab]
theorem tab_one (n : Nat) : ∀ v ∈ tab n, v.oneCell' = true := by
  intro v hv
  obtain ⟨_, _, rfl⟩ := List.mem_map.1 hv
  rfl
theorem tab_at (n m : Nat) (h : m < 256) : (tab n)[m]? = some (.int .u32 (if m < n then (Crc.it 8 m : Int) else 0)) := by
  simp [tab, h]
theorem tab_set (n : Nat) (h : n < 256) : (tab n).set n (.int .u32 (Crc.it 8 n : Int)) = tab (n + 1) := by
  apply List.ext_getElem?
  intro m
  rw [List.getElem?_set]
  by_cases hm : m < 256
  · rw [tab_at _ _ hm, tab_at _ _ hm, tab_length]
    by_cases e : n = m
    · subst e; simp [hm]
    · rw [if_neg e]
      by_cases h1 : m < n
      · simp [h1, show m < n + 1 by omega]
      · simp [h1, show ¬ m < n + 1 by omega]
  · rw [List.getElem?_eq_none (by rw [tab_length]; omega), List.getElem?_eq_none (by rw [tab_length]; omega), if_neg (by omega)]

theorem tab_zero : (Try.prog.info? 64).map (·.zero) = some (some (.agg (tab 0).toArray)) := by kernel_rfl
theorem tab_size : (Try.prog.info? 64).map (·.size) = some 256 := by kernel_rfl

theorem tab_size_of (n : Nat) : (Try.prog.info? 64).map (·.size) = some (tab n).length := by rw [tab_length]; exact tab_size

theorem tab_one_zero : tab 1 = tab 0 := by
  have h := tab_set 0 (by omega)
  have hz : Crc.it 8 0 = 0 := Crc.it_zero 8
  rw [← h, hz]
  apply List.ext_getElem?
  intro m
  rw [List.getElem?_set]
  by_cases e : 0 = m
  · subst e
    rw [if_pos rfl, tab_length, tab_at _ _ (by omega)]
    rfl
  · rw [if_neg e]

theorem eight_lt {j n : Nat} (hn : n = 2 ^ j) (h : n < 256) : j < 8 := by
  subst hn
  exact (Nat.pow_lt_pow_iff_right (by omega)).1 (show 2 ^ j < 2 ^ 8 from h)

theorem tab_fill {j n low : Nat} (hn : n = 2 ^ j) (hl : low < n) (h : n < 256) : n + low < 256 ∧ Crc.it 8 (n + low) = Crc.it 8 n ^^^ Crc.it 8 low := by
  have hj := eight_lt hn h
  subst hn
  refine ⟨?_, by rw [← Crc.it_xor, Crc.pow_xor j low hl]⟩
  have : 2 ^ j ≤ 2 ^ 7 := Nat.pow_le_pow_right (by omega) (by omega)
  omega

set_option maxRecDepth 100000 in
set_option maxHeartbeats 1000000 in
theorem eight_any (w : World) :
    Calls Try.prog 42 #[] w fun e w' => e = .returned (.agg (tab 256).toArray) ∧ Below w.heap.size w w' := by
  have tokA : True := trivial
  go_enter Try.func42, Try.ntmps42
  go_wp2_with (first
    | (have _t := tokA; with_reducible refine wpList_alloc_row rfl 64 rfl (tab 0) tab_zero ?_; intro wA gA HA HAg hAs hAb; clear tokA _t)
    | (with_reducible refine wpList_alloc_row rfl 64 rfl (tab 0) tab_zero ?_; intro wB gB HB HBg hBs hBb))
  have HA2 : Hid (Blk wB gA 64 (tab 0)) := HA.out.below hBb HA.out.lt
  have HB2 : Hid (Blk wB gB 64 (tab 1)) := by rw [tab_one_zero]; exact HB.out
  have hbel : Below w.heap.size w wB := hAb.trans (hBb.mono (by omega))
  have hgA : w.heap.size ≤ gA := by have := HAg.out; omega
  have hgAB : gA < gB := by have := HAg.out; have := HBg.out; omega
  clear HA HB HAg HBg hAb hBb hAs hBs
  go_loopw [2] (fun b wr => ∃ j n : Nat, Hid (n = 2 ^ j) ∧ 1 ≤ n ∧ n ≤ 256 ∧ b = .int .i64 n ∧ Hid (Blk wr gB 64 (tab n)) ∧ Hid (Blk wr gA 64 (tab 0)) ∧ Below w.heap.size w wr) (fun b _ => 256 - (intOf b).toNat)
  case atStart => exact ⟨0, 1, rfl, by omega, by omega, rfl, HB2, HA2, hbel⟩
  case round =>
    clear HB2 HA2 hbel
    obtain ⟨j, n, HN, hn1, hn2, rfl, HB2, HA2, hbel⟩ := hrel
    obtain ⟨wo, rfl⟩ : ∃ wo : World, wo = wr := ⟨_, rfl⟩
    by_cases hlt : n < 256
    · have hd : decide ((n : Int) < 256) = true := by simp; omega
      go_wp2
      go_loop [3, 11] (fun r i => ∃ k m : Nat, k ≤ 8 ∧ i = .int .i64 k ∧ r = .int .u32 m ∧ m < 4294967296 ∧ Hid (m = Crc.it k n)) (fun _ i => 8 - (intOf i).toNat)
      case atStart => exact ⟨0, n, by omega, rfl, rfl, by omega, rfl⟩
      case round =>
        obtain ⟨k, m, hk, rfl, rfl, hm, HM⟩ := hrel
        by_cases hk8 : k < 8
        · have HS : Hid (Crc.step m = Crc.it (k + 1) n) := by rw [Crc.it_succ, ← HM.out]; rfl
          have hl := Crc.step_lt hm
          go_wp2_with (go_at_call 47; refine (step_any m hm _).mono ?_; rintro e w' ⟨rfl, rfl⟩)
          go_round
          case rel => exact ⟨k + 1, Crc.step m, by omega, by go_num, rfl, hl, HS⟩
          case measure => simp [intOf]; omega
        · obtain rfl : k = 8 := by omega
          go_wp2
          go_loopw [4, 17] (fun _ i wr => ∃ low : Nat, low ≤ n ∧ i = .int .i64 low ∧ Hid (Blk wr gB 64 (tab (n + low))) ∧ Hid (Blk wr gA 64 (tab 0)) ∧ Below w.heap.size w wr) (fun _ i _ => n - (intOf i).toNat)
          case atStart => exact ⟨0, by omega, rfl, HB2, HA2, hbel⟩
          case round =>
            clear HB2 HA2 hbel
            obtain ⟨low, hlow, rfl, HB2, HA2, hbel⟩ := hrel
            by_cases hlw : low < n
            · obtain ⟨hf1, hf2⟩ := tab_fill HN.out hlw hlt
              have hil := Crc.it_lt 8 (n := low) (by omega)
              have hc0 : wr.cell? ⟨gB, low, none⟩ = some (.int .u32 (Crc.it 8 low : Int)) := by
                rw [HB2.out.cell low (by rw [tab_length]; omega)]
                have := tab_at (n + low) low (by omega)
                rw [List.getElem?_eq_getElem (by rw [tab_length]; omega)] at this
                rw [this, if_pos (by omega)]
              have hc1 : wr.cell? ⟨gB, n + low, none⟩ = some (tab (n + low))[n + low]! := by
                rw [HB2.out.cell (n + low) (by rw [tab_length]; omega)]
                simp [tab_length, hf1]
              have hfr := HB2.out.free (n + low)
              have hx : bits .xor .u32 (m : Int) (Crc.it 8 low : Int) = ((Crc.it 8 (n + low) : Nat) : Int) := by
                rw [u32_xor_nat m _ hm hil, HM.out, hf2]
              have HF2 := Lib.hid hf2
              generalize (tab (n + low))[n + low]! = old at *
              generalize Crc.it 8 low = il at *
              clear hf2
              go_wp2
              go_roundw
              case rel =>
                refine ⟨low + 1, by omega, by go_num, ?_, HA2.out.set_other _ _ (by omega), hbel.setCell (by show w.heap.size ≤ gB; omega) _⟩
                have h := HB2.out.set (n + low) (.int .u32 ((Crc.it 8 (n + low) : Nat) : Int))
                rw [tab_set (n + low) hf1] at h
                exact h
              case measure => simp [intOf]; omega
            · obtain rfl : low = n := by omega
              have HJ : Hid (low * 2 = 2 ^ (j + 1)) := by have := HN.out; rw [Nat.pow_succ, ← this]; rfl
              have hle : low * 2 ≤ 256 := by
                have h1 := eight_lt HN.out hlt
                have h2 : 2 ^ (j + 1) ≤ 2 ^ 8 := Nat.pow_le_pow_right (by omega) (by omega)
                have h3 := HJ.out
                omega
              go_wp2
              go_roundw
              case rel =>
                refine ⟨j + 1, low * 2, HJ, by omega, hle, by go_num, ?_, HA2, hbel⟩
                rw [show low * 2 = low + low by omega]
                exact HB2
              case measure => simp [intOf]; omega
    · obtain rfl : n = 256 := by omega
      go_wp2_with (first
        | (refine wpList_load_whole rfl 64 _ rfl gB (by rfl) 64 (tab 256) 256 36 HB2 Try.underlying64 (tab_size_of 256) ?_)
        | (refine wpList_store_whole rfl 64 _ _ rfl gA 64 (tab 0) (tab 256) (by rfl) (by rfl) HA2 (tab_size_of 256) (by rw [tab_length, tab_length]) (tab_one 256) ?_; intro wS HS hSs hSb HSo))
      exact bodyPost_ret (results_whole Try.results42 _ _ gA 64 (tab 256) 256 36 (by rfl) HS Try.underlying64 (tab_size_of 256)) rfl ⟨rfl, hbel.trans (hSb.mono hgA)⟩

end Go.Proofs.Ytldgdgkojlohfaa
