/-
  Joined: CrcB, CrcC, CrcE, CrcD.
-/
import Derived.Outline
import Derived.Test.YtnjlganofjkpfaaGreatJBldB05
import Derived.Test.YtnjlganofjkpfaaGreatJBldB03
import Derived.Test.YtnjlganofjkpfaaGreatJBldB02
import Derived.OwnWalk
import Derived.Lib.SlBytesConst
/-
  Layer 2's array of registers after eight steps.
-/
namespace Go.Proofs.YtnjlganofjkpfaaGreat
open Go.RowKit
set_option linter.unusedVariables false
set_option linter.unusedSimpArgs false

/-- the array when its first n places are filled -/
def tab (n : Nat) : List Value := (List.range 256).map fun m => .int .u32 (if m < n then (Crc.it 8 m : Int) else 0)

theorem tab_length (n : Nat) : (tab n).length = 256 := by simp [tab]
theorem tab_one (n : Nat) : ∀ v ∈ tab n, v.oneCell' = true := by
  intro v hv
  obtain ⟨_, _, rfl⟩ := List.mem_map.1 hv
  rfl
theorem tab_at (n m : Nat) (h : m < 256) : (tab n)[m]? = some (.int .u32 (if m < n then (Crc.it 8 m : Int) else 0)) := by
  simp [tab, h]
theorem tab_set (n : Nat) (h : n < 256) : (tab n).set n (.int .u32 (Crc.it 8 n : Int)) = tab (n + 1) := by
  apply List.ext_getElem?
  intro m
  rw [List.getElem?_set]
  by_cases hm : m < 256
  · rw [tab_at _ _ hm, tab_at _ _ hm, tab_length]
    by_cases e : n = m
    · subst e; simp [hm]
    · rw [if_neg e]
      by_cases h1 : m < n
      · simp [h1, show m < n + 1 by omega]
      · simp [h1, show ¬ m < n + 1 by omega]
  · rw [List.getElem?_eq_none (by rw [tab_length]; omega), List.getElem?_eq_none (by rw [tab_length]; omega), if_neg (by omega)]

theorem tab_zero : (Tryz.prog.info? 161).map (·.zero) = some (some (.agg (tab 0).toArray)) := by kernel_rfl
theorem tab_size : (Tryz.prog.info? 161).map (·.size) = some 256 := by kernel_rfl

theorem tab_size_of (n : Nat) : (Tryz.prog.info? 161).map (·.size) = some (tab n).length := by rw [tab_length]; exact tab_size

theorem tab_one_zero : tab 1 = tab 0 := by
  have h := tab_set 0 (by omega)
  have hz : Crc.it 8 0 = 0 := Crc.it_zero 8
  rw [← h, hz]
  apply List.ext_getElem?
  intro m
  rw [List.getElem?_set]
  by_cases e : 0 = m
  · subst e
    rw [if_pos rfl, tab_length, tab_at _ _ (by omega)]
    rfl
  · rw [if_neg e]

theorem eight_lt {j n : Nat} (hn : n = 2 ^ j) (h : n < 256) : j < 8 := by
  subst hn
  exact (Nat.pow_lt_pow_iff_right (by omega)).1 (show 2 ^ j < 2 ^ 8 from h)

theorem tab_fill {j n low : Nat} (hn : n = 2 ^ j) (hl : low < n) (h : n < 256) : n + low < 256 ∧ Crc.it 8 (n + low) = Crc.it 8 n ^^^ Crc.it 8 low := by
  have hj := eight_lt hn h
  subst hn
  refine ⟨?_, by rw [← Crc.it_xor, Crc.pow_xor j low hl]⟩
  have : 2 ^ j ≤ 2 ^ 7 := Nat.pow_le_pow_right (by omega) (by omega)
  omega

set_option maxRecDepth 100000 in
set_option maxHeartbeats 1000000 in
theorem eight_any (w : World) :
    Calls Tryz.prog 102 #[] w fun e w' => e = .returned (.agg (tab 256).toArray) ∧ Below w.heap.size w w' := by
  have tokA : True := trivial
  go_enter Tryz.func102, Tryz.ntmps102
  go_wp2_with (first
    | (have _t := tokA; with_reducible refine wpList_alloc_row rfl 161 rfl (tab 0) tab_zero ?_; intro wA gA HA HAg hAs hAb; clear tokA _t)
    | (with_reducible refine wpList_alloc_row rfl 161 rfl (tab 0) tab_zero ?_; intro wB gB HB HBg hBs hBb))
  have HA2 : Hid (Blk wB gA 161 (tab 0)) := HA.out.below hBb HA.out.lt
  have HB2 : Hid (Blk wB gB 161 (tab 1)) := by rw [tab_one_zero]; exact HB.out
  have hbel : Below w.heap.size w wB := hAb.trans (hBb.mono (by omega))
  have hgA : w.heap.size ≤ gA := by have := HAg.out; omega
  have hgAB : gA < gB := by have := HAg.out; have := HBg.out; omega
  clear HA HB HAg HBg hAb hBb hAs hBs
  go_loopw [2] (fun b wr => ∃ j n : Nat, Hid (n = 2 ^ j) ∧ 1 ≤ n ∧ n ≤ 256 ∧ b = .int .i64 n ∧ Hid (Blk wr gB 161 (tab n)) ∧ Hid (Blk wr gA 161 (tab 0)) ∧ Below w.heap.size w wr) (fun b _ => 256 - (intOf b).toNat)
  case atStart => exact ⟨0, 1, rfl, by omega, by omega, rfl, HB2, HA2, hbel⟩
  case round =>
    clear HB2 HA2 hbel
    obtain ⟨j, n, HN, hn1, hn2, rfl, HB2, HA2, hbel⟩ := hrel
    obtain ⟨wo, rfl⟩ : ∃ wo : World, wo = wr := ⟨_, rfl⟩
    by_cases hlt : n < 256
    · have hd : decide ((n : Int) < 256) = true := by simp; omega
      go_wp2
      go_loop [3, 11] (fun r i => ∃ k m : Nat, k ≤ 8 ∧ i = .int .i64 k ∧ r = .int .u32 m ∧ m < 4294967296 ∧ Hid (m = Crc.it k n)) (fun _ i => 8 - (intOf i).toNat)
      case atStart => exact ⟨0, n, by omega, rfl, rfl, by omega, rfl⟩
      case round =>
        obtain ⟨k, m, hk, rfl, rfl, hm, HM⟩ := hrel
        by_cases hk8 : k < 8
        · have HS : Hid (Crc.step m = Crc.it (k + 1) n) := by rw [Crc.it_succ, ← HM.out]; rfl
          have hl := Crc.step_lt hm
          go_wp2_with (go_at_call 112; refine (step_any m hm _).mono ?_; rintro e w' ⟨rfl, rfl⟩)
          go_round
          case rel => exact ⟨k + 1, Crc.step m, by omega, by go_num, rfl, hl, HS⟩
          case measure => simp [intOf]; omega
        · obtain rfl : k = 8 := by omega
          go_wp2
          go_loopw [4, 17] (fun _ i wr => ∃ low : Nat, low ≤ n ∧ i = .int .i64 low ∧ Hid (Blk wr gB 161 (tab (n + low))) ∧ Hid (Blk wr gA 161 (tab 0)) ∧ Below w.heap.size w wr) (fun _ i _ => n - (intOf i).toNat)
          case atStart => exact ⟨0, by omega, rfl, HB2, HA2, hbel⟩
          case round =>
            clear HB2 HA2 hbel
            obtain ⟨low, hlow, rfl, HB2, HA2, hbel⟩ := hrel
            by_cases hlw : low < n
            · obtain ⟨hf1, hf2⟩ := tab_fill HN.out hlw hlt
              have hil := Crc.it_lt 8 (n := low) (by omega)
              have hc0 : wr.cell? ⟨gB, low, none⟩ = some (.int .u32 (Crc.it 8 low : Int)) := by
                rw [HB2.out.cell low (by rw [tab_length]; omega)]
                have := tab_at (n + low) low (by omega)
                rw [List.getElem?_eq_getElem (by rw [tab_length]; omega)] at this
                rw [this, if_pos (by omega)]
              have hc1 : wr.cell? ⟨gB, n + low, none⟩ = some (tab (n + low))[n + low]! := by
                rw [HB2.out.cell (n + low) (by rw [tab_length]; omega)]
                simp [tab_length, hf1]
              have hfr := HB2.out.free (n + low)
              have hx : bits .xor .u32 (m : Int) (Crc.it 8 low : Int) = ((Crc.it 8 (n + low) : Nat) : Int) := by
                rw [u32_xor_nat m _ hm hil, HM.out, hf2]
              have HF2 := Lib.hid hf2
              generalize (tab (n + low))[n + low]! = old at *
              generalize Crc.it 8 low = il at *
              clear hf2
              go_wp2
              go_roundw
              case rel =>
                refine ⟨low + 1, by omega, by go_num, ?_, HA2.out.set_other _ _ (by omega), hbel.setCell (by show w.heap.size ≤ gB; omega) _⟩
                have h := HB2.out.set (n + low) (.int .u32 ((Crc.it 8 (n + low) : Nat) : Int))
                rw [tab_set (n + low) hf1] at h
                exact h
              case measure => simp [intOf]; omega
            · obtain rfl : low = n := by omega
              have HJ : Hid (low * 2 = 2 ^ (j + 1)) := by have := HN.out; rw [Nat.pow_succ, ← this]; rfl
              have hle : low * 2 ≤ 256 := by
                have h1 := eight_lt HN.out hlt
                have h2 : 2 ^ (j + 1) ≤ 2 ^ 8 := Nat.pow_le_pow_right (by omega) (by omega)
                have h3 := HJ.out
                omega
              go_wp2
              go_roundw
              case rel =>
                refine ⟨j + 1, low * 2, HJ, by omega, hle, by go_num, ?_, HA2, hbel⟩
                rw [show low * 2 = low + low by omega]
                exact HB2
              case measure => simp [intOf]; omega
    · obtain rfl : n = 256 := by omega
      go_wp2_with (first
        | (refine wpList_load_whole rfl 161 _ rfl gB (by rfl) 161 (tab 256) 256 160 HB2 Tryz.underlying161 (tab_size_of 256) ?_)
        | (refine wpList_store_whole rfl 161 _ _ rfl gA 161 (tab 0) (tab 256) (by rfl) (by rfl) HA2 (tab_size_of 256) (by rw [tab_length, tab_length]) (tab_one 256) ?_; intro wS HS hSs hSb HSo))
      exact bodyPost_ret (results_whole Tryz.results102 _ _ gA 161 (tab 256) 256 160 (by rfl) HS Tryz.underlying161 (tab_size_of 256)) rfl ⟨rfl, hbel.trans (hSb.mono hgA)⟩

end Go.Proofs.YtnjlganofjkpfaaGreat

/-
  Layer 2's register over bytes; Sum and More.
-/
namespace Go.Proofs.YtnjlganofjkpfaaGreat
open Go.RowKit
set_option linter.unusedVariables false
set_option linter.unusedSimpArgs false

theorem tab_full (x : Nat) (h : x < 256) {w : World} {g : Nat} (hB : Blk w g 161 (tab 256)) : w.cell? ⟨g, x, none⟩ = some (.int .u32 (Crc.it 8 x : Int)) := by
  rw [hB.cell x (by rw [tab_length]; omega)]
  have := tab_at 256 x h
  rw [List.getElem?_eq_getElem (by rw [tab_length]; omega), if_pos h] at this
  exact this

set_option maxRecDepth 100000 in
set_option maxHeartbeats 400000 in
theorem feed_any (g : Nat) (A : Option Addr) (n c : Nat) (l : List UInt8) (r0 : Nat) (w : World) (hB : Blk w g 161 (tab 256)) (h : Bytes8 w A n c l) (hr : r0 < 4294967296) :
    Calls Tryz.prog 103 #[.pointer (some ⟨g, 0, none⟩), .int .u32 (r0 : Int), .slice A n c] w fun e w' => e = .returned (.int .u32 (Crc.feed r0 l : Int)) ∧ w = w' := by
  have hm := h.le
  by_cases hp : 0 < n
  · obtain ⟨b, off, rfl, hb, hcell⟩ := h.row.lit (by rw [u8s_length, h.len]; omega)
    have HC := Lib.hid hcell
    have HL := Lib.hid h.len
    have HB := Lib.hid hB
    clear h hcell hB
    go_enter Tryz.func103, Tryz.ntmps103
    go_wp2
    go_loop [1, 11] (fun r i => ∃ k m : Nat, k ≤ n ∧ i = .int .i64 k ∧ r = .int .u32 m ∧ m < 4294967296 ∧ Hid (m = Crc.feed r0 (l.take k))) (fun _ i => n - (intOf i).toNat)
    case atStart => exact ⟨0, r0, by omega, rfl, rfl, hr, rfl⟩
    case round =>
      obtain ⟨k, m, hk, rfl, rfl, hmm, HM⟩ := hrel
      by_cases hlt : k < n
      · have hkl : k < l.length := by have := HL.out; omega
        have hcu := UInt8.toNat_lt l[k]
        have hst : Hid (Crc.upd m l[k].toNat = Crc.feed r0 (l.take (k + 1))) := by rw [Crc.feed_take_succ _ _ _ hkl, ← HM.out]; rfl
        have hul := Crc.upd_lt hmm l[k]
        have hc0 : w.cell? ⟨b, off + k, none⟩ = some (.int .u8 (l[k].toNat : Int)) := HC.out k _ (u8s_at l k hkl)
        have hut := Crc.upd_table m l[k].toNat
        generalize l[k].toNat = u at *
        have hxl : (m % 256) ^^^ u < 256 := Nat.xor_lt_two_pow (n := 8) (by omega) (by omega)
        have e1 : bits .xor .u8 ((m : Int) % 256) (u : Int) = (((m % 256) ^^^ u : Nat) : Int) := by
          have := u8_xor_nat (m % 256) u (by omega) (by omega)
          rw [← this]
          congr 1
        have hc1 := tab_full _ hxl HB.out
        have hil := Crc.it_lt 8 (n := (m % 256) ^^^ u) (by omega)
        have e2 : bits .xor .u32 (Crc.it 8 ((m % 256) ^^^ u) : Int) ((m : Int) / 256) = (Crc.upd m u : Int) := by
          rw [← hut, ← u32_xor_nat _ (m / 256) hil (by omega)]
          congr 1
        generalize (m % 256) ^^^ u = x at *
        generalize Crc.upd m u = up at *
        generalize Crc.it 8 x = ix at *
        clear hut
        go_wp2
        go_round
        case rel => exact ⟨k + 1, up, by omega, by go_num, rfl, hul, hst⟩
        case measure => simp [intOf]; omega
      · obtain rfl : k = n := by omega
        have HM2 : Hid (m = Crc.feed r0 l) := by
          have := HM.out
          rwa [List.take_of_length_le (by have := HL.out; omega)] at this
        go_wp2
        go_ret
        exact ⟨ret_int (by rw [HM2.out]), rfl⟩
  · obtain rfl : n = 0 := by omega
    obtain rfl : l = [] := List.eq_nil_of_length_eq_zero h.len
    clear h hB
    go_enter Tryz.func103, Tryz.ntmps103
    go_wp2
    refine wp_loop_rounds 1 ?_
    rw [rounds_succ]
    go_wp2
    go_ret
    exact ⟨rfl, rfl⟩

theorem flat_take_succ (ll : List (List UInt8)) (k : Nat) (h : k < ll.length) : (ll.take (k + 1)).flatten = (ll.take k).flatten ++ ll[k] := by
  rw [List.take_succ_eq_append_getElem h, List.flatten_append]
  simp

theorem xor_ones (m : Nat) (h : m < 4294967296) : bits .xor .u32 (m : Int) 4294967295 = ((m ^^^ Crc.ones : Nat) : Int) :=
  u32_xor_nat m 4294967295 h (by omega)

set_option maxRecDepth 100000 in
set_option maxHeartbeats 800000 in
theorem Sum_any (A : Option Addr) (n c : Nat) (ll : List (List UInt8)) (w : World) (h : Pcs w A n c ll) :
    Calls Tryz.prog 95 #[.slice A n c] w fun e w' => e = .returned (.int .i64 (Crc.sum ll.flatten : Int)) ∧ Below w.heap.size w w' := by
  have hm := h.most
  have hcp := h.cap
  by_cases hp : 0 < n
  · obtain ⟨b, off, rfl, hb, hcell⟩ := h.lit hp
    have HC := Lib.hid hcell
    have HL := Lib.hid h.len
    clear h hcell
    go_enter Tryz.func95, Tryz.ntmps95
    go_wp2_with (first
      | (go_at_call 102; refine (eight_any _).mono ?_; rintro e w1 ⟨rfl, hb1⟩)
      | (refine wpList_alloc_row rfl 161 rfl (tab 0) tab_zero ?_; intro w2 g HB HBg hBs hBb)
      | (refine wpList_store_whole rfl 161 _ _ rfl g 161 (tab 0) (tab 256) (by rfl) (by rfl) HB (tab_size_of 256) (by rw [tab_length, tab_length]) (tab_one 256) ?_; intro w3 HS hSs hSb HSo))
    have hbel : Below w.heap.size w w3 := hb1.trans ((hBb.mono hb1.size).trans (hSb.mono (by have := HBg.out; have := hb1.size; omega)))
    clear HB HBg hBs hBb hSb HSo hSs hb1
    go_loop [4, 10] (fun r i => ∃ k m : Nat, k ≤ n ∧ i = .int .i64 k ∧ r = .int .u32 m ∧ m < 4294967296 ∧ Hid (m = Crc.feed Crc.ones (ll.take k).flatten)) (fun _ i => n - (intOf i).toNat)
    case atStart => exact ⟨0, 4294967295, by omega, rfl, rfl, by omega, rfl⟩
    case round =>
      obtain ⟨k, m, hk, rfl, rfl, hmm, HM⟩ := hrel
      by_cases hlt : k < n
      · have hkl : k < ll.length := by have := HL.out; omega
        obtain ⟨A', m', c', hc0, hB0⟩ := HC.out k hkl
        have hc1 : w3.cell? ⟨b, off + k, none⟩ = some (.slice A' m' c') := (hbel.cell (p := ⟨b, off + k, none⟩) hb).trans hc0
        have F := Lib.hid (feed_any g A' m' c' ll[k] m w3 HS.out (hB0.below hbel) hmm)
        have hfl := Crc.feed_lt hmm ll[k]
        have hst : Hid (Crc.feed m ll[k] = Crc.feed Crc.ones (ll.take (k + 1)).flatten) := by
          rw [flat_take_succ _ _ hkl, Crc.feed_append, ← HM.out]
          rfl
        generalize Crc.feed m ll[k] = up at *
        clear hc0 hB0
        go_wp2_with (go_at_call 103; refine (F.out).mono ?_; rintro e w' ⟨rfl, rfl⟩)
        go_round
        case rel => exact ⟨k + 1, up, by omega, by go_num, rfl, hfl, hst⟩
        case measure => simp [intOf]; omega
      · obtain rfl : k = n := by omega
        have hx := xor_ones m hmm
        have hxl := Crc.xor_lt hmm Crc.ones_lt
        have HM2 : Hid (m ^^^ Crc.ones = Crc.sum ll.flatten) := by
          have := HM.out
          rw [List.take_of_length_le (by have := HL.out; omega)] at this
          rw [this]
          rfl
        generalize m ^^^ Crc.ones = z at *
        go_wp2
        go_ret
        exact ⟨ret_int (by rw [HM2.out]), hbel⟩
  · obtain rfl : n = 0 := by omega
    obtain rfl : ll = [] := List.eq_nil_of_length_eq_zero h.len
    clear h
    go_enter Tryz.func95, Tryz.ntmps95
    go_wp2_with (first
      | (go_at_call 102; refine (eight_any _).mono ?_; rintro e w1 ⟨rfl, hb1⟩)
      | (refine wpList_alloc_row rfl 161 rfl (tab 0) tab_zero ?_; intro w2 g HB HBg hBs hBb)
      | (refine wpList_store_whole rfl 161 _ _ rfl g 161 (tab 0) (tab 256) (by rfl) (by rfl) HB (tab_size_of 256) (by rw [tab_length, tab_length]) (tab_one 256) ?_; intro w3 HS hSs hSb HSo))
    have hbel : Below w.heap.size w w3 := hb1.trans ((hBb.mono hb1.size).trans (hSb.mono (by have := HBg.out; have := hb1.size; omega)))
    clear HB HBg hBs hBb hSb HSo hSs hb1
    have hx : bits .xor .u32 4294967295 4294967295 = 0 := by decide
    refine wp_loop_rounds 1 ?_
    rw [rounds_succ]
    go_wp2
    go_ret
    exact ⟨ret_int (by rw [List.flatten_nil, Crc.sum_nil]; rfl), hbel⟩

end Go.Proofs.YtnjlganofjkpfaaGreat

/-
  The checksum of one slice, and of none.
-/
namespace Go.Proofs.YtnjlganofjkpfaaGreat
open Go.RowKit
set_option linter.unusedVariables false
set_option linter.unusedSimpArgs false

theorem Sum_one (A : Option Addr) (n c : Nat) (l : List UInt8) (w : World) (h : Bytes8 w A n c l) :
    Calls Tryz.prog 95 #[.slice (some ⟨w.heap.size, 0, none⟩) 1 1] (w.alloc (.cells #[.slice A n c] 22)) fun e w' => e = .returned (.int .i64 (Crc.sum l : Int)) ∧ Below w.heap.size w w' := by
  refine (Sum_any _ 1 1 [l] _ (Pcs.one h _)).mono ?_
  rintro e w' ⟨rfl, hb⟩
  exact ⟨by simp, ((Below.refl _ _).alloc (Nat.le_refl _) _).trans (hb.mono (by simp))⟩

end Go.Proofs.YtnjlganofjkpfaaGreat

/-
  Layer 2's Table; the reference's Sum and More; the document's example.
-/
namespace Go.Proofs.YtnjlganofjkpfaaGreat
open Go.RowKit
set_option linter.unusedVariables false
set_option linter.unusedSimpArgs false

end Go.Proofs.YtnjlganofjkpfaaGreat
